/- The statement on what any bytes with a head and a sum mean: the walk. -/
import Derived.Test.YtbbcfghlhgaofacGreatDoorMg19
import Derived.Test.YtbbcfghlhgaofacGreatDoorMg21
namespace Go.Proofs.YtbbcfghlhgaofacGreatDoor
open Go.RowKit Pm Cn Cd Nf

/-- What a reader tells, by what the bits mean. -/
def frOf : Res → Fr
  | .ok k out => .ok ⟨out.toArray⟩ ((k + 7) / 8)
  | .err .text => .err 0
  | .err .bound => .err 1

/-- What bytes with a head and a sum mean. -/
noncomputable def zr (s : ByteArray) (most : Int) : Zr :=
  if 0 ≤ most ∧ most ≤ 300000 then
    if h : 2 ≤ s.size then
      if Hd2 s[0].toNat s[1].toNat then tailZ s (frOf ((inflS (s.extract 2 s.size) most).getD (.err .text))) else .err 0
    else .err 0
  else .err 1

theorem zr_err {s : ByteArray} {most : Int} {i : Nat} (h : zr s most = .err i) : i < 9 := by
  unfold zr at h
  split at h
  · split at h
    · split at h
      · generalize (inflS (s.extract 2 s.size) most).getD (.err .text) = r at h
        rcases r with ⟨k, out⟩ | er
        · dsimp only [frOf, tailZ] at h
          split at h
          · injection h with h; omega
          · split at h
            · injection h with h; omega
            · cases h
        · cases er <;> (dsimp only [frOf, tailZ] at h; injection h with h; omega)
      · injection h with h; omega
    · injection h with h; omega
  · injection h with h; omega

theorem cut_size (s : ByteArray) : (s.extract 2 s.size).size = s.size - 2 := by simp

theorem unzip_any (s : ByteArray) (most : Int) (w : World) (a : Nat → Addr) (hS : Sent w a) (hG : GlS w a) (hn : 12 ≤ w.heap.size) (h0 : s.size ≤ 3000) :
    Calls Tryz.prog 9 #[.string s, .int .i64 most] w fun e w' => Below w.heap.size w w' ∧ e = .returned (zV 153 (fun i => .pointer (some (a i))) (zr s most)) := by
  have hb := fun w' => bounded_any s most w'
  by_cases hm : 0 ≤ most ∧ most ≤ 300000
  · have hb1 : ∀ w', Calls Tryz.prog 11 #[.string s, .int .i64 most] w' fun e w'' => e = .returned (.bool true) ∧ w'' = w' := fun w' => by
      have := hb w'
      rwa [decide_eq_true (show 0 ≤ most ∧ most ≤ 300000 ∧ (s.size : Int) ≤ 300000 by omega)] at this
    by_cases h2 : 2 ≤ s.size
    · by_cases hd : Hd2 s[0].toNat s[1].toNat
      · have ez : zr s most = tailZ s (frOf ((inflS (s.extract 2 s.size) most).getD (.err .text))) := by unfold zr; rw [if_pos hm, dif_pos h2, if_pos hd]
        rw [ez]
        refine unzip_head (tE := 153) (xs := fun i => .pointer (some (a i))) s most w h0 h2 hd hb1 (hS.cell 0 (by omega)) (hS.cell 3 (by omega)) _ (fun n => ?_)
        have hbd : Below w.heap.size w (w.drewN n) := below_drewN (Below.refl _ _) n
        refine (inflate_any (s.extract 2 s.size) most (w.drewN n) (hG.below hbd hn) hn).mono ?_
        rintro e w' ⟨r, hr, rfl, hbw⟩
        refine ⟨hbd.trans hbw, ?_⟩
        rw [hr, Option.getD_some]
        rcases r with ⟨k, out⟩ | er
        · obtain ⟨i1, i2, _⟩ := inflS_most hr
          rw [cut_size] at i2
          exact .inl ⟨⟨out.toArray⟩, (k + 7) / 8, rfl, by omega, by show out.toArray.size ≤ _; simp; omega, rfl⟩
        · cases er
          · exact .inr ⟨0, rfl, rfl⟩
          · exact .inr ⟨1, rfl, rfl⟩
      · have ez : zr s most = .err 0 := by unfold zr; rw [if_pos hm, dif_pos h2, if_neg hd]
        rw [ez]
        have hh := headed_any s w h2 (by omega)
        rw [decide_eq_false hd] at hh
        exact unzip_no (tE := 153) (xs := fun i => .pointer (some (a i))) s most w hb1 hh (hS.cell 0 (by omega))
    · have ez : zr s most = .err 0 := by unfold zr; rw [if_pos hm, dif_neg h2]
      rw [ez]
      exact unzip_no (tE := 153) (xs := fun i => .pointer (some (a i))) s most w hb1 ((headed_short s w (by omega)).mono (fun _ _ h => ⟨h.1, 0, by rw [h.2]; rfl⟩)) (hS.cell 0 (by omega))
  · have ez : zr s most = .err 1 := by unfold zr; rw [if_neg hm]
    rw [ez]
    refine unzip_out (tE := 153) (xs := fun i => .pointer (some (a i))) s most w (fun w' => ?_) (hS.cell 1 (by omega))
    have := hb w'
    rwa [decide_eq_false (show ¬ (0 ≤ most ∧ most ≤ 300000 ∧ (s.size : Int) ≤ 300000) by omega)] at this

theorem unzipOf_any (s : ByteArray) (most : Int) (w : World) (h0 : s.size ≤ 3000) :
    Calls Tryz.prog 10 #[.string s, .int .i64 most] w fun e w' => Below w.heap.size w w' ∧ e = .returned (zW (zr s most)) := by
  by_cases hm : 0 ≤ most ∧ most ≤ 300000
  · by_cases h2 : 2 ≤ s.size
    · by_cases hd : Hd2 s[0].toNat s[1].toNat
      · have ez : zr s most = tailZ s (frOf ((inflS (s.extract 2 s.size) most).getD (.err .text))) := by unfold zr; rw [if_pos hm, dif_pos h2, if_pos hd]
        rw [ez]
        refine unzipOf_head s most w h0 h2 hd hm _ (fun n => ?_)
        have hbd : Below w.heap.size w (w.drewN n) := below_drewN (Below.refl _ _) n
        refine (inflateOf_any (s.extract 2 s.size) most (w.drewN n) (by rw [cut_size]; omega)).mono ?_
        rintro e w' ⟨r, v, hr, rfl, hbw⟩
        refine ⟨hbd.trans hbw, ?_⟩
        rcases v with ⟨⟨_, a3, n3, c3, rfl⟩, ⟨_, a4, n4, c4, rfl⟩, ⟨_, a5, n5, c5, rfl⟩, ⟨_, a6, n6, c6, rfl⟩, ⟨_, a9, n9, c9, rfl⟩, i7, i8⟩
        refine ⟨a3, n3, c3, a4, n4, c4, a5, n5, c5, a6, n6, c6, a9, n9, c9, i7, i8, ?_⟩
        rw [hr, Option.getD_some]
        rcases r with ⟨k, out⟩ | er
        · obtain ⟨i1, i2, _⟩ := inflS_most hr
          rw [cut_size] at i2
          exact .inl ⟨⟨out.toArray⟩, (k + 7) / 8, rfl, by omega, by show out.toArray.size ≤ _; simp; omega, rfl⟩
        · cases er
          · exact .inr ⟨0, rfl, by omega, rfl⟩
          · exact .inr ⟨1, rfl, by omega, rfl⟩
      · have ez : zr s most = .err 0 := by unfold zr; rw [if_pos hm, dif_pos h2, if_neg hd]
        rw [ez]
        exact unzipOf_no s most w h0 h2 hd hm
    · have ez : zr s most = .err 0 := by unfold zr; rw [if_pos hm, dif_neg h2]
      rw [ez]
      exact unzipOf_short s most w (by omega) hm
  · have ez : zr s most = .err 1 := by unfold zr; rw [if_neg hm]
    rw [ez]
    exact unzipOf_out s most w hm

set_option maxHeartbeats 2000000 in
set_option maxRecDepth 100000 in
theorem unzipTells_any (s : ByteArray) (most : Int) (w : World) (a : Nat → Addr) (hS : Sent w a) (hG : GlS w a) (hn : 12 ≤ w.heap.size) (_hs : s.size ≤ maxLen) :
    Calls Tryz.prog 4 #[.string s, .int .i64 most] w fun e w' => e = .returned (.bool true) ∧ Below w.heap.size w w' := by
  have HL := hide (letter_any w hG hn)
  have HS := hide hS
  have HG := hide hG
  clear hS hG
  by_cases h0 : s.size ≤ 3000
  rotate_left
  · have d0 : decide ((s.size : Int) > 3000) = true := by simp; omega
    have d0' : decide ((3000 : Int) < (s.size : Int)) = true := d0
    have d0n : decide (3000 < s.size) = true := by simp; omega
    go_enter Tryz.func4, Tryz.ntmps4
    go_wp2_with fail
    refine (unhide HL).mono ?_; rintro e w1 ⟨rfl, hb1⟩
    go_wp2
    go_ret
    exact ⟨rfl, hb1⟩
  have d0 : decide ((s.size : Int) > 3000) = false := by simp; omega
  have d0' : decide ((3000 : Int) < (s.size : Int)) = false := d0
  have d0n : decide (3000 < s.size) = false := by simp; omega
  go_enter Tryz.func4, Tryz.ntmps4
  go_wp2_with fail
  refine (unhide HL).mono ?_; rintro e w1 ⟨rfl, hb1⟩
  have hn1 : 12 ≤ w1.heap.size := Nat.le_trans hn hb1.size
  have HI := hide (unzip_any s most w1 a ((unhide HS).below hb1) ((unhide HG).below hb1 hn) hn1 h0)
  clear HL
  go_wp2_with fail
  refine (unhide HI).mono ?_; rintro e w2 ⟨hb2, rfl⟩
  have HO := hide (unzipOf_any s most w2 h0)
  have hb2w := hb1.trans (hb2.mono hb1.size)
  have HS2 := hide ((unhide HS).below hb2w)
  have HE : Hid (∀ i, zr s most = .err i → i < 9) := fun i h => zr_err h
  clear hb1 hb2 HI HG HS
  generalize zr s most = Z at *
  rcases Z with tt | i
  · have hv : zV 153 (fun i => .pointer (some (a i))) (.ok tt) = .tuple #[.string tt, .nilIface] := rfl
    have hv2 : zW (.ok tt) = .tuple #[.string tt, .int .i64 0] := rfl
    rw [hv]
    rw [hv2] at HO
    clear hv hv2 HE
    go_wp2_with fail
    refine (unhide HO).mono ?_; rintro e w3 ⟨hb3, rfl⟩
    have HB3 := hide (hb2w.trans (hb3.mono hb2w.size))
    clear HO hb2w hb3
    go_wp2
    go_ret
    exact ⟨rfl, unhide HB3⟩
  · have hi := unhide HE i rfl
    have hv : zV 153 (fun i => .pointer (some (a i))) (.err i) = .tuple #[.string ⟨#[]⟩, sentV a i] := rfl
    have hv2 : zW (.err i) = .tuple #[.string ⟨#[]⟩, .int .i64 ((i + 1 : Nat) : Int)] := rfl
    rw [hv]
    rw [hv2] at HO
    obtain ⟨c, hc⟩ : ∃ c, c = i + 1 := ⟨_, rfl⟩
    rw [← hc] at HO
    have dc : decide ((c : Int) > 0) = true := by simp; omega
    have dc' : decide ((0 : Int) < (c : Int)) = true := dc
    have dcn : decide (0 < c) = true := by simp; omega
    have hcp : 0 < c := by omega
    have HC1 := hide hc
    obtain ⟨ev, hev⟩ : ∃ ev, ev = sentV a i := ⟨_, rfl⟩
    have HEV := hide hev
    rw [← hev]
    clear hv hv2 HE hc hev
    go_wp2_with fail
    refine (unhide HO).mono ?_; rintro e w3 ⟨hb3, rfl⟩
    have hb3w := hb2w.trans (hb3.mono hb2w.size)
    have HC : Hid (Calls Tryz.prog 8 #[ev, .int .i64 (c : Int)] w3 fun e w' => e = .returned (.bool true) ∧ Below w3.heap.size w3 w') := by
      show Calls _ _ _ _ _
      rw [unhide HEV]
      exact coded_sent i (c : Int) _ a ((unhide HS2).below hb3) hi (by have := unhide HC1; simp; omega)
    clear HO HS2 HEV hb3
    go_wp2_with fail
    refine (unhide HC).mono ?_; rintro e w5 ⟨rfl, hb5⟩
    have HB5 := hide (hb3w.trans (hb5.mono hb3w.size))
    clear HC hb5 hb3w
    go_wp2
    go_ret
    exact ⟨rfl, unhide HB5⟩
end Go.Proofs.YtbbcfghlhgaofacGreatDoor
