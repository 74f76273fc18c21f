/- The statement on tokens in one fixed block: the walk. -/
import Derived.Test.YtbbcfghlhgaofadGreatDoorMg15
import Derived.Test.YtbbcfghlhgaofadGreatDoorMg18
import Derived.Test.YtbbcfghlhgaofadGreatDoorFo2
import Derived.Test.YtbbcfghlhgaofadGreatDoorMg23
import Derived.Test.YtbbcfghlhgaofadGreatDoorIn13
import Derived.Test.YtbbcfghlhgaofadGreatDoorMg25
namespace Go.Proofs.YtbbcfghlhgaofadGreatDoor
open Go.RowKit Pm Cn Cd Nf Ps

theorem first_one {t : Tks} {i j : Nat} (h1 : ∀ k, k < i → t.good k) (h2 : ¬ t.good i) (h3 : ∀ k, k < j → t.good k) (h4 : ¬ t.good j) : i = j := by
  rcases Nat.lt_or_ge i j with h | h
  · exact absurd (h3 i h) h2
  · rcases Nat.lt_or_ge j i with h' | h'
    · exact absurd (h1 j h') h4
    · omega

theorem fixP_fit {t : Tks} {n : Nat} (h : ∀ i, i < n → t.shaped i) (hb : ∀ i, i < n → t.b i < 256) : Fit (fixP t n) := by
  unfold fixP
  exact Fit.append (Fit.cons (by decide) (Fit.cons (by decide) Fit.nil)) (Fit.append (preP_fit (fun i hi => Tks.tok (h i hi) (hb i hi))) (Fit.cons (word_fit _ _ _) Fit.nil))
theorem fixP_len {t : Tks} {n : Nat} (h : ∀ i, i < n → t.shaped i) (hb : ∀ i, i < n → t.b i < 256) : len (fixP t n) ≤ 48 * n + 20 := by
  unfold fixP
  have h1 : len (preP (Ps.word fixL 288) (Ps.word fixD 32) t.b (fun i => (t.l i).toNat) (fun i => (t.d i).toNat) n) ≤ 48 * n := preP_len fix_cod.le fixD_cod.le (fun i hi => Tks.tok (h i hi) (hb i hi)) (fun i hi => fix_uses (Tks.tok (h i hi) (hb i hi)))
  have h2 : len [Ps.word fixL 288 256] = fixL 256 := by simp [len, Ps.word]
  have h3 := (fixL_le 256).1
  rw [len_append, len_append, h2]
  show 3 + _ ≤ _
  omega

theorem inflS_fixed {t : Tks} {n : Nat} (hg : ∀ i, i < n → t.good i) (hb : ∀ i, i < n → t.b i < 256) (hn : n ≤ 300) (hm : (t.out n).length ≤ 300000) :
    inflS (textP (fixP t n)) (((t.out n).length : Nat) : Int) = some (.ok (len (fixP t n)) (t.out n)) ∧ (len (fixP t n) + 7) / 8 = (textP (fixP t n)).size := by
  have hsz := textP_size (fixP t n)
  have hl := fixP_len (fun i hi => (hg i hi).1) hb
  refine ⟨?_, hsz.symm⟩
  unfold inflS
  rw [if_pos ⟨by omega, by omega, by omega⟩]
  have hat := at_text (fixP_fit (fun i hi => (hg i hi).1) hb) ⟨#[]⟩
  have he : textP (fixP t n) ++ (⟨#[]⟩ : ByteArray) = textP (fixP t n) := by
    apply text_ext
    rw [ByteArray.data_append]
    simp
  rw [he] at hat
  exact infl_fixed (fun i hi => (hg i hi).1) hb (fun i hi => (hg i hi).2) (by simp) hat

set_option maxHeartbeats 4000000 in
set_option maxRecDepth 100000 in
theorem deflateFixed_any (ao : Option Addr) (n cap : Nat) (t : Tks) (w : World) (a : Nat → Addr) (hS : Sent w a) (hG : GlS w a) (hn : 12 ≤ w.heap.size) (hP : IsTokens w ao n t) :
    Calls Tryz.prog 3 #[.slice ao n cap] w fun e w' => e = .returned (.bool true) ∧ Below w.heap.size w w' := by
  have hb8 : ∀ i, i < n → t.b i < 256 := fun i hi => by
    rcases hP with h | ⟨b, off, _, _, h⟩
    · omega
    · exact (h i hi).2.2.2.1
  have HB8 := hide hb8
  have HS := hide hS
  have HP := hide hP
  have HG := hide hG
  have HM := hide (blank_any w)
  clear hS hP hG hb8
  go_enter Tryz.func3, Tryz.ntmps3
  go_wp2_with fail
  refine (unhide HM).mono ?_
  rintro e w1 ⟨rfl, hb1⟩
  have HP1 := hide ((unhide HP).below hb1)
  have HW := hide (wide_any ao n cap t w1 (unhide HP1))
  clear HM
  go_wp2_with fail
  refine (unhide HW).mono ?_
  rintro e w1' ⟨rfl, h1⟩
  replace h1 := h1.symm
  subst h1
  by_cases hwd : n ≤ 300 ∧ t.wide n ≤ 6000
  rotate_left
  · rw [decide_eq_false hwd]
    clear HW
    go_wp2
    go_ret
    exact ⟨rfl, hb1⟩
  rw [decide_eq_true hwd]
  obtain ⟨hl, hwl⟩ := hwd
  have hsm : ∀ i, i ≤ n → (∀ j, j < i → t.good j) → (t.out i).length ≤ 300000 := fun i hi hg => by
    have q1 := t.out_le (fun j hj => (hg j hj).1)
    have q2 := t.wide_mono hi
    omega
  have HSM := hide hsm
  have HT := hide (tokens_copy ao n cap t w1 (unhide HP1) (by omega))
  clear HW hsm hwl
  go_wp2_with fail
  refine (unhide HT).mono ?_
  rintro e w2 ⟨a2, c2, rfl, hT2, hb2⟩
  have hb2w : Below w.heap.size w w2 := hb1.trans (hb2.mono hb1.size)
  have hS2 := (unhide HS).below hb2w
  have hG2 := (unhide HG).below hb2w hn
  have hn2 : 12 ≤ w2.heap.size := Nat.le_trans hn hb2w.size
  have HE := hide (fixedF_any a2 n c2 t w2 _ _ _ (hS2.cell 2 (by omega)) (hS2.cell 1 (by omega)) hT2 hG2.tabs hn2 (by omega) (unhide HSM))
  clear HT hT2 hb2 hb1 HP1 hS2 hG2
  go_wp2_with fail
  refine (unhide HE).mono ?_
  rintro e w3 (⟨hg, rfl, hb3⟩ | ⟨i, q, hw, rfl, hb3⟩)
  · have HGD := hide hg
    have hb3w : Below w.heap.size w w3 := hb2w.trans (hb3.mono hb2w.size)
    have HO := hide (expandOf_any ao n cap t w3 ((unhide HP).below hb3w) (by omega) (unhide HSM))
    obtain ⟨hI1, hI2⟩ := inflS_fixed hg (unhide HB8) hl (unhide HSM n (Nat.le_refl _) hg)
    have HFO : Hid (∀ w', Below w.heap.size w w' → Calls Tryz.prog 12 #[.slice ao n cap] w' fun e w'' => e = .returned (.string (textP (fixP t n))) ∧ Below w'.heap.size w' w'') := fun w' hb => fixedOf_any ao n cap t w' ((unhide HP).below hb) (fun i hi => (hg i hi).1) (by omega)
    obtain ⟨u, hu⟩ : ∃ u, u = textP (fixP t n) := ⟨_, rfl⟩
    obtain ⟨c, hc⟩ : ∃ c, c = len (fixP t n) := ⟨_, rfl⟩
    rw [← hu] at hI1 hI2 HFO
    rw [← hc] at hI1 hI2
    rw [← hu]
    have HI1 := hide hI1
    have HI2 := hide hI2
    have hol : (t.out n).length ≤ 300000 := unhide HSM n (Nat.le_refl _) hg
    clear HE hg hb3 hb2w hu hc hI1 hI2
    go_wp2_with fail
    refine (unhide HO).mono ?_
    rintro e w4 (⟨_, rfl, hb4⟩ | ⟨j, hj, _, hbad, _, _⟩)
    rotate_left
    · exact absurd (unhide HGD j hj) hbad
    have hb4w : Below w.heap.size w w4 := hb3w.trans (hb4.mono hb3w.size)
    have hb5w := hb4w.alloc hb4w.size (.cells #[.int .i64 0, .int .i64 (-1)] 31)
    have HF5 := hide (unhide HFO _ hb5w)
    have HB5 := hide hb5w
    obtain ⟨o, ho⟩ : ∃ o : ByteArray, o = ⟨(t.out n).toArray⟩ := ⟨_, rfl⟩
    have hos : o.size = (t.out n).length := by rw [ho]; show (t.out n).toArray.size = _; simp
    have hol2 : o.size ≤ 300000 := by omega
    rw [← ho]
    rw [← hos] at HI1
    have HOS := hide ho
    clear HO hb4 hb3w hb4w hb5w HFO ho hos hol
    go_wp2_with fail
    generalize w4.alloc (.cells #[.int .i64 0, .int .i64 (-1)] 31) = w5 at *
    refine (unhide HF5).mono ?_
    rintro e w6 ⟨rfl, hb6⟩
    have hb6w := (unhide HB5).trans (hb6.mono (unhide HB5).size)
    have hn6 : 12 ≤ w6.heap.size := Nat.le_trans hn hb6w.size
    have HIN := hide (inflate_any u (o.size : Int) w6 ((unhide HG).below hb6w hn) hn6)
    clear HF5 HB5 hb6 hn6
    go_wp2_with fail
    refine (unhide HIN).mono ?_; rintro e w7 ⟨r, hr, rfl, hb7⟩
    obtain rfl := Option.some.inj ((unhide HI1).symm.trans hr)
    have hb7w := hb6w.trans (hb7.mono hb6w.size)
    have hval : inflV 243 (.pointer (some (a 0))) (.pointer (some (a 1))) (.ok c (t.out n)) = .tuple #[.string o, .int .i64 (u.size : Nat), .nilIface] := by
      show Value.tuple #[.string ⟨(t.out n).toArray⟩, .int .i64 (((c + 7) / 8 : Nat) : Int), .nilIface] = _
      rw [unhide HI2, unhide HOS]
    rw [hval]
    clear HIN hr hval HI1 HI2 hb6w hb7 HOS
    go_wp2
    go_ret
    exact ⟨rfl, hb7w⟩
  · have HWR := hide hw
    have hb3w : Below w.heap.size w w3 := hb2w.trans (hb3.mono hb2w.size)
    have HO := hide (expandOf_any ao n cap t w3 ((unhide HP).below hb3w) (by omega) (unhide HSM))
    clear HE hw hb3 hb2w
    go_wp2_with fail
    refine (unhide HO).mono ?_
    rintro e w4 (⟨hg, _, _⟩ | ⟨j, hj, hah, hbad, rfl, hb4⟩)
    · exact absurd (hg i (unhide HWR).lt) (unhide HWR).bad
    obtain rfl := first_one (unhide HWR).ahead (unhide HWR).bad hah hbad
    have hb4w : Below w.heap.size w w4 := hb3w.trans (hb4.mono hb3w.size)
    have hba : Below w4.heap.size w4 (w4.alloc (.cells #[.int .i64 3, .int .i64 (i : Int)] 31)) := (Below.refl _ _).alloc (Nat.le_refl _) _
    have hb5w : Below w.heap.size w (w4.alloc (.cells #[.int .i64 3, .int .i64 (i : Int)] 31)) := hb4w.trans (hba.mono hb4w.size)
    have hq3 := cells_lt (unhide HWR).at_
    have hb35 : Below w3.heap.size w3 (w4.alloc (.cells #[.int .i64 3, .int .i64 (i : Int)] 31)) := hb4.trans (hba.mono hb4.size)
    have HFA := hide (faulted_at q i 2 _ a ((unhide HS).below hb5w) (by omega) ((hb35.cell (p := ⟨q, 0, none⟩) hq3).trans (unhide HWR).at_) ((hb35.cell (p := ⟨q, 1, none⟩) hq3).trans (unhide HWR).err))
    clear HO hb4 hb3w hb4w hba hb35 hah hbad
    go_wp2_with fail
    refine (unhide HFA).mono ?_
    rintro e w5 ⟨rfl, hb5⟩
    have hbf : Below w.heap.size w w5 := hb5w.trans (hb5.mono hb5w.size)
    clear HFA hb5 hb5w
    go_wp2
    go_ret
    exact ⟨rfl, hbf⟩
end Go.Proofs.YtbbcfghlhgaofadGreatDoor
