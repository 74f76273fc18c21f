/- Walks of the unpacker of codes: all of them. -/
import Derived.Test.YtjcoahahponabaaGreatDoorLzw
namespace Go.Proofs.YtjcoahahponabaaGreatDoor
open Go.RowKit Lz

section
variable {p r : Nat} {s : ByteArray} {W most : Nat}

/-- How many bits are left. -/
def leftR (w : World) (r nb : Nat) : Nat :=
  match w.cell? ⟨r, 1, none⟩ with
  | some (.int _ n) => nb - n.toNat
  | _ => 0
theorem leftR_at {w : World} {r k nb : Nat} {s : ByteArray} (h : RAt w r s k) : leftR w r nb = nb - k := by
  unfold leftR; rw [h.count]; simp

/-- What comes of all codes. -/
def Done (G : Res) (W most : Nat) (p r : Nat) (s : ByteArray) (eT eB : Value) (w' : World) (v : Value) : Prop :=
  (G = .text ∧ v = eT) ∨ (G = .bound ∧ v = eB) ∨
  (∃ out k, G = .ok out k ∧ v = .nilIface ∧ ∃ S N vL pcs la ll vT, UN w' p r s k W S N most vL pcs la ll vT out)

theorem pow_bits (W : Nat) (h2 : 2 ≤ W) (h8 : W ≤ 8) : 4 ≤ 2 ^ W ∧ 2 ^ W ≤ 256 := ⟨Nat.pow_le_pow_right (n := 2) (i := 2) (by omega) h2, pow2 W h8⟩

set_option maxHeartbeats 4000000 in
set_option maxRecDepth 100000 in
theorem unpack_any (uT uB : TypeId) (xT xB : Value) (w : World) {S0 N0 la0 : Nat} {vL0 : Value} (h : UN w p r s 0 W S0 N0 most vL0 [] la0 0 (.slice none 0 0) []) (hW2 : 2 ≤ W) (hW : W ≤ 8) (hmo : most ≤ 300000)
    (hT : ∀ w', Below r w w' → w'.cell? ⟨1, 0, none⟩ = some (.iface uT xT)) (hB : ∀ w', Below r w w' → w'.cell? ⟨0, 0, none⟩ = some (.iface uB xB)) :
    Calls Tryz.prog 175 #[.pointer (some ⟨p, 0, none⟩)] w fun e w' => ∃ v, e = .returned v ∧ Done (dec (tv s) (8 * s.size) W most (8 * s.size + 1) (Lz.start W)) W most p r s (.iface uT xT) (.iface uB xB) w' v ∧ Below r w w' := by
  obtain ⟨G, hG⟩ : ∃ G, G = dec (tv s) (8 * s.size) W most (8 * s.size + 1) (Lz.start W) := ⟨_, rfl⟩
  rw [← hG]
  have HG := hide hG
  have HR : Hid (Calls Tryz.prog 166 #[.pointer (some ⟨p, 1, none⟩)] w fun e w' => e = .returned (.tuple #[]) ∧ UN w' p r s 0 W (W + 1) (2 ^ W + 2) most vL0 [] la0 0 (.slice none 0 0) [] ∧ Below r w w') := by
    have hr := h.ltp
    refine (restart_any p 1 W S0 N0 w h.cd (by omega)).mono ?_
    rintro e w' ⟨rfl, hC, hk⟩
    exact ⟨rfl, h.kc hk hC, hk.below.mono (by omega)⟩
  have HET := hide hT
  have HEB := hide hB
  have hrp := h.ltp
  obtain ⟨hp4, hp256⟩ := pow_bits W hW2 hW
  have entG : ∀ args w, (callFunc 180 args).run Tryz.prog w = .ok (.enter 180 args) w := enters_of Tryz.func180 (by kernel_rfl) rfl
  clear hG h hT hB
  go_enter Tryz.func175, Tryz.ntmps175
  go_wp2_with fail
  refine (unhide HR).mono ?_; rintro e w1 ⟨rfl, hU1, hb1⟩
  have HU1 := hide hU1
  have HB1 := hide hb1
  clear HR hU1 hb1
  go_wp2
  go_loopw [2] (fun x2 wr => ∃ (st : St) (pcs : List (Nat × Nat)) (la ll : Nat) (vL vT : Value) (f : Nat), x2 = .nilIface ∧ Hid (UN wr p r s st.k W st.S (2 ^ W + 2 + pcs.length) most vL pcs la ll vT st.out) ∧ Hid (Means W st pcs la ll) ∧ Hid (Lz.Good W st) ∧ Hid (st.out.length ≤ most) ∧ Hid (G = dec (tv s) (8 * s.size) W most f st) ∧ Hid (8 * s.size < st.k + f) ∧ Hid (Below r w wr)) (fun _ wr => leftR wr r (8 * s.size))
  case atStart => exact ⟨Lz.start W, [], la0, 0, vL0, .slice none 0 0, 8 * s.size + 1, rfl, HU1, Means.clear, good_start W hW 0 [], Nat.zero_le _, HG, by show 8 * s.size < 0 + (8 * s.size + 1); omega, HB1⟩
  case round =>
    clear HU1 HB1 HG
    obtain ⟨st, pcs, la, ll, vL, vT, f, rfl, HU, HM, HGD, HO, HGr, HF, HB⟩ := hrel
    have hk := (unhide HU).bits.within
    have hs1 := (unhide HGD).s1
    have hs12 := (unhide HGD).s12
    obtain ⟨f', hf'⟩ : ∃ f', f = f' + 1 := ⟨f - 1, by have := unhide HF; omega⟩
    subst hf'
    have HU2 := hide ((unhide HU).below (w' := wr.drew) (Below.refl _ _).drew)
    have HB2 := hide ((unhide HB).drew)
    have HS2 := hide (And.intro (unhide HU2).rd (unhide HU2).cd.size)
    have HLF := hide (leftR_at (nb := 8 * s.size) (unhide HU).bits)
    by_cases hfit : st.k + st.S ≤ 8 * s.size
    · obtain ⟨n, hn⟩ : ∃ n, n = tv s / 2 ^ st.k % 2 ^ st.S := ⟨_, rfl⟩
      have hnl : n < 4096 := by
        rw [hn]
        exact Nat.lt_of_lt_of_le (Nat.mod_lt _ (Nat.two_pow_pos _)) (Nat.pow_le_pow_right (n := 2) (j := 12) (by omega) hs12)
      have HGT : Hid (Calls Tryz.prog 180 #[.pointer (some ⟨r, 0, none⟩), .int .i64 (st.S : Int)] wr.drew fun e w' => e = .returned (.tuple #[.int .u32 (n : Int), .nilIface]) ∧ UN w' p r s (st.k + st.S) W st.S (2 ^ W + 2 + pcs.length) most vL pcs la ll vT st.out ∧ Below r wr.drew w') := by
        refine (get_but r st.k st.S s wr.drew (unhide HU2).bits (by omega) hfit).mono ?_
        rintro e w' ⟨rfl, hR, hb⟩
        rw [← hn]
        exact ⟨rfl, (unhide HU2).read hb hR, hb.below (by have := (unhide HU2).lt; omega) (fun k hk => by show ¬ k = r; omega)⟩
      have HN := hide hn
      have HFIT := hide hfit
      clear hn hfit HU HU2 HB
      go_wp2_with fail
      refine wp_region_held_drew (S := fun w' => w'.cell? ⟨p, 0, none⟩ = some (.pointer (some ⟨r, 0, none⟩)) ∧ w'.cell? ⟨p, 2, none⟩ = some (.int .i64 (st.S : Int))) (by kernel_rfl) (unhide HS2) (fun hHeld => ?_)
      refine wpAnyH_take (i := 0) (v := .pointer (some ⟨p, 0, none⟩)) rfl (by kernel_rfl) (by kernel_rfl) (by kernel_rfl) (fun _ _ _ h => h) (Or.inl ⟨by rfl, ?_⟩) hHeld ?_
      · intro w' hSw
        obtain ⟨s1, s2⟩ := hSw
        go_simp
      simp only [Act.put, List.setIfInBounds_toArray]
      refine wpAnyH_take (i := 1) (v := .pointer (some ⟨p, 0, none⟩)) rfl (by kernel_rfl) (by kernel_rfl) (by kernel_rfl) (fun _ _ _ h => h) (Or.inl ⟨by rfl, ?_⟩) hHeld ?_
      · intro w' hSw
        obtain ⟨s1, s2⟩ := hSw
        go_simp
      simp only [Act.put]
      refine wpAnyH_take (i := 2) (v := .pointer (some ⟨p, 0, none⟩)) rfl (by kernel_rfl) (by kernel_rfl) (by kernel_rfl) (fun _ _ _ h => h) (Or.inl ⟨by rfl, ?_⟩) hHeld ?_
      · intro w' hSw
        obtain ⟨s1, s2⟩ := hSw
        go_simp
      simp only [Act.put]
      refine wpAnyH_take (i := 3) (v := .pointer (some ⟨r, 0, none⟩)) rfl (by kernel_rfl) (by kernel_rfl) (by kernel_rfl) (fun _ _ _ h => h) (Or.inl ⟨by rfl, ?_⟩) hHeld ?_
      · intro w' hSw
        obtain ⟨s1, s2⟩ := hSw
        go_simp
      simp only [Act.put]
      refine wpAnyH_take (i := 4) (v := .pointer (some ⟨p, 0, none⟩)) rfl (by kernel_rfl) (by kernel_rfl) (by kernel_rfl) (fun _ _ _ h => h) (Or.inl ⟨by rfl, ?_⟩) hHeld ?_
      · intro w' hSw
        obtain ⟨s1, s2⟩ := hSw
        go_simp
      simp only [Act.put]
      refine wpAnyH_take (i := 5) (v := .pointer (some ⟨p, 0, none⟩)) rfl (by kernel_rfl) (by kernel_rfl) (by kernel_rfl) (fun _ _ _ h => h) (Or.inl ⟨by rfl, ?_⟩) hHeld ?_
      · intro w' hSw
        obtain ⟨s1, s2⟩ := hSw
        go_simp
      simp only [Act.put]
      refine wpAnyH_take (i := 6) (v := .pointer (some ⟨p, 1, none⟩)) rfl (by kernel_rfl) (by kernel_rfl) (by kernel_rfl) (fun _ _ _ h => h) (Or.inl ⟨by rfl, ?_⟩) hHeld ?_
      · intro w' hSw
        obtain ⟨s1, s2⟩ := hSw
        go_simp
      simp only [Act.put]
      refine wpAnyH_take (i := 7) (v := .pointer (some ⟨p, 2, none⟩)) rfl (by kernel_rfl) (by kernel_rfl) (by kernel_rfl) (fun _ _ _ h => h) (Or.inl ⟨by rfl, ?_⟩) hHeld ?_
      · intro w' hSw
        obtain ⟨s1, s2⟩ := hSw
        go_simp
      simp only [Act.put]
      refine wpAnyH_take (i := 8) (v := .int .i64 (st.S : Int)) rfl (by kernel_rfl) (by kernel_rfl) (by kernel_rfl) (fun _ _ _ h => h) (Or.inl ⟨by rfl, ?_⟩) hHeld ?_
      · intro w' hSw
        obtain ⟨s1, s2⟩ := hSw
        go_simp
      simp only [Act.put]
      refine wpAnyH_ready (rs := [9]) (by kernel_rfl) (by simp) ?_
      refine AllReadyH.cons rfl (fun K hK => ?_) AllReadyH.nil
      refine step_calls rfl 180 [.tmp 15, .tmp 20] #[248, 3] rfl [.pointer (some ⟨r, 0, none⟩), .int .i64 (st.S : Int)] (by simp [Act.eval]) entG ?_
      refine (unhide HGT).mono ?_
      rintro e w3 ⟨rfl, hX3⟩
      refine .inl ⟨_, rfl, ?_⟩
      have HX3 := hide hX3
      refine hK.out _ _ ⟨(unhide HX3).1.rd, (unhide HX3).1.cd.size⟩ (fun hHeld => ?_)
      clear hK K hX3 HGT HS2
      simp only [Act.put]
      refine wpAnyH_take (i := 10) (v := .tuple #[.int .u32 (n : Int), .nilIface]) rfl (by kernel_rfl) (by kernel_rfl) (by kernel_rfl) (fun _ _ _ h => h) (Or.inl ⟨by rfl, ?_⟩) hHeld ?_
      · intro w' hSw
        obtain ⟨s1, s2⟩ := hSw
        go_simp
      simp only [Act.put, List.getElem_toArray, List.getElem_cons_succ, List.getElem_cons_zero]
      refine wpAnyH_take (i := 11) (v := .int .u32 (n : Int)) rfl (by kernel_rfl) (by kernel_rfl) (by kernel_rfl) (fun _ _ _ h => h) (Or.inl ⟨by rfl, ?_⟩) hHeld ?_
      · intro w' hSw
        obtain ⟨s1, s2⟩ := hSw
        go_simp
      simp only [Act.put, List.getElem_toArray, List.getElem_cons_succ, List.getElem_cons_zero]
      refine wpAnyH_take (i := 12) (v := .nilIface) rfl (by kernel_rfl) (by kernel_rfl) (by kernel_rfl) (fun _ _ _ h => h) (Or.inl ⟨by rfl, ?_⟩) hHeld ?_
      · intro w' hSw
        obtain ⟨s1, s2⟩ := hSw
        go_simp
      simp only [Act.put, List.getElem_toArray, List.getElem_cons_succ, List.getElem_cons_zero]
      refine wpAnyH_take (i := 13) (v := .int .u32 (n : Int)) rfl (by kernel_rfl) (by kernel_rfl) (by kernel_rfl) (fun _ _ _ h => h) (Or.inl ⟨by rfl, ?_⟩) hHeld ?_
      · intro w' hSw
        obtain ⟨s1, s2⟩ := hSw
        go_simp
      simp only [Act.put, List.getElem_toArray, List.getElem_cons_succ, List.getElem_cons_zero]
      refine wpAnyH_take (i := 14) (v := .nilIface) rfl (by kernel_rfl) (by kernel_rfl) (by kernel_rfl) (fun _ _ _ h => h) (Or.inl ⟨by rfl, ?_⟩) hHeld ?_
      · intro w' hSw
        obtain ⟨s1, s2⟩ := hSw
        go_simp
      simp only [Act.put, List.getElem_toArray, List.getElem_cons_succ, List.getElem_cons_zero]
      refine wpAnyH_done (by kernel_rfl) ?_ _
      have HB3 := hide ((unhide HB2).trans (unhide HX3).2)
      have HU3 := hide (unhide HX3).1
      clear HX3 HB2
      have HEN := hide (endCode_any p 1 W st.S (2 ^ W + 2 + pcs.length) w3 (unhide HU3).cd (by omega))
      have HCLR := hide (clearCode_any p 1 W st.S (2 ^ W + 2 + pcs.length) w3 (unhide HU3).cd (by omega))
      obtain ⟨X, hX⟩ : ∃ X, X = 2 ^ W := ⟨_, rfl⟩
      have HX := hide hX
      rw [← hX] at HEN HCLR
      by_cases hend : n = X + 1
      · have HJ : Hid (G = .ok st.out (st.k + st.S)) := dec_stop (unhide HGr) (Lz.step_end (unhide HFIT) (unhide HN) (by rw [← hX]; exact hend))
        have gE : ((n : Int) == ((X + 1 : Nat) : Int)) = true := by simp [hend]
        clear HCLR HN hX hend
        go_wp2_with fail
        refine (unhide HEN).mono ?_; rintro e w4 ⟨rfl, rfl⟩
        clear HEN
        go_wp2
        go_ret
        exact ⟨_, rfl, .inr (.inr ⟨_, _, unhide HJ, rfl, _, _, _, _, _, _, _, unhide HU3⟩), unhide HB3⟩
      · have gE : ((n : Int) == ((X + 1 : Nat) : Int)) = false := by
          rw [beq_eq_false_iff_ne]; intro q; exact hend (by omega)
        by_cases hclr : n = X
        · have HJ : Hid (G = dec (tv s) (8 * s.size) W most f' ⟨st.k + st.S, W + 1, [], [], st.out⟩) := dec_go (unhide HGr) (Lz.step_clear (unhide HFIT) (unhide HN) (by rw [← hX]; exact hclr))
          have gC : ((n : Int) == (X : Int)) = true := by simp [hclr]
          have HRS : Hid (Calls Tryz.prog 166 #[.pointer (some ⟨p, 1, none⟩)] w3 fun e w' => e = .returned (.tuple #[]) ∧ UN w' p r s (st.k + st.S) W (W + 1) (2 ^ W + 2) most vL pcs la ll vT st.out ∧ Below r w3 w') := by
            refine (restart_any p 1 W st.S (2 ^ W + 2 + pcs.length) w3 (unhide HU3).cd (by omega)).mono ?_
            rintro e w' ⟨rfl, hC, hk⟩
            exact ⟨rfl, (unhide HU3).kc hk hC, hk.below.mono (by omega)⟩
          clear HN hX hend hclr
          go_wp2_with fail
          refine (unhide HEN).mono ?_; rintro e w4 ⟨rfl, rfl⟩
          clear HEN
          go_wp2_with fail
          refine (unhide HCLR).mono ?_; rintro e w5 ⟨rfl, rfl⟩
          clear HCLR
          go_wp2_with fail
          refine (unhide HRS).mono ?_; rintro e w6 ⟨rfl, hU6, hb6⟩
          have HB6 := hide ((unhide HB3).trans hb6)
          have c4 := hU6.lg
          have f4 := hU6.free 4
          have f5 := hU6.free 5
          have f6 := hU6.free 6
          have c5 := hU6.l0
          have c6 := hU6.l1
          have HU6 := hide hU6
          have hownL := hU6.oL
          clear HRS hU6 hb6 HU3 HB3
          rcases hownL.2 with ⟨e1, e2⟩ | ⟨g, cap, cur, e1, _, _, e5, _⟩
          · rw [e1] at c4
            have hz := (unhide HU6).setNone (a := none) (n := 0) (c := 0) e1
            have hz2 := hz.1.setLast 0 0
            have HU7 := hide hz2.1
            have HB7 := hide (((unhide HB6).trans hz.2).trans hz2.2)
            have HL7 := hide (leftR_at (nb := 8 * s.size) hz2.1.bits)
            rw [show ((0 : Nat) : Int) = 0 from rfl] at HU7 HB7 HL7
            clear hz hz2 hownL e1 e2 HU6 HB6
            go_wp2
            go_roundw
            case rel => exact ⟨⟨st.k + st.S, W + 1, [], [], st.out⟩, [], 0, 0, .slice none 0 0, vT, f', rfl, HU7, Means.clear, good_start W hW _ _, HO, HJ, by have := unhide HF; show 8 * s.size < st.k + st.S + f'; omega, HB7⟩
            case measure => rw [unhide HL7, unhide HLF]; have := unhide HFIT; omega
          · rw [e1] at c4
            have hz := (unhide HU6).setNone (a := some ⟨g, 0, none⟩) (n := pcs.length) (c := cap) e1
            have hz2 := hz.1.setLast 0 0
            have HU7 := hide hz2.1
            have HB7 := hide (((unhide HB6).trans hz.2).trans hz2.2)
            have HL7 := hide (leftR_at (nb := 8 * s.size) hz2.1.bits)
            rw [show ((0 : Nat) : Int) = 0 from rfl] at HU7 HB7 HL7
            clear hz hz2 hownL e1 HU6 HB6
            go_wp2
            go_roundw
            case rel => exact ⟨⟨st.k + st.S, W + 1, [], [], st.out⟩, [], 0, 0, .slice (some ⟨g, 0, none⟩) 0 cap, vT, f', rfl, HU7, Means.clear, good_start W hW _ _, HO, HJ, by have := unhide HF; show 8 * s.size < st.k + st.S + f'; omega, HB7⟩
            case measure => rw [unhide HL7, unhide HLF]; have := unhide HFIT; omega
        · have gC : ((n : Int) == (X : Int)) = false := by
            rw [beq_eq_false_iff_ne]; intro q; exact hclr (by omega)
          have HWD : Hid (Calls Tryz.prog 181 #[.pointer (some ⟨p, 0, none⟩), .int .i64 (n : Int)] w3 fun e w' => ∃ v, e = .returned v ∧ Out W most p r s ⟨st.k + st.S, st.S, st.words, st.ahead, st.out⟩ pcs la ll n (.iface uT xT) (.iface uB xB) w' v ∧ Below r w3 w') := by
            refine word_any (st := ⟨st.k + st.S, st.S, st.words, st.ahead, st.out⟩) n (.iface uT xT) (.iface uB xB) w3 (unhide HU3) ⟨(unhide HM).many, (unhide HM).each, (unhide HM).last⟩ ⟨(unhide HGD).s1, (unhide HGD).s12, (unhide HGD).full, (unhide HGD).ne, (unhide HGD).a⟩ hW hnl (by rw [← hX]; exact hclr) (by rw [← hX]; exact hend) (unhide HO) hmo (fun w' hb => unhide HET w' ((unhide HB3).trans hb)) (fun w' hb => unhide HEB w' ((unhide HB3).trans hb))
          have H1 : Hid (n ≠ 2 ^ W + 1) := by rw [← hX]; exact hend
          have H2 : Hid (n ≠ 2 ^ W) := by rw [← hX]; exact hclr
          clear hX hend hclr
          go_wp2_with fail
          refine (unhide HEN).mono ?_; rintro e w4 ⟨rfl, rfl⟩
          clear HEN
          go_wp2_with fail
          refine (unhide HCLR).mono ?_; rintro e w5 ⟨rfl, rfl⟩
          clear HCLR
          go_wp2_with fail
          refine (unhide HWD).mono ?_; rintro e w6 ⟨v, rfl, hO6, hb6⟩
          have HB6 := hide ((unhide HB3).trans hb6)
          clear HWD hb6 HU3 HB3
          rcases hO6 with ⟨h1, rfl⟩ | ⟨x, h1, h2, rfl⟩ | ⟨x, h1, h2, rfl, vL', vT', hU6⟩
          · have HJ : Hid (G = .text) := dec_stop (unhide HGr) (Lz.step_none (unhide HFIT) (unhide HN) (unhide H1) (unhide H2) h1)
            clear h1
            go_wp2
            go_ret
            exact ⟨_, rfl, .inl ⟨unhide HJ, rfl⟩, unhide HB6⟩
          · have HJ : Hid (G = .bound) := dec_stop (unhide HGr) (Lz.step_bound (unhide HFIT) (unhide HN) (unhide H1) (unhide H2) h1 h2)
            clear h1 h2
            go_wp2
            go_ret
            exact ⟨_, rfl, .inr (.inl ⟨unhide HJ, rfl⟩), unhide HB6⟩
          · have HJ := hide (dec_go (unhide HGr) (Lz.step_word (unhide HFIT) (unhide HN) (unhide H1) (unhide H2) h1 h2))
            have hx := wordOf_ne (unhide HGD) h1
            have HM7 := hide ((unhide HM).next hx (st.k + st.S) (size' st.S (2 ^ W + 2 + (words' W st x).length)))
            have HG7 := hide ((unhide HGD).next h1 (st.k + st.S) (st.out ++ x))
            have HO7 : Hid ((st.out ++ x).length ≤ most) := by show _ ≤ _; rw [List.length_append]; exact h2
            have HU7 := hide hU6
            have HL7 := hide (leftR_at (nb := 8 * s.size) hU6.bits)
            clear h1 h2 hU6 hx
            go_wp2
            go_roundw
            case rel => exact ⟨_, _, _, _, vL', vT', f', rfl, HU7, HM7, HG7, HO7, HJ, by have := unhide HF; show 8 * s.size < st.k + st.S + f'; omega, HB6⟩
            case measure => rw [unhide HL7, unhide HLF]; have := unhide HFIT; show 8 * s.size - (st.k + st.S) < _; omega
    · have HJ : Hid (G = .text) := dec_stop (unhide HGr) (Lz.step_short (by omega))
      have HGT : Hid (Calls Tryz.prog 180 #[.pointer (some ⟨r, 0, none⟩), .int .i64 (st.S : Int)] wr.drew fun e w' => e = .returned (.tuple #[.int .u32 0, .iface uT xT]) ∧ UN w' p r s st.k W st.S (2 ^ W + 2 + pcs.length) most vL pcs la ll vT st.out ∧ Below r wr.drew w') := by
        refine (get_text r st.k st.S s (.iface uT xT) wr.drew (unhide HU2).bits (by omega) (by omega) (unhide HET _ (unhide HB2))).mono ?_
        rintro e w' ⟨rfl, hR, hb⟩
        exact ⟨rfl, (unhide HU2).below hb, hb.mono (by have := (unhide HU2).lt; omega)⟩
      clear hfit HU HU2 HB HGr
      go_wp2_with fail
      refine wp_region_held_drew (S := fun w' => w'.cell? ⟨p, 0, none⟩ = some (.pointer (some ⟨r, 0, none⟩)) ∧ w'.cell? ⟨p, 2, none⟩ = some (.int .i64 (st.S : Int))) (by kernel_rfl) (unhide HS2) (fun hHeld => ?_)
      refine wpAnyH_take (i := 0) (v := .pointer (some ⟨p, 0, none⟩)) rfl (by kernel_rfl) (by kernel_rfl) (by kernel_rfl) (fun _ _ _ h => h) (Or.inl ⟨by rfl, ?_⟩) hHeld ?_
      · intro w' hSw
        obtain ⟨s1, s2⟩ := hSw
        go_simp
      simp only [Act.put, List.setIfInBounds_toArray]
      refine wpAnyH_take (i := 1) (v := .pointer (some ⟨p, 0, none⟩)) rfl (by kernel_rfl) (by kernel_rfl) (by kernel_rfl) (fun _ _ _ h => h) (Or.inl ⟨by rfl, ?_⟩) hHeld ?_
      · intro w' hSw
        obtain ⟨s1, s2⟩ := hSw
        go_simp
      simp only [Act.put]
      refine wpAnyH_take (i := 2) (v := .pointer (some ⟨p, 0, none⟩)) rfl (by kernel_rfl) (by kernel_rfl) (by kernel_rfl) (fun _ _ _ h => h) (Or.inl ⟨by rfl, ?_⟩) hHeld ?_
      · intro w' hSw
        obtain ⟨s1, s2⟩ := hSw
        go_simp
      simp only [Act.put]
      refine wpAnyH_take (i := 3) (v := .pointer (some ⟨r, 0, none⟩)) rfl (by kernel_rfl) (by kernel_rfl) (by kernel_rfl) (fun _ _ _ h => h) (Or.inl ⟨by rfl, ?_⟩) hHeld ?_
      · intro w' hSw
        obtain ⟨s1, s2⟩ := hSw
        go_simp
      simp only [Act.put]
      refine wpAnyH_take (i := 4) (v := .pointer (some ⟨p, 0, none⟩)) rfl (by kernel_rfl) (by kernel_rfl) (by kernel_rfl) (fun _ _ _ h => h) (Or.inl ⟨by rfl, ?_⟩) hHeld ?_
      · intro w' hSw
        obtain ⟨s1, s2⟩ := hSw
        go_simp
      simp only [Act.put]
      refine wpAnyH_take (i := 5) (v := .pointer (some ⟨p, 0, none⟩)) rfl (by kernel_rfl) (by kernel_rfl) (by kernel_rfl) (fun _ _ _ h => h) (Or.inl ⟨by rfl, ?_⟩) hHeld ?_
      · intro w' hSw
        obtain ⟨s1, s2⟩ := hSw
        go_simp
      simp only [Act.put]
      refine wpAnyH_take (i := 6) (v := .pointer (some ⟨p, 1, none⟩)) rfl (by kernel_rfl) (by kernel_rfl) (by kernel_rfl) (fun _ _ _ h => h) (Or.inl ⟨by rfl, ?_⟩) hHeld ?_
      · intro w' hSw
        obtain ⟨s1, s2⟩ := hSw
        go_simp
      simp only [Act.put]
      refine wpAnyH_take (i := 7) (v := .pointer (some ⟨p, 2, none⟩)) rfl (by kernel_rfl) (by kernel_rfl) (by kernel_rfl) (fun _ _ _ h => h) (Or.inl ⟨by rfl, ?_⟩) hHeld ?_
      · intro w' hSw
        obtain ⟨s1, s2⟩ := hSw
        go_simp
      simp only [Act.put]
      refine wpAnyH_take (i := 8) (v := .int .i64 (st.S : Int)) rfl (by kernel_rfl) (by kernel_rfl) (by kernel_rfl) (fun _ _ _ h => h) (Or.inl ⟨by rfl, ?_⟩) hHeld ?_
      · intro w' hSw
        obtain ⟨s1, s2⟩ := hSw
        go_simp
      simp only [Act.put]
      refine wpAnyH_ready (rs := [9]) (by kernel_rfl) (by simp) ?_
      refine AllReadyH.cons rfl (fun K hK => ?_) AllReadyH.nil
      refine step_calls rfl 180 [.tmp 15, .tmp 20] #[248, 3] rfl [.pointer (some ⟨r, 0, none⟩), .int .i64 (st.S : Int)] (by simp [Act.eval]) entG ?_
      refine (unhide HGT).mono ?_
      rintro e w3 ⟨rfl, hX3⟩
      refine .inl ⟨_, rfl, ?_⟩
      have HX3 := hide hX3
      refine hK.out _ _ ⟨(unhide HX3).1.rd, (unhide HX3).1.cd.size⟩ (fun hHeld => ?_)
      clear hK K hX3 HGT HS2
      simp only [Act.put]
      refine wpAnyH_take (i := 10) (v := .tuple #[.int .u32 0, .iface uT xT]) rfl (by kernel_rfl) (by kernel_rfl) (by kernel_rfl) (fun _ _ _ h => h) (Or.inl ⟨by rfl, ?_⟩) hHeld ?_
      · intro w' hSw
        obtain ⟨s1, s2⟩ := hSw
        go_simp
      simp only [Act.put, List.getElem_toArray, List.getElem_cons_succ, List.getElem_cons_zero]
      refine wpAnyH_take (i := 11) (v := .int .u32 0) rfl (by kernel_rfl) (by kernel_rfl) (by kernel_rfl) (fun _ _ _ h => h) (Or.inl ⟨by rfl, ?_⟩) hHeld ?_
      · intro w' hSw
        obtain ⟨s1, s2⟩ := hSw
        go_simp
      simp only [Act.put, List.getElem_toArray, List.getElem_cons_succ, List.getElem_cons_zero]
      refine wpAnyH_take (i := 12) (v := .iface uT xT) rfl (by kernel_rfl) (by kernel_rfl) (by kernel_rfl) (fun _ _ _ h => h) (Or.inl ⟨by rfl, ?_⟩) hHeld ?_
      · intro w' hSw
        obtain ⟨s1, s2⟩ := hSw
        go_simp
      simp only [Act.put, List.getElem_toArray, List.getElem_cons_succ, List.getElem_cons_zero]
      refine wpAnyH_take (i := 13) (v := .int .u32 0) rfl (by kernel_rfl) (by kernel_rfl) (by kernel_rfl) (fun _ _ _ h => h) (Or.inl ⟨by rfl, ?_⟩) hHeld ?_
      · intro w' hSw
        obtain ⟨s1, s2⟩ := hSw
        go_simp
      simp only [Act.put, List.getElem_toArray, List.getElem_cons_succ, List.getElem_cons_zero]
      refine wpAnyH_take (i := 14) (v := .iface uT xT) rfl (by kernel_rfl) (by kernel_rfl) (by kernel_rfl) (fun _ _ _ h => h) (Or.inl ⟨by rfl, ?_⟩) hHeld ?_
      · intro w' hSw
        obtain ⟨s1, s2⟩ := hSw
        go_simp
      simp only [Act.put, List.getElem_toArray, List.getElem_cons_succ, List.getElem_cons_zero]
      refine wpAnyH_done (by kernel_rfl) ?_ _
      have HB3 := hide ((unhide HB2).trans (unhide HX3).2)
      clear HX3 HB2
      go_wp2
      go_ret
      exact ⟨_, rfl, .inl ⟨unhide HJ, rfl⟩, unhide HB3⟩
end
end Go.Proofs.YtjcoahahponabaaGreatDoor
