/- Walks of the tree's next symbol. -/
import Derived.Test.YtebkinbkbololacDoorHuR
namespace Go.Proofs.YtebkinbkbololacDoor
open Go.RowKit Pm Cn Cd

theorem half (K i : Nat) : K / 2 ^ i = 2 * (K / 2 ^ (i + 1)) + K / 2 ^ i % 2 := by
  rw [Nat.pow_succ, ← Nat.div_div_eq_div_mul]; omega

set_option maxHeartbeats 4000000 in
set_option maxRecDepth 100000 in
/-- A word comes. -/
theorem next_found (T B p k m L K : Nat) (s : ByteArray) (l : Nat → Nat) (sy : List Nat) (w : World) (hT : TAt w T B l sy) (hBp : B ≤ p) (hR : RAt w p s k) (hm : m < sy.length) (hsl : sy.length ≤ 300) (hL0 : 0 < L) (hL : L ≤ 15) (hfit : k + L ≤ 8 * s.size) (hK : K < 2 ^ L)
    (R1 : ∀ j, j < L → en l sy j ≤ K / 2 ^ (L - j)) (R2 : ∀ j, j < L → sh l sy j ≤ m) (R3 : 2 * en l sy (L - 1) ≤ K) (R4 : K - 2 * en l sy (L - 1) < cn l sy L) (R5 : sh l sy (L - 1) + (K - 2 * en l sy (L - 1)) = m)
    (hbits : ∀ j, j < L → tv s / 2 ^ (k + j) % 2 = K / 2 ^ (L - 1 - j) % 2) :
    Calls Tryd.prog 15 #[.pointer (some ⟨T, 0, none⟩), .pointer (some ⟨p, 0, none⟩)] w fun e w' => e = .returned (.tuple #[.int .i64 (sy[m] : Nat), .nilIface]) ∧ RAt w' p s (k + L) ∧ Below p w w' := by
  have hKs : K < 32768 := Nat.lt_of_lt_of_le hK (Nat.pow_le_pow_right (n := 2) (j := 15) (by omega) hL)
  obtain ⟨ao, c, hs1, hs2⟩ := hT.symbols
  obtain ⟨g, rfl, hgB, hs3⟩ := hs2 (by omega)
  obtain ⟨x, hx⟩ : ∃ x, x = sy[m] := ⟨_, rfl⟩
  have hcx := hs3 m hm
  rw [← hx] at hcx ⊢
  have HT := hide hT
  have HR := hide hR
  have HR1 := hide R1
  have HR2 := hide R2
  have HR3 := hide R3
  have HR4 := hide R4
  have HR5 := hide R5
  have HB := hide hbits
  have HK := hide hK
  have Hc1 := hide hs1
  have Hcx := hide hcx
  have hlim := hT.lim
  clear hT hR R1 R2 R3 R4 R5 hbits hs1 hs2 hs3 hcx hx hK
  go_enter Tryd.func15, Tryd.ntmps15
  go_wp2
  go_loopw [6, 7, 8] (fun bh st ln wr => ∃ j b : Nat, j < L ∧ ln = .int .i64 ((j + 1 : Nat) : Int) ∧ bh = .int .i64 b ∧ st = .int .i64 (sh l sy j : Nat) ∧ Hid (b + en l sy j = K / 2 ^ (L - j)) ∧ Hid (RAt wr p s (k + j)) ∧ Below p w wr) (fun _ _ ln _ => L + 1 - (intOf ln).toNat)
  case atStart => exact ⟨0, 0, hL0, rfl, rfl, rfl, (by rw [Nat.sub_zero, Nat.div_eq_of_lt (unhide HK)]; rfl : 0 + en l sy 0 = K / 2 ^ (L - 0)), HR, Below.refl _ _⟩
  case round =>
    obtain ⟨j, b, hj, rfl, rfl, rfl, Hb, HRj, hbr⟩ := hrel
    have c16 := (hbr.cell (p := ⟨T, 16, none⟩) (by show T < p; omega)).trans (unhide Hc1)
    have cj := (hbr.cell (p := ⟨T, j + 1, none⟩) (by show T < p; omega)).trans ((unhide HT).words (j + 1) (by omega))
    have hsj := unhide HR2 j hj
    have hcl := cn_le l sy (j + 1)
    have d0 : decide ((sh l sy j : Int) < (sy.length : Int)) = true := by simp; omega
    have hvle : K / 2 ^ (L - j) ≤ K := Nat.div_le_self _ _
    have hbK : b ≤ K := by have := unhide Hb; omega
    have hbt := unhide HB j hj
    have hhalf := half K (L - 1 - j)
    rw [show L - 1 - j + 1 = L - j by omega] at hhalf
    have hget := hide (get_yes p (k + j) 1 s wr (unhide HRj) (by omega) (by omega))
    rw [show (2 : Nat) ^ 1 = 2 from rfl] at hget
    rw [hbt] at hget
    obtain ⟨bit, hbit⟩ : ∃ bit, bit = K / 2 ^ (L - 1 - j) % 2 := ⟨_, rfl⟩
    have hb2 : bit < 2 := by rw [hbit]; exact Nat.mod_lt _ (by omega)
    rw [← hbit] at hget hhalf
    have Hj1 := hide (show en l sy (j + 1) = 2 * en l sy j + cn l sy (j + 1) from rfl)
    have Hsh := hide (show sh l sy (j + 1) = sh l sy j + cn l sy (j + 1) from rfl)
    have Hhalf := hide hhalf
    obtain ⟨b2, hb2'⟩ : ∃ q, q = 2 * b + bit := ⟨_, rfl⟩
    have zb2 : 2 * (b : Int) + (bit : Int) = (b2 : Int) := by omega
    have lb1 : b2 ≤ 2 * b + bit := by omega
    have lb2 : 2 * b + bit ≤ b2 := by omega
    have HRj1 : Hid (RAt wr p s (k + j)) := HRj
    clear hbt hhalf hbit hb2'
    by_cases hjL : j + 1 = L
    · -- the word's last bit
      have hlt : b2 < cn l sy (j + 1) ∧ sh l sy j + b2 = m := by
        have h3 := unhide HR3
        have h4 := unhide HR4
        have h5 := unhide HR5
        have h6 := unhide Hb
        have h7 := unhide Hhalf
        rw [show L - 1 = j by omega] at h3 h4 h5
        rw [← hjL] at h4 h6 h7
        rw [show j + 1 - 1 - j = 0 by omega, Nat.pow_zero, Nat.div_one] at h7
        omega
      have d1 : decide ((b2 : Int) < (cn l sy (j + 1) : Int)) = true := by simp; omega
      have d1n : decide (b2 < cn l sy (j + 1)) = true := by simp; omega
      have d1p : b2 < cn l sy (j + 1) := hlt.1
      have d0n : decide (sh l sy j < sy.length) = true := by simp; omega
      have zm : (sh l sy j : Int) + (b2 : Int) = (m : Int) := by omega
      have hml : (m : Int) < (sy.length : Int) := by omega
      have cx := (hbr.cell (p := ⟨g, m, none⟩) (by show g < p; omega)).trans (unhide Hcx)
      have HkL : Hid (k + j + 1 = k + L) := by show _ = _; omega
      have Hc16 := hide c16
      have Hcj := hide cj
      have Hcx2 := hide cx
      generalize sh l sy j = st at *
      generalize cn l sy (j + 1) = cj1 at *
      clear hlt c16 cj cx hjL
      have c16 := unhide Hc16
      go_wp2_with fail
      refine (unhide hget).mono ?_; rintro e w2 ⟨rfl, hR2, hb3⟩
      have c16b := (hb3.cell (p := ⟨T, 16, none⟩) (by show T < p; omega)).trans (unhide Hc16)
      have cjb := (hb3.cell (p := ⟨T, j + 1, none⟩) (by show T < p; omega)).trans (unhide Hcj)
      have cxb := (hb3.cell (p := ⟨g, m, none⟩) (by show g < p; omega)).trans (unhide Hcx2)
      have HR2b := hide hR2
      have hbw := hbr.trans hb3
      clear hR2 hb3 hget c16
      go_wp2
      go_ret2
      exact ⟨rfl, by rw [← unhide HkL]; exact unhide HR2b, hbw⟩
    · -- a shorter beginning
      have hge : cn l sy (j + 1) ≤ b2 ∧ b2 + 2 * en l sy j = K / 2 ^ (L - (j + 1)) := by
        have h1 := unhide HR1 (j + 1) (by omega)
        have h6 := unhide Hb
        have h7 := unhide Hhalf
        rw [unhide Hj1] at h1
        rw [show L - 1 - j = L - (j + 1) by omega] at h7
        omega
      have d1 : decide ((b2 : Int) < (cn l sy (j + 1) : Int)) = false := by simp; omega
      have d1n : decide (b2 < cn l sy (j + 1)) = false := by simp; omega
      have d1p : ¬ b2 < cn l sy (j + 1) := by omega
      have d0n : decide (sh l sy j < sy.length) = true := by simp; omega
      obtain ⟨b4, hb4⟩ : ∃ q, q = b2 - cn l sy (j + 1) := ⟨_, rfl⟩
      have zb4 : (b2 : Int) - (cn l sy (j + 1) : Int) = (b4 : Int) := by omega
      have Hb4 : Hid (b4 + en l sy (j + 1) = K / 2 ^ (L - (j + 1))) := by show _ = _; rw [unhide Hj1]; omega
      obtain ⟨st2, hst2⟩ : ∃ q, q = sh l sy (j + 1) := ⟨_, rfl⟩
      have zst : (sh l sy j : Int) + (cn l sy (j + 1) : Int) = (st2 : Int) := by rw [hst2, unhide Hsh]; omega
      have Hst2 := hide hst2
      have hst300 : st2 ≤ 600 := by have := unhide HR2 (j + 1) (by omega); omega
      have Hc16 := hide c16
      have Hcj := hide cj
      have hs300 : sh l sy j ≤ 300 := by omega
      generalize sh l sy j = st at *
      generalize cn l sy (j + 1) = cj1 at *
      clear hge c16 cj hb4 hst2
      have c16 := unhide Hc16
      go_wp2_with fail
      refine (unhide hget).mono ?_; rintro e w2 ⟨rfl, hR2, hb3⟩
      have cjb := (hb3.cell (p := ⟨T, j + 1, none⟩) (by show T < p; omega)).trans (unhide Hcj)
      have HR2b := hide hR2
      have hbw := hbr.trans hb3
      clear hR2 hb3 hget c16
      go_wp2
      go_roundw
      case rel => exact ⟨j + 1, b4, by omega, by go_num, rfl, by rw [unhide Hst2], Hb4, HR2b, hbw⟩
      case measure => simp [intOf]; omega

/-- No word at all. -/
theorem next_empty (T B p : Nat) (l : Nat → Nat) (v : Value) (w : World) (hT : TAt w T B l []) (hv : w.cell? ⟨1, 0, none⟩ = some v) :
    Calls Tryd.prog 15 #[.pointer (some ⟨T, 0, none⟩), .pointer (some ⟨p, 0, none⟩)] w fun e w' => e = .returned (.tuple #[.int .i64 0, v]) ∧ Below w.heap.size w w' := by
  obtain ⟨ao, c, hs1, _⟩ := hT.symbols
  rw [List.length_nil] at hs1
  clear hT
  go_enter Tryd.func15, Tryd.ntmps15
  go_wp2
  go_loop [6, 7, 8] (fun _ st _ => st = .int .i64 0) (fun _ _ _ => 0)
  case atStart => rfl
  case round =>
    subst hrel
    go_wp2
    go_quiet (fail)
    go_wp2
    go_ret2
    exact ⟨rfl, below_drewN (Below.refl _ _) nq⟩

set_option maxHeartbeats 1000000 in
/-- One word of one bit, and it isn't there. -/
theorem next_falls (T B p : Nat) (x : Nat) (s : ByteArray) (l : Nat → Nat) (v : Value) (w : World) (hT : TAt w T B l [x]) (hBp : B ≤ p) (hR : RAt w p s 0) (hl : l x = 1) (hs : 1 ≤ s.size) (hbit : tv s % 2 = 1) (hv : w.cell? ⟨1, 0, none⟩ = some v) (hvp : 1 < p) :
    Calls Tryd.prog 15 #[.pointer (some ⟨T, 0, none⟩), .pointer (some ⟨p, 0, none⟩)] w fun e w' => e = .returned (.tuple #[.int .i64 0, v]) ∧ Below p w w' := by
  obtain ⟨ao, c, hs1, _⟩ := hT.symbols
  have hw1 := hT.words 1 (by omega)
  rw [show cn l [x] 1 = 1 by simp [cn, hl]] at hw1
  rw [List.length_singleton] at hs1
  have hlim := hT.lim
  have hget := hide (get_yes p 0 1 s w hR (by omega) (by omega))
  rw [Nat.pow_zero, Nat.div_one, show (2 : Nat) ^ 1 = 2 from rfl, hbit] at hget
  have Hv := hide hv
  have Hs1 := hide hs1
  have Hw1 := hide hw1
  clear hT hR hbit
  go_enter Tryd.func15, Tryd.ntmps15
  go_wp2
  go_loopw [6, 7, 8] (fun bh st ln wr => (bh = .int .i64 0 ∧ st = .int .i64 0 ∧ ln = .int .i64 1 ∧ wr = w) ∨ (st = .int .i64 1 ∧ ln = .int .i64 2 ∧ Below p w wr)) (fun _ _ ln _ => 2 - (intOf ln).toNat)
  case atStart => exact .inl ⟨rfl, rfl, rfl, rfl⟩
  case round =>
    rcases hrel with ⟨rfl, rfl, rfl, rfl⟩ | ⟨rfl, rfl, hbr⟩
    · go_wp2_with fail
      refine (unhide hget).mono ?_; rintro e w2 ⟨rfl, hR2, hb3⟩
      have cjb := (hb3.cell (p := ⟨T, 1, none⟩) (by show T < p; omega)).trans (unhide Hw1)
      have c16 := (hb3.cell (p := ⟨T, 16, none⟩) (by show T < p; omega)).trans (unhide Hs1)
      clear hR2 hget hv hs1 hw1
      go_wp2
      go_roundw
      case rel => exact .inr ⟨rfl, rfl, hb3⟩
      case measure => simp [intOf]
    · have c16 := (hbr.cell (p := ⟨T, 16, none⟩) (by show T < p; omega)).trans (unhide Hs1)
      have cv := (hbr.cell (p := ⟨1, 0, none⟩) hvp).trans (unhide Hv)
      clear hv hs1 hw1
      go_wp2
      go_quiet (fail)
      go_wp2
      go_ret2
      exact ⟨rfl, below_drewN hbr nq⟩
end Go.Proofs.YtebkinbkbololacDoor
