/- The mean of a sum: the program's; the document's. -/
import Derived.Test.YtpfobocdbmiagaaDoorCm0
import Derived.Deep.RegionHeld
import Derived.Sort.AtCall
namespace Go.Proofs.YtpfobocdbmiagaaDoor
open Go.RowKit

/-- The next whole number, halves up. -/
def rdN (n t : Nat) : Nat := (2 * n + t) / (2 * t)
theorem rdN_le {n t : Nat} (ht : 1 ≤ t) (h : n ≤ 255 * t) : rdN n t ≤ 255 := by
  unfold rdN
  refine Nat.lt_succ_iff.1 (Nat.div_lt_of_lt_mul ?_)
  have e : 2 * t * Nat.succ 255 = 512 * t := by rw [Nat.mul_assoc, Nat.mul_comm t, ← Nat.mul_assoc]
  omega
theorem rdN_parts {n t : Nat} (ht : 1 ≤ t) : rdN n t = if 2 * (n - n / t * t) ≥ t then n / t + 1 else n / t := by
  unfold rdN
  have h1 := Nat.div_add_mod n t
  have h2 := Nat.mod_lt n (show 0 < t by omega)
  have e : n / t * t = t * (n / t) := Nat.mul_comm _ _
  rw [e]
  generalize hq : n / t = q at *
  generalize hr : n % t = r at *
  have e2 : n - t * q = r := by omega
  rw [e2]
  split
  · have : 2 * n + t = (2 * t) * (q + 1) + (2 * r - t) := by rw [Nat.mul_succ, Nat.mul_assoc]; omega
    rw [this, Nat.mul_add_div (by omega), Nat.div_eq_of_lt (by omega)]
    first | done | rfl
  · have : 2 * n + t = (2 * t) * q + (2 * r + t) := by rw [Nat.mul_assoc]; omega
    rw [this, Nat.mul_add_div (by omega), Nat.div_eq_of_lt (by omega)]
    rfl
def meanP (s : Sm) : Px := ⟨UInt8.ofNat (rdN s.r s.t), UInt8.ofNat (rdN s.g s.t), UInt8.ofNat (rdN s.b s.t), UInt8.ofNat (rdN s.a s.t)⟩
theorem u8_num {n : Nat} (h : n ≤ 255) : (((UInt8.ofNat n).toNat : Nat) : Int) = (n : Int) := by rw [UInt8.toNat_ofNat']; omega

theorem mean1_any (n t V : Nat) (w : World) (hc : w.cell? ⟨V, 4, none⟩ = some (.int .i64 (t : Int))) (ht : 1 ≤ t) (ht2 : t ≤ 1000000) (hn : n ≤ 255 * t) :
    Calls Tryd.prog 58 #[.int .i64 (n : Int), .pointer (some ⟨V, 0, none⟩)] w fun e w' => e = .returned (.int .u8 (rdN n t : Int)) ∧ w' = w := by
  have hl := rdN_le ht hn
  have hd : ((2 * n + t : Nat) : Int) / ((2 * t : Nat) : Int) = (rdN n t : Int) := by unfold rdN; simp
  have e1 : 2 * (n : Int) + (t : Int) = ((2 * n + t : Nat) : Int) := by omega
  have e2 : 2 * (t : Int) = ((2 * t : Nat) : Int) := by omega
  have HD := hide hd
  generalize rdN n t = r at *
  obtain ⟨x, hx⟩ : ∃ x, x = 2 * n + t := ⟨_, rfl⟩
  obtain ⟨y, hy⟩ : ∃ y, y = 2 * t := ⟨_, rfl⟩
  rw [← hx] at HD e1
  rw [← hy] at HD e2
  have hy0 : ¬ (y : Int) = 0 := by omega
  have hyp : 0 < (y : Int) := by omega
  have hxp : 0 ≤ (x : Int) ∧ (x : Int) ≤ 1000000000 := by omega
  have hyq : (y : Int) ≤ 2000000 := by omega
  have hD := unhide HD
  clear hd hx hy HD hn
  go_enter Tryd.func58, Tryd.ntmps58
  go_wp2
  go_ret
  exact ⟨rfl, rfl⟩

set_option maxHeartbeats 4000000 in
set_option maxRecDepth 100000 in
theorem mean_any (s : Sm) (w : World) (ht : 1 ≤ s.t) (ht2 : s.t ≤ 1000000) (h : s.r ≤ 255 * s.t ∧ s.g ≤ 255 * s.t ∧ s.b ≤ 255 * s.t ∧ s.a ≤ 255 * s.t) :
    Calls Tryd.prog 45 #[s.val] w fun e w' => e = .returned (meanP s).val ∧ Below w.heap.size w w' := by
  obtain ⟨h1, h2, h3, h4⟩ := h
  have hmf : ∀ (fn : Fn) (first cap : Array Value) (w : World), (Instr.makeFunc fn first cap).run Tryd.prog w = .ok (.func fn first cap) w := fun _ _ _ _ => rfl
  have C1 := hide (fun V w' hc => mean1_any s.r s.t V w' hc ht ht2 h1)
  have C2 := hide (fun V w' hc => mean1_any s.g s.t V w' hc ht ht2 h2)
  have C3 := hide (fun V w' hc => mean1_any s.b s.t V w' hc ht ht2 h3)
  have C4 := hide (fun V w' hc => mean1_any s.a s.t V w' hc ht ht2 h4)
  have u1 := u8_num (rdN_le ht h1)
  have u2 := u8_num (rdN_le ht h2)
  have u3 := u8_num (rdN_le ht h3)
  have u4 := u8_num (rdN_le ht h4)
  have HV : Hid ((meanP s).val = .agg #[.int .u8 (rdN s.r s.t : Int), .int .u8 (rdN s.g s.t : Int), .int .u8 (rdN s.b s.t : Int), .int .u8 (rdN s.a s.t : Int)]) := by
    show Value.agg #[.int .u8 ((UInt8.ofNat (rdN s.r s.t)).toNat : Int), .int .u8 ((UInt8.ofNat (rdN s.g s.t)).toNat : Int), .int .u8 ((UInt8.ofNat (rdN s.b s.t)).toNat : Int), .int .u8 ((UInt8.ofNat (rdN s.a s.t)).toNat : Int)] = _
    rw [u1, u2, u3, u4]
  have HA := hide (al2 w (.cells #[.int .i64 (s.r : Int), .int .i64 (s.g : Int), .int .i64 (s.b : Int), .int .i64 (s.a : Int), .int .i64 (s.t : Int)] 89) (.cells #[.int .u8 0, .int .u8 0, .int .u8 0, .int .u8 0] 40))
  generalize rdN s.r s.t = m1 at *
  generalize rdN s.g s.t = m2 at *
  generalize rdN s.b s.t = m3 at *
  generalize rdN s.a s.t = m4 at *
  rw [unhide HV]
  unfold Sm.val
  obtain ⟨B, hB⟩ : ∃ B, B = w.heap.size := ⟨_, rfl⟩
  clear u1 u2 u3 u4 h1 h2 h3 h4 HV
  generalize s.r = r at *
  generalize s.g = g at *
  generalize s.b = b at *
  generalize s.a = a at *
  generalize s.t = t at *
  go_enter Tryd.func45, Tryd.ntmps45
  go_wp2_with fail
  generalize (w.alloc (.cells #[.int .i64 (r : Int), .int .i64 (g : Int), .int .i64 (b : Int), .int .i64 (a : Int), .int .i64 (t : Int)] 89)).alloc (.cells #[.int .u8 0, .int .u8 0, .int .u8 0, .int .u8 0] 40) = w2 at *
  rw [← hB] at HA ⊢
  obtain ⟨hs2, k0, k1, hb2⟩ := unhide HA
  have d0 : w2.cell? ⟨B, 0, none⟩ = some (.int .i64 (r : Int)) := blk_cell k0 0
  have d1 : w2.cell? ⟨B, 1, none⟩ = some (.int .i64 (g : Int)) := blk_cell k0 1
  have d2 : w2.cell? ⟨B, 2, none⟩ = some (.int .i64 (b : Int)) := blk_cell k0 2
  have d3 : w2.cell? ⟨B, 3, none⟩ = some (.int .i64 (a : Int)) := blk_cell k0 3
  have d4 : w2.cell? ⟨B, 4, none⟩ = some (.int .i64 (t : Int)) := blk_cell k0 4
  have e0 : w2.cell? ⟨B + 1, 0, none⟩ = some (.int .u8 0) := blk_cell k1 0
  have e1 : w2.cell? ⟨B + 1, 1, none⟩ = some (.int .u8 0) := blk_cell k1 1
  have e2 : w2.cell? ⟨B + 1, 2, none⟩ = some (.int .u8 0) := blk_cell k1 2
  have e3 : w2.cell? ⟨B + 1, 3, none⟩ = some (.int .u8 0) := blk_cell k1 3
  have f0 := blk_frozen k1 0
  have f1 := blk_frozen k1 1
  have f2 := blk_frozen k1 2
  have f3 := blk_frozen k1 3
  have hBl : B + 1 < w2.heap.size := by omega
  have HB := hide hb2
  have HBE := hide hB
  have KS : Hid (w2.drew.cell? ⟨B, 0, none⟩ = some (.int .i64 (r : Int)) ∧ w2.drew.cell? ⟨B, 1, none⟩ = some (.int .i64 (g : Int)) ∧ w2.drew.cell? ⟨B, 2, none⟩ = some (.int .i64 (b : Int)) ∧ w2.drew.cell? ⟨B, 3, none⟩ = some (.int .i64 (a : Int)) ∧ w2.drew.cell? ⟨B, 4, none⟩ = some (.int .i64 (t : Int))) := ⟨d0, d1, d2, d3, d4⟩
  have hq : ∀ j, ((((w2.setCell ⟨B + 1, 0, none⟩ (.int .u8 (m1 : Int))).setCell ⟨B + 1, 1, none⟩ (.int .u8 (m2 : Int))).setCell ⟨B + 1, 2, none⟩ (.int .u8 (m3 : Int))).setCell ⟨B + 1, 3, none⟩ (.int .u8 (m4 : Int))).drew.cell? ⟨B, j, none⟩ = w2.cell? ⟨B, j, none⟩ := fun j => by
    have hne : ∀ i, (⟨B + 1, i, none⟩ : Addr) ≠ ⟨B, j, none⟩ := fun i e => by injection e with e; omega
    show ((((w2.setCell ⟨B + 1, 0, none⟩ (.int .u8 (m1 : Int))).setCell ⟨B + 1, 1, none⟩ (.int .u8 (m2 : Int))).setCell ⟨B + 1, 2, none⟩ (.int .u8 (m3 : Int))).setCell ⟨B + 1, 3, none⟩ (.int .u8 (m4 : Int))).cell? _ = _
    rw [World.cell?_setCell_other _ _ _ _ (hne 3), World.cell?_setCell_other _ _ _ _ (hne 2), World.cell?_setCell_other _ _ _ _ (hne 1), World.cell?_setCell_other _ _ _ _ (hne 0)]
  have KT := hide (And.intro ((hq 0).trans d0) (And.intro ((hq 1).trans d1) (And.intro ((hq 2).trans d2) (And.intro ((hq 3).trans d3) ((hq 4).trans d4)))))
  have HBS : Hid (Below B w ((((w2.setCell ⟨B + 1, 0, none⟩ (.int .u8 (m1 : Int))).setCell ⟨B + 1, 1, none⟩ (.int .u8 (m2 : Int))).setCell ⟨B + 1, 2, none⟩ (.int .u8 (m3 : Int))).setCell ⟨B + 1, 3, none⟩ (.int .u8 (m4 : Int))).drew) := (((((unhide HB).setCell (p := ⟨B + 1, 0, none⟩) (by show B ≤ B + 1; omega) _).setCell (p := ⟨B + 1, 1, none⟩) (by show B ≤ B + 1; omega) _).setCell (p := ⟨B + 1, 2, none⟩) (by show B ≤ B + 1; omega) _).setCell (p := ⟨B + 1, 3, none⟩) (by show B ≤ B + 1; omega) _).drew
  have D4 : Hid (w2.drew.cell? ⟨B, 4, none⟩ = some (.int .i64 (t : Int))) := d4
  clear HA k0 k1 hb2 hB hs2 hq HB
  go_region_held (fun w' => w'.cell? ⟨B, 0, none⟩ = some (.int .i64 (r : Int)) ∧ w'.cell? ⟨B, 1, none⟩ = some (.int .i64 (g : Int)) ∧ w'.cell? ⟨B, 2, none⟩ = some (.int .i64 (b : Int)) ∧ w'.cell? ⟨B, 3, none⟩ = some (.int .i64 (a : Int)) ∧ w'.cell? ⟨B, 4, none⟩ = some (.int .i64 (t : Int))) (first | with_reducible exact unhide KS | with_reducible exact unhide KT) (first | (go_at_call_of 58 r; refine (unhide C1 B _ (unhide D4)).mono ?_; rintro e w3 ⟨rfl, rfl⟩) | (go_at_call_of 58 g; refine (unhide C2 B _ (unhide D4)).mono ?_; rintro e w3 ⟨rfl, rfl⟩) | (go_at_call_of 58 b; refine (unhide C3 B _ (unhide D4)).mono ?_; rintro e w3 ⟨rfl, rfl⟩) | (go_at_call_of 58 a; refine (unhide C4 B _ (unhide D4)).mono ?_; rintro e w3 ⟨rfl, rfl⟩))
  go_wp2
  refine bodyPost_ret (v := .agg #[.int .u8 (m1 : Int), .int .u8 (m2 : Int), .int .u8 (m3 : Int), .int .u8 (m4 : Int)]) ?_ rfl ⟨rfl, ?_⟩
  · rw [results_cellP (p := 2) (ty := 40) (by kernel_rfl)]
    go_simp
  · rw [← unhide HBE]
    exact unhide HBS
end Go.Proofs.YtpfobocdbmiagaaDoor
