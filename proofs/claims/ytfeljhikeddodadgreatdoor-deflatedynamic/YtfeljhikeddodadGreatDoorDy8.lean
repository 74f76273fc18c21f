/- Walk: the cheapest codes of tokens. -/
import Derived.Test.YtfeljhikeddodadGreatDoorMh19
import Derived.Test.YtfeljhikeddodadGreatDoorMh18
import Derived.Test.YtfeljhikeddodadGreatDoorMh4
namespace Go.Proofs.YtfeljhikeddodadGreatDoor
open Go.RowKit Ps Nf Pm Cn

/-- The symbol of a token; how often each stands among the first. -/
def symT (t : Tks) (i : Nat) : Nat := if t.l i = 0 then t.b i else 257 + pl lens (t.l i).toNat
def cS (t : Tks) : Nat → Nat → Nat
  | 0, _ => 0
  | i + 1, x => cS t i x + if x = symT t i then 1 else 0
def cD (t : Tks) : Nat → Nat → Nat
  | 0, _ => 0
  | i + 1, x => cD t i x + if t.l i ≠ 0 ∧ x = pl dists (t.d i).toNat then 1 else 0
theorem cS_le (t : Tks) (i x : Nat) : cS t i x ≤ i := by
  induction i with
  | zero => exact Nat.le_refl _
  | succ i ih => show cS t i x + _ ≤ _; split <;> omega
theorem cD_le (t : Tks) (i x : Nat) : cD t i x ≤ i := by
  induction i with
  | zero => exact Nat.le_refl _
  | succ i ih => show cD t i x + _ ≤ _; split <;> omega
theorem cS_mono (t : Tks) {i j : Nat} (h : i ≤ j) (x : Nat) : cS t i x ≤ cS t j x := by
  induction j with
  | zero => have : i = 0 := by omega
            subst this; exact Nat.le_refl _
  | succ j ih =>
    by_cases e : i = j + 1
    · subst e; exact Nat.le_refl _
    · exact Nat.le_trans (ih (by omega)) (Nat.le_add_right _ _)
theorem cD_mono (t : Tks) {i j : Nat} (h : i ≤ j) (x : Nat) : cD t i x ≤ cD t j x := by
  induction j with
  | zero => have : i = 0 := by omega
            subst this; exact Nat.le_refl _
  | succ j ih =>
    by_cases e : i = j + 1
    · subst e; exact Nat.le_refl _
    · exact Nat.le_trans (ih (by omega)) (Nat.le_add_right _ _)
theorem cS_has (t : Tks) (n i : Nat) (h : i < n) : 0 < cS t n (symT t i) := by
  refine Nat.lt_of_lt_of_le ?_ (cS_mono t (show i + 1 ≤ n by omega) _)
  show 0 < cS t i _ + _
  rw [if_pos rfl]; omega
theorem cD_has (t : Tks) (n i : Nat) (h : i < n) (h0 : t.l i ≠ 0) : 0 < cD t n (pl dists (t.d i).toNat) := by
  refine Nat.lt_of_lt_of_le ?_ (cD_mono t (show i + 1 ≤ n by omega) _)
  show 0 < cD t i _ + _
  rw [if_pos ⟨h0, rfl⟩]; omega
/-- All counts of symbols: the block's end once more. -/
def cE (t : Tks) (n x : Nat) : Nat := cS t n x + if x = 256 then 1 else 0
set_option maxHeartbeats 4000000 in
set_option maxRecDepth 100000 in
theorem dcheap_any (ao : Option Addr) (n cap : Nat) (t : Tks) (v1 v2 : Value) (w : World) (hT : IsTokens w ao n t) (hB : Bl w) (hn : 12 ≤ w.heap.size) (hsh : ∀ i, i < n → t.shaped i) (hb : ∀ i, i < n → t.b i < 256) (hn3 : n ≤ 100000)
    (h1 : w.cell? ⟨0, 0, none⟩ = some v1) (h2 : w.cell? ⟨2, 0, none⟩ = some v2) :
    Calls Tryz.prog 78 #[.slice ao n cap] w fun e w' => ∃ x1 y1 x2 y2 l1 l2, e = .returned (.agg #[x1, y1, x2, y2]) ∧ Cv w' w.heap.size (.agg #[x1, y1]) l1 286 ∧ Cv w' w.heap.size (.agg #[x2, y2]) l2 30 ∧ Bst (cE t n) l1 286 15 ∧ Bst (cD t n) l2 30 15 ∧ Below w.heap.size w w' := by
  have l1 := World.block_lt_of_cell? _ _ h1
  have l2 := World.block_lt_of_cell? _ _ h2
  simp only at l1 l2
  have hb3 : Below w.heap.size w (((w.alloc (.cells #[.slice none 0 0, .slice none 0 0, .slice none 0 0, .slice none 0 0] 104)).alloc (.cells Tryz.zeroCells168 168)).alloc (.cells #[.int .i64 0, .int .i64 0, .int .i64 0, .int .i64 0, .int .i64 0, .int .i64 0, .int .i64 0, .int .i64 0, .int .i64 0, .int .i64 0, .int .i64 0, .int .i64 0, .int .i64 0, .int .i64 0, .int .i64 0, .int .i64 0, .int .i64 0, .int .i64 0, .int .i64 0, .int .i64 0, .int .i64 0, .int .i64 0, .int .i64 0, .int .i64 0, .int .i64 0, .int .i64 0, .int .i64 0, .int .i64 0, .int .i64 0, .int .i64 0] 169)) := (((Below.refl _ _).alloc (Nat.le_refl _) _).alloc (by simp) _).alloc (by simp; omega) _
  have hz : (Tryz.zeroCells168 : Array Value) = Array.replicate 286 (.int .i64 0) := by kernel_rfl
  have hS0 : Nr (((w.alloc (.cells #[.slice none 0 0, .slice none 0 0, .slice none 0 0, .slice none 0 0] 104)).alloc (.cells Tryz.zeroCells168 168)).alloc (.cells #[.int .i64 0, .int .i64 0, .int .i64 0, .int .i64 0, .int .i64 0, .int .i64 0, .int .i64 0, .int .i64 0, .int .i64 0, .int .i64 0, .int .i64 0, .int .i64 0, .int .i64 0, .int .i64 0, .int .i64 0, .int .i64 0, .int .i64 0, .int .i64 0, .int .i64 0, .int .i64 0, .int .i64 0, .int .i64 0, .int .i64 0, .int .i64 0, .int .i64 0, .int .i64 0, .int .i64 0, .int .i64 0, .int .i64 0, .int .i64 0] 169)) (w.heap.size + 1) 286 (fun _ => 0) := by
    have := Nr.new (w.alloc (.cells #[.slice none 0 0, .slice none 0 0, .slice none 0 0, .slice none 0 0] 104)) 286 168
    rw [show (w.alloc (.cells #[.slice none 0 0, .slice none 0 0, .slice none 0 0, .slice none 0 0] 104)).heap.size = w.heap.size + 1 by simp, ← hz] at this
    exact this.keep (Below.heap_alloc _ _ _ (by simp)) (by simp)
  have hD0 : Nr (((w.alloc (.cells #[.slice none 0 0, .slice none 0 0, .slice none 0 0, .slice none 0 0] 104)).alloc (.cells Tryz.zeroCells168 168)).alloc (.cells #[.int .i64 0, .int .i64 0, .int .i64 0, .int .i64 0, .int .i64 0, .int .i64 0, .int .i64 0, .int .i64 0, .int .i64 0, .int .i64 0, .int .i64 0, .int .i64 0, .int .i64 0, .int .i64 0, .int .i64 0, .int .i64 0, .int .i64 0, .int .i64 0, .int .i64 0, .int .i64 0, .int .i64 0, .int .i64 0, .int .i64 0, .int .i64 0, .int .i64 0, .int .i64 0, .int .i64 0, .int .i64 0, .int .i64 0, .int .i64 0] 169)) (w.heap.size + 2) 30 (fun _ => 0) := by
    have := Nr.new ((w.alloc (.cells #[.slice none 0 0, .slice none 0 0, .slice none 0 0, .slice none 0 0] 104)).alloc (.cells Tryz.zeroCells168 168)) 30 169
    rw [show ((w.alloc (.cells #[.slice none 0 0, .slice none 0 0, .slice none 0 0, .slice none 0 0] 104)).alloc (.cells Tryz.zeroCells168 168)).heap.size = w.heap.size + 2 by simp] at this
    exact this
  have f0 : (((w.alloc (.cells #[.slice none 0 0, .slice none 0 0, .slice none 0 0, .slice none 0 0] 104)).alloc (.cells Tryz.zeroCells168 168)).alloc (.cells #[.int .i64 0, .int .i64 0, .int .i64 0, .int .i64 0, .int .i64 0, .int .i64 0, .int .i64 0, .int .i64 0, .int .i64 0, .int .i64 0, .int .i64 0, .int .i64 0, .int .i64 0, .int .i64 0, .int .i64 0, .int .i64 0, .int .i64 0, .int .i64 0, .int .i64 0, .int .i64 0, .int .i64 0, .int .i64 0, .int .i64 0, .int .i64 0, .int .i64 0, .int .i64 0, .int .i64 0, .int .i64 0, .int .i64 0, .int .i64 0] 169)).heap[w.heap.size]? = some (.cells #[.slice none 0 0, .slice none 0 0, .slice none 0 0, .slice none 0 0] 104) := (Below.heap_alloc _ _ _ (by simp; omega)).trans ((Below.heap_alloc _ _ _ (by simp)).trans (heap_alloc_new _ _))
  have hTl : ∀ w', Below w.heap.size w w' → IsTokens w' ao n t := fun w' hb => hT.below hb
  have HT := hide hTl
  have HBl : Hid (∀ w', Below w.heap.size w w' → Bl w') := fun w' hb => hB.below hb hn
  have HB0 := hide hb3
  have HS0 := hide hS0
  have HD0 := hide hD0
  have F0 := hide f0
  have H1 := hide h1
  have H2 := hide h2
  have HSH := hide hsh
  have HBy := hide hb
  clear hb3 hz hS0 hD0 f0 hTl hT hB h1 h2 hsh hb
  go_enter Tryz.func78, Tryz.ntmps78
  go_wp2
  obtain ⟨gp, hgp⟩ : ∃ q, q = w.heap.size := ⟨_, rfl⟩
  rw [← hgp] at HS0 HD0 HB0 F0 l1 l2 HT HBl hn
  rw [← hgp]
  rw [show gp + 1 + 1 = gp + 2 from rfl]
  have Hgp := hide hgp
  clear hgp
  generalize (((w.alloc (.cells #[.slice none 0 0, .slice none 0 0, .slice none 0 0, .slice none 0 0] 104)).alloc (.cells Tryz.zeroCells168 168)).alloc (.cells #[.int .i64 0, .int .i64 0, .int .i64 0, .int .i64 0, .int .i64 0, .int .i64 0, .int .i64 0, .int .i64 0, .int .i64 0, .int .i64 0, .int .i64 0, .int .i64 0, .int .i64 0, .int .i64 0, .int .i64 0, .int .i64 0, .int .i64 0, .int .i64 0, .int .i64 0, .int .i64 0, .int .i64 0, .int .i64 0, .int .i64 0, .int .i64 0, .int .i64 0, .int .i64 0, .int .i64 0, .int .i64 0, .int .i64 0, .int .i64 0] 169)) = w0 at *
  go_loopw [9] (fun iv wr => ∃ i : Nat, i ≤ n ∧ iv = .int .i64 (i : Int) ∧ Hid (Nr wr (gp + 1) 286 (cS t i)) ∧ Hid (Nr wr (gp + 2) 30 (cD t i)) ∧ Hid (wr.heap[gp]? = some (.cells #[.slice none 0 0, .slice none 0 0, .slice none 0 0, .slice none 0 0] 104)) ∧ Hid (Below gp w wr) ∧ gp + 3 ≤ wr.heap.size) (fun iv _ => n - (intOf iv).toNat)
  case atStart => exact ⟨0, Nat.zero_le _, rfl, (unhide HS0).congr (fun j _ => rfl), (unhide HD0).congr (fun j _ => rfl), F0, HB0, (unhide HD0).lt⟩
  case round =>
    clear HS0 HD0 F0 HB0
    obtain ⟨i, hi, rfl, HS, HD, HF, HB, hwz⟩ := hrel
    by_cases hlt : i < n
    · have d1 : decide ((i : Int) < (n : Int)) = true := decide_eq_true (by omega)
      have d1n : decide (i < n) = true := decide_eq_true hlt
      have hii : (i : Int) < (n : Int) := by omega
      rcases unhide HT wr (unhide HB) with q0 | ⟨bb, off, rfl, hml, hcell⟩
      · omega
      obtain ⟨c0, c1, c2, hb256, _, _⟩ := hcell i hlt
      have hsp := unhide HSH i hlt
      have hsymD : symT t i = if t.l i = 0 then t.b i else 257 + pl lens (t.l i).toNat := rfl
      have hcS : ∀ x, cS t (i + 1) x = cS t i x + if x = symT t i then 1 else 0 := fun _ => rfl
      have hcD : ∀ x, cD t (i + 1) x = cD t i x + if t.l i ≠ 0 ∧ x = pl dists (t.d i).toNat then 1 else 0 := fun _ => rfl
      have hle := cS_le t i
      have hleD := cD_le t i
      unfold Tks.shaped at hsp
      by_cases hL0 : t.l i = 0
      · rw [if_pos hL0] at hsp hsymD
        rw [hL0] at c1
        obtain ⟨y, hy⟩ : ∃ y, y = t.b i := ⟨_, rfl⟩
        rw [← hy] at c0 hb256 hsymD
        rw [hsp] at c2
        have hy286 : y < 286 := by omega
        have hyi : (y : Int) < 286 := by omega
        have hba : Below wr.heap.size wr (wr.alloc (.cells #[.int .u8 (y : Int), .int .i64 0, .int .i64 0] 51)) := (Below.refl _ _).alloc (Nat.le_refl _) _
        have hS1 := (unhide HS).keep (hba.block (gp + 1) (by omega)) hba.size
        have hD1 := (unhide HD).keep (hba.block (gp + 2) (by omega)) hba.size
        have k0 := hS1.cell y hy286
        have k1 := hS1.free y hy286
        obtain ⟨m, hm⟩ : ∃ m, m = cS t i y := ⟨_, rfl⟩
        rw [← hm] at k0
        have hm3 : m ≤ 100000 := by rw [hm]; have := hle y; omega
        obtain ⟨m1, hm1⟩ : ∃ m1, m1 = m + 1 := ⟨_, rfl⟩
        have zm : (m : Int) + 1 = (m1 : Int) := by omega
        have HS2 : Hid (Nr ((wr.alloc (.cells #[.int .u8 (y : Int), .int .i64 0, .int .i64 0] 51)).setCell ⟨gp + 1, y, none⟩ (.int .i64 (m1 : Int))) (gp + 1) 286 (cS t (i + 1))) := (hS1.set y m1 hy286).congr (fun j _ => by
          rw [hcS, hsymD]
          by_cases e : j = y
          · rw [if_pos e, if_pos e, e, ← hm]; exact hm1
          · rw [if_neg e, if_neg e, Nat.add_zero])
        have HD2 : Hid (Nr ((wr.alloc (.cells #[.int .u8 (y : Int), .int .i64 0, .int .i64 0] 51)).setCell ⟨gp + 1, y, none⟩ (.int .i64 (m1 : Int))) (gp + 2) 30 (cD t (i + 1))) := (hD1.keep (Below.heap_setCell _ _ _ _ (fun q => by simp only at q; omega)) (by simp [World.setCell])).congr (fun j _ => by rw [hcD, if_neg (fun q => q.1 hL0), Nat.add_zero])
        have HF2 : Hid (((wr.alloc (.cells #[.int .u8 (y : Int), .int .i64 0, .int .i64 0] 51)).setCell ⟨gp + 1, y, none⟩ (.int .i64 (m1 : Int))).heap[gp]? = some (.cells #[.slice none 0 0, .slice none 0 0, .slice none 0 0, .slice none 0 0] 104)) := by
          show _ = _
          rw [Below.heap_setCell _ _ _ _ (fun q => by simp only at q; omega), hba.block gp (by omega)]
          exact unhide HF
        have HB2 := hide (((unhide HB).trans (hba.mono (by omega))).setCell (p := ⟨gp + 1, y, none⟩) (by show gp ≤ gp + 1; omega) (.int .i64 (m1 : Int)))
        have hwz2 : gp + 3 ≤ ((wr.alloc (.cells #[.int .u8 (y : Int), .int .i64 0, .int .i64 0] 51)).setCell ⟨gp + 1, y, none⟩ (.int .i64 (m1 : Int))).heap.size := by
          have := hba.size
          simpa [World.setCell] using Nat.le_trans hwz this
        have hne : gp + 1 ≠ wr.heap.size := by omega
        have Hm := hide hm
        have Hm1 := hide hm1
        have Hy := hide hy
        clear hcell hml hsp hsymD hcS hcD hle hleD hL0 hy hm hm1 hba hS1 hD1 HS HD HF HB
        go_wp2
        go_roundw
        case rel => exact ⟨i + 1, by omega, by go_num, HS2, HD2, HF2, HB2, hwz2⟩
        case measure => simp [intOf]; omega
      · rw [if_neg hL0] at hsp hsymD
        obtain ⟨hb0, ⟨hl3, hl258⟩, hd1, hd3⟩ := hsp
        obtain ⟨L, hL⟩ : ∃ L, L = (t.l i).toNat := ⟨_, rfl⟩
        obtain ⟨D, hD⟩ : ∃ D, D = (t.d i).toNat := ⟨_, rfl⟩
        have zL : t.l i = (L : Int) := by omega
        have zD : t.d i = (D : Int) := by omega
        rw [zL] at c1
        rw [zD] at c2
        rw [hb0] at c0
        rw [← hL] at hsymD
        have hcD2 : ∀ x, cD t (i + 1) x = cD t i x + if x = pl dists D then 1 else 0 := fun x => by
          rw [hcD, ← hD]
          by_cases e : x = pl dists D
          · rw [if_pos ⟨hL0, e⟩, if_pos e]
          · rw [if_neg (fun q => e q.2), if_neg e]
        obtain ⟨p1, _, _⟩ := pl_lens (n := L) ⟨by omega, by omega⟩
        obtain ⟨p2, _, _⟩ := pl_dists (n := D) ⟨by omega, by omega⟩
        obtain ⟨y, hy⟩ : ∃ y, y = 257 + pl lens L := ⟨_, rfl⟩
        obtain ⟨u, hu⟩ : ∃ u, u = pl dists D := ⟨_, rfl⟩
        have hy286 : y < 286 := by omega
        have hyi : (y : Int) < 286 := by omega
        have hu30 : u < 30 := by omega
        have hui : (u : Int) < 30 := by omega
        have dl : ((L : Int) == 0) = false := by rw [beq_eq_false_iff_ne]; omega
        have hba : Below wr.heap.size wr (wr.alloc (.cells #[.int .u8 0, .int .i64 (L : Int), .int .i64 (D : Int)] 51)) := (Below.refl _ _).alloc (Nat.le_refl _) _
        have hS1 := (unhide HS).keep (hba.block (gp + 1) (by omega)) hba.size
        have hD1 := (unhide HD).keep (hba.block (gp + 2) (by omega)) hba.size
        have k0 := hS1.cell y hy286
        have k1 := hS1.free y hy286
        obtain ⟨m, hm⟩ : ∃ m, m = cS t i y := ⟨_, rfl⟩
        rw [← hm] at k0
        have hm3 : m ≤ 100000 := by rw [hm]; have := hle y; omega
        obtain ⟨m1, hm1⟩ : ∃ m1, m1 = m + 1 := ⟨_, rfl⟩
        have zm : (m : Int) + 1 = (m1 : Int) := by omega
        obtain ⟨wa, hwa⟩ : ∃ q, q = wr.alloc (.cells #[.int .u8 0, .int .i64 (L : Int), .int .i64 (D : Int)] 51) := ⟨_, rfl⟩
        have g0 : wa.cell? ⟨wr.heap.size, 2, none⟩ = some (.int .i64 (D : Int)) := by rw [hwa]; simp [go_sem]
        rw [← hwa] at hba hS1 hD1 k0 k1
        have hS2 : Nr (wa.setCell ⟨gp + 1, y, none⟩ (.int .i64 (m1 : Int))) (gp + 1) 286 (cS t (i + 1)) := (hS1.set y m1 hy286).congr (fun j _ => by
          rw [hcS, hsymD, ← hy]
          by_cases e : j = y
          · rw [if_pos e, if_pos e, e, ← hm]; exact hm1
          · rw [if_neg e, if_neg e, Nat.add_zero])
        have hD2 : Nr (wa.setCell ⟨gp + 1, y, none⟩ (.int .i64 (m1 : Int))) (gp + 2) 30 (cD t i) := hD1.keep (Below.heap_setCell _ _ _ _ (fun q => by simp only at q; omega)) (by simp [World.setCell])
        have g1 : (wa.setCell ⟨gp + 1, y, none⟩ (.int .i64 (m1 : Int))).cell? ⟨wr.heap.size, 2, none⟩ = some (.int .i64 (D : Int)) := by
          rw [World.cell?_setCell_other _ _ _ _ (fun q => by injection q with q _; omega)]
          exact g0
        have HF2 : Hid ((wa.setCell ⟨gp + 1, y, none⟩ (.int .i64 (m1 : Int))).heap[gp]? = some (.cells #[.slice none 0 0, .slice none 0 0, .slice none 0 0, .slice none 0 0] 104)) := by
          show _ = _
          rw [Below.heap_setCell _ _ _ _ (fun q => by simp only at q; omega), hba.block gp (by omega)]
          exact unhide HF
        have HBa := hide ((unhide HB).trans (hba.mono (by omega)))
        have HB2 := hide ((unhide HBa).setCell (p := ⟨gp + 1, y, none⟩) (by show gp ≤ gp + 1; omega) (.int .i64 (m1 : Int)))
        have HXL := symLen_any L wa (unhide HBl wa (unhide HBa)) ⟨by omega, by omega⟩
        rw [← hy] at HXL
        have HXL := hide HXL
        have HXD := symDist_any D (wa.setCell ⟨gp + 1, y, none⟩ (.int .i64 (m1 : Int))) (unhide HBl _ (unhide HB2)) ⟨by omega, by omega⟩
        rw [← hu] at HXD
        have HXD := hide HXD
        have hwz2 : gp + 3 ≤ (wa.setCell ⟨gp + 1, y, none⟩ (.int .i64 (m1 : Int))).heap.size := by
          have := hba.size
          simpa [World.setCell] using Nat.le_trans hwz this
        have HS2 := hide hS2
        have HD2 := hide hD2
        have G1 := hide g1
        have Hm := hide hm
        have Hm1 := hide hm1
        have Hy := hide hy
        have Hu := hide hu
        have HcD := hide hcD2
        have hneW : gp + 1 ≠ wr.heap.size := by omega
        have hwrz : gp + 2 < wr.heap.size := by omega
        clear hcell hml hsymD hcS hcD hcD2 hle hL0 hy hu hm hm1 hba hS1 hD1 hS2 hD2 HS HD HF HB g0 g1 hb0 hl3 hl258 hd1 hd3 hL hD zL zD HBa
        go_wp2_with fail
        rw [← hwa]
        refine (unhide HXL).mono ?_; rintro e wb ⟨rfl, hwb⟩
        replace hwb := hwb.symm
        subst hwb
        clear HXL hwa
        obtain ⟨w2, hw2⟩ : ∃ q, q = wa.setCell ⟨gp + 1, y, none⟩ (.int .i64 (m1 : Int)) := ⟨_, rfl⟩
        have g1 := unhide G1
        rw [← hw2] at HS2 HD2 HF2 HB2 HXD hwz2
        have k2 := (unhide HD2).cell u hu30
        have k3 := (unhide HD2).free u hu30
        obtain ⟨r, hr⟩ : ∃ r, r = cD t i u := ⟨_, rfl⟩
        rw [← hr] at k2
        have hr3 : r ≤ 100000 := by rw [hr]; have := hleD u; omega
        obtain ⟨r1, hr1⟩ : ∃ r1, r1 = r + 1 := ⟨_, rfl⟩
        have zr : (r : Int) + 1 = (r1 : Int) := by omega
        have HD3 : Hid (Nr (w2.setCell ⟨gp + 2, u, none⟩ (.int .i64 (r1 : Int))) (gp + 2) 30 (cD t (i + 1))) := ((unhide HD2).set u r1 hu30).congr (fun j _ => by
          rw [unhide HcD, ← unhide Hu]
          by_cases e : j = u
          · rw [if_pos e, if_pos e, e, ← hr]; exact hr1
          · rw [if_neg e, if_neg e, Nat.add_zero])
        have HS3 : Hid (Nr (w2.setCell ⟨gp + 2, u, none⟩ (.int .i64 (r1 : Int))) (gp + 1) 286 (cS t (i + 1))) := (unhide HS2).keep (Below.heap_setCell _ _ _ _ (fun q => by simp only at q; omega)) (by simp [World.setCell])
        have HF3 : Hid ((w2.setCell ⟨gp + 2, u, none⟩ (.int .i64 (r1 : Int))).heap[gp]? = some (.cells #[.slice none 0 0, .slice none 0 0, .slice none 0 0, .slice none 0 0] 104)) := by
          show _ = _
          rw [Below.heap_setCell _ _ _ _ (fun q => by simp only at q; omega)]
          exact unhide HF2
        have HB3 := hide ((unhide HB2).setCell (p := ⟨gp + 2, u, none⟩) (by show gp ≤ gp + 2; omega) (.int .i64 (r1 : Int)))
        have hwz3 : gp + 3 ≤ (w2.setCell ⟨gp + 2, u, none⟩ (.int .i64 (r1 : Int))).heap.size := by simpa [World.setCell] using hwz2
        have Hr := hide hr
        have Hr1 := hide hr1
        clear hr hr1 hleD G1 HS2 HD2 HF2 HB2
        go_wp2_with fail
        rw [← hw2]
        refine (unhide HXD).mono ?_; rintro e wc ⟨rfl, hwc⟩
        replace hwc := hwc.symm
        subst hwc
        clear HXD hw2 k0 k1
        go_wp2
        go_roundw
        case rel => exact ⟨i + 1, by omega, by go_num, HS3, HD3, HF3, HB3, hwz3⟩
        case measure => simp [intOf]; omega
    · obtain rfl : i = n := by omega
      have d1 : decide ((i : Int) < (i : Int)) = false := by simp
      have k0 := (unhide HS).cell 256 (by omega)
      have k1 := (unhide HS).free 256 (by omega)
      obtain ⟨m, hm⟩ : ∃ m, m = cS t i 256 := ⟨_, rfl⟩
      rw [← hm] at k0
      have hm3 : m ≤ 100000 := by rw [hm]; have := cS_le t i 256; omega
      obtain ⟨m1, hm1⟩ : ∃ m1, m1 = m + 1 := ⟨_, rfl⟩
      have zm : (m : Int) + 1 = (m1 : Int) := by omega
      obtain ⟨w2, hw2⟩ : ∃ q, q = wr.setCell ⟨gp + 1, 256, none⟩ (.int .i64 (m1 : Int)) := ⟨_, rfl⟩
      have hS2 : Nr w2 (gp + 1) 286 (cE t i) := by
        rw [hw2]
        exact ((unhide HS).set 256 m1 (by omega)).congr (fun j _ => by
          show _ = cS t i j + _
          by_cases e : j = 256
          · rw [if_pos e, if_pos e, e, ← hm]; exact hm1
          · rw [if_neg e, if_neg e, Nat.add_zero])
      have hD2 : Nr w2 (gp + 2) 30 (cD t i) := by
        rw [hw2]
        exact (unhide HD).keep (Below.heap_setCell _ _ _ _ (fun q => by simp only at q; omega)) (by simp [World.setCell])
      have hF2 : w2.heap[gp]? = some (.cells #[.slice none 0 0, .slice none 0 0, .slice none 0 0, .slice none 0 0] 104) := by
        rw [hw2, Below.heap_setCell _ _ _ _ (fun q => by simp only at q; omega)]
        exact unhide HF
      have hB2 : Below gp w w2 := by
        rw [hw2]
        exact (unhide HB).setCell (p := ⟨gp + 1, 256, none⟩) (by show gp ≤ gp + 1; omega) _
      have hwz2 : gp + 3 ≤ w2.heap.size := by rw [hw2]; simpa [World.setCell] using hwz
      have HXS : Hid (∀ w', Below w2.heap.size w2 w' → Calls Tryz.prog 118 #[.slice (some ⟨gp + 1, 0, none⟩) 286 286, .int .i64 15] w' fun e w'' => ∃ v l, e = .returned v ∧ Cv w'' w'.heap.size v l 286 ∧ Bst (cE t i) l 286 15 ∧ Below w'.heap.size w' w'') := fun w' hb => by
        have hS3 := hS2.keep (hb.block (gp + 1) (by omega)) hb.size
        have hle : ∀ j, j < 286 → cE t i j ≤ 1048576 := fun j _ => by
          have := cS_le t i j
          show cS t i j + _ ≤ _
          split <;> omega
        exact dbest_any (some ⟨gp + 1, 0, none⟩) 286 286 15 (cE t i) v1 v2 w' (hS3.ints (by omega) hle) (by omega) (by omega) (by omega) (by omega) hle (by decide)
          ((hb.cell (p := ⟨0, 0, none⟩) (show _ < _ by simp only; omega)).trans ((hB2.cell (p := ⟨0, 0, none⟩) l1).trans (unhide H1))) ((hb.cell (p := ⟨2, 0, none⟩) (show _ < _ by simp only; omega)).trans ((hB2.cell (p := ⟨2, 0, none⟩) l2).trans (unhide H2)))
      have HXD : Hid (∀ w', Below w2.heap.size w2 w' → Calls Tryz.prog 118 #[.slice (some ⟨gp + 2, 0, none⟩) 30 30, .int .i64 15] w' fun e w'' => ∃ v l, e = .returned v ∧ Cv w'' w'.heap.size v l 30 ∧ Bst (cD t i) l 30 15 ∧ Below w'.heap.size w' w'') := fun w' hb => by
        have hD3 := hD2.keep (hb.block (gp + 2) (by omega)) hb.size
        have hle : ∀ j, j < 30 → cD t i j ≤ 1048576 := fun j _ => by
          have := cD_le t i j
          omega
        exact dbest_any (some ⟨gp + 2, 0, none⟩) 30 30 15 (cD t i) v1 v2 w' (hD3.ints (by omega) hle) (by omega) (by omega) (by omega) (by omega) hle (by decide)
          ((hb.cell (p := ⟨0, 0, none⟩) (show _ < _ by simp only; omega)).trans ((hB2.cell (p := ⟨0, 0, none⟩) l1).trans (unhide H1))) ((hb.cell (p := ⟨2, 0, none⟩) (show _ < _ by simp only; omega)).trans ((hB2.cell (p := ⟨2, 0, none⟩) l2).trans (unhide H2)))
      have HFin : Hid (∀ (w' : World) (b1 b2 b3 b4 : Nat) (la lb : Nat → Nat), Below w2.heap.size w2 w' → Cv w' w2.heap.size (.agg #[.slice (some ⟨b1, 0, none⟩) 286 286, .slice (some ⟨b2, 0, none⟩) 286 286]) la 286 → Cv w' w2.heap.size (.agg #[.slice (some ⟨b3, 0, none⟩) 30 30, .slice (some ⟨b4, 0, none⟩) 30 30]) lb 30 → Bst (cE t i) la 286 15 → Bst (cD t i) lb 30 15 →
          ∃ x1 y1 x2 y2 l1 l2, (Ending.returned (.agg #[.slice (some ⟨b1, 0, none⟩) 286 286, .slice (some ⟨b2, 0, none⟩) 286 286, .slice (some ⟨b3, 0, none⟩) 30 30, .slice (some ⟨b4, 0, none⟩) 30 30]) : Ending) = .returned (.agg #[x1, y1, x2, y2]) ∧ Cv ((((w'.setCell ⟨gp, 0, none⟩ (.slice (some ⟨b1, 0, none⟩) 286 286)).setCell ⟨gp, 1, none⟩ (.slice (some ⟨b2, 0, none⟩) 286 286)).setCell ⟨gp, 2, none⟩ (.slice (some ⟨b3, 0, none⟩) 30 30)).setCell ⟨gp, 3, none⟩ (.slice (some ⟨b4, 0, none⟩) 30 30)) gp (.agg #[x1, y1]) l1 286 ∧ Cv ((((w'.setCell ⟨gp, 0, none⟩ (.slice (some ⟨b1, 0, none⟩) 286 286)).setCell ⟨gp, 1, none⟩ (.slice (some ⟨b2, 0, none⟩) 286 286)).setCell ⟨gp, 2, none⟩ (.slice (some ⟨b3, 0, none⟩) 30 30)).setCell ⟨gp, 3, none⟩ (.slice (some ⟨b4, 0, none⟩) 30 30)) gp (.agg #[x2, y2]) l2 30 ∧ Bst (cE t i) l1 286 15 ∧ Bst (cD t i) l2 30 15 ∧ Below gp w ((((w'.setCell ⟨gp, 0, none⟩ (.slice (some ⟨b1, 0, none⟩) 286 286)).setCell ⟨gp, 1, none⟩ (.slice (some ⟨b2, 0, none⟩) 286 286)).setCell ⟨gp, 2, none⟩ (.slice (some ⟨b3, 0, none⟩) 30 30)).setCell ⟨gp, 3, none⟩ (.slice (some ⟨b4, 0, none⟩) 30 30))) := by
        intro w' b1 b2 b3 b4 la lb hb hca hcb hba hbb
        have hset : ∀ (q : Addr) (A B C D : Value), gp < q.block → ((((w'.setCell ⟨gp, 0, none⟩ A).setCell ⟨gp, 1, none⟩ B).setCell ⟨gp, 2, none⟩ C).setCell ⟨gp, 3, none⟩ D).cell? q = w'.cell? q := fun q A B C D hq => by
          rw [World.cell?_setCell_other _ _ _ _ (fun e => by rw [← e] at hq; simp only at hq; omega), World.cell?_setCell_other _ _ _ _ (fun e => by rw [← e] at hq; simp only at hq; omega), World.cell?_setCell_other _ _ _ _ (fun e => by rw [← e] at hq; simp only at hq; omega), World.cell?_setCell_other _ _ _ _ (fun e => by rw [← e] at hq; simp only at hq; omega)]
        obtain ⟨p1, p2, ep, e1, e2, e3, e4⟩ := hca.is
        obtain ⟨p3, p4, eq, e5, e6, e7, e8⟩ := hcb.is
        refine ⟨_, _, _, _, la, lb, rfl, ⟨⟨p1, p2, ep, by omega, by omega, fun j hj => by rw [hset _ _ _ _ _ (show gp < p1 by omega)]; exact e3 j hj, fun j hj => by rw [hset _ _ _ _ _ (show gp < p2 by omega)]; exact e4 j hj⟩⟩, ⟨⟨p3, p4, eq, by omega, by omega, fun j hj => by rw [hset _ _ _ _ _ (show gp < p3 by omega)]; exact e7 j hj, fun j hj => by rw [hset _ _ _ _ _ (show gp < p4 by omega)]; exact e8 j hj⟩⟩, hba, hbb, ?_⟩
        exact ((((hB2.trans (hb.mono (by omega))).setCell (p := ⟨gp, 0, none⟩) (Nat.le_refl _) _).setCell (p := ⟨gp, 1, none⟩) (Nat.le_refl _) _).setCell (p := ⟨gp, 2, none⟩) (Nat.le_refl _) _).setCell (p := ⟨gp, 3, none⟩) (Nat.le_refl _) _
      have HG : Hid (∀ w', Below w2.heap.size w2 w' → (w'.cell? ⟨gp, 0, none⟩ = some (.slice none 0 0) ∧ w'.cell? ⟨gp, 1, none⟩ = some (.slice none 0 0) ∧ w'.cell? ⟨gp, 2, none⟩ = some (.slice none 0 0) ∧ w'.cell? ⟨gp, 3, none⟩ = some (.slice none 0 0)) ∧ w'.frozen? ⟨gp, 0, none⟩ = false ∧ w'.frozen? ⟨gp, 1, none⟩ = false ∧ w'.frozen? ⟨gp, 2, none⟩ = false ∧ w'.frozen? ⟨gp, 3, none⟩ = false) := fun w' hb => by
        have e := (hb.block gp (by omega)).trans hF2
        simp only [World.cell?, World.frozen?, e]
        exact ⟨⟨rfl, rfl, rfl, rfl⟩, by simp, by simp, by simp, by simp⟩
      have Hm := hide hm
      have Hm1 := hide hm1
      have Hw2 := hide hw2
      have hbd : Below w2.heap.size w2 w2.drew := (Below.refl _ _).drew
      have HBD := hide hbd
      clear hm hm1 hS2 hD2 hF2 hB2 HS HD HF HB hbd
      go_wp2_with fail
      rw [← hw2]
      clear hw2 k0 k1
      have entB : ∀ args w, (callFunc 118 args).run Tryz.prog w = .ok (.enter 118 args) w := enters_of Tryz.func118 (by kernel_rfl) rfl
      refine wp_region_held_drew (S := fun _ => True) (by kernel_rfl) trivial (fun hHeld => ?_)
      refine wpAnyH_take (i := 0) (v := .slice (some ⟨gp + 1, 0, none⟩) 286 286) rfl (by kernel_rfl) (by kernel_rfl) (by kernel_rfl) (fun _ _ _ h => h) (Or.inl ⟨by rfl, ?_⟩) hHeld ?_
      · intro w' hSw
        go_simp
      simp only [Act.put, List.setIfInBounds_toArray]
      refine wpAnyH_take (i := 2) (v := .slice (some ⟨gp + 2, 0, none⟩) 30 30) rfl (by kernel_rfl) (by kernel_rfl) (by kernel_rfl) (fun _ _ _ h => h) (Or.inl ⟨by rfl, ?_⟩) hHeld ?_
      · intro w' hSw
        go_simp
      simp only [Act.put]
      refine wpAnyH_ready (rs := [1]) (by kernel_rfl) (by simp) ?_
      refine AllReadyH.cons rfl (fun K hK => ?_) AllReadyH.nil
      · refine step_calls rfl 118 [.tmp 41, .const (.int .i64 15)] #[38, 3] rfl [.slice (some ⟨gp + 1, 0, none⟩) 286 286, .int .i64 15] (by simp [Act.eval]) entB ?_
        refine (unhide HXS w2.drew (unhide HBD)).mono ?_
        rintro e wS ⟨vS, lS, rfl, hcS, hbS, hbeS⟩
        obtain ⟨b1, b2, rfl, hq1, hq2, hq3, hq4⟩ := hcS.is
        have HCS := hide hcS
        have HBS := hide hbS
        have HbS := hide ((unhide HBD).trans (hbeS.mono (unhide HBD).size))
        clear hcS hbS hbeS hq1 hq2 hq3 hq4
        refine .inl ⟨_, rfl, ?_⟩
        refine hK.out _ _ trivial (fun hHeld => ?_)
        clear hK K
        simp only [Act.put]
        refine wpAnyH_ready (rs := [3]) (by kernel_rfl) (by simp) ?_
        refine AllReadyH.cons rfl (fun K hK => ?_) AllReadyH.nil
        refine step_calls rfl 118 [.tmp 43, .const (.int .i64 15)] #[38, 3] rfl [.slice (some ⟨gp + 2, 0, none⟩) 30 30, .int .i64 15] (by simp [Act.eval]) entB ?_
        refine (unhide HXD wS (unhide HbS)).mono ?_
        rintro e wE ⟨vD, lD, rfl, hcD, hbD, hbeD⟩
        obtain ⟨b3, b4, rfl, hq1, hq2, hq3, hq4⟩ := hcD.is
        obtain ⟨⟨e0, e1, e2, e3⟩, e4, e5, e6, e7⟩ := unhide HG wE ((unhide HbS).trans (hbeD.mono (unhide HbS).size))
        have HE := hide (unhide HFin wE b1 b2 b3 b4 lS lD ((unhide HbS).trans (hbeD.mono (unhide HbS).size)) ((unhide HCS).below (by omega) hbeD) ⟨⟨b3, b4, rfl, Nat.le_trans (unhide HbS).size hq1, Nat.le_trans (unhide HbS).size hq2, hq3, hq4⟩⟩ (unhide HBS) hbD)
        clear hcD hbD hbeD hq1 hq2 hq3 hq4
        refine .inl ⟨_, rfl, ?_⟩
        refine hK.out _ _ trivial (fun hHeld => ?_)
        clear hK K
        simp only [Act.put]
        refine wpAnyH_take (i := 4) (v := .agg #[.slice (some ⟨b1, 0, none⟩) 286 286, .slice (some ⟨b2, 0, none⟩) 286 286, .slice (some ⟨b3, 0, none⟩) 30 30, .slice (some ⟨b4, 0, none⟩) 30 30]) rfl (by kernel_rfl) (by kernel_rfl) (by kernel_rfl) (fun _ _ _ h => h) (Or.inl ⟨by rfl, ?_⟩) hHeld ?_
        · intro w' hSw
          go_simp
        simp only [Act.put]
        refine wpAnyH_ready (rs := [5]) (by kernel_rfl) (by simp) ?_
        refine AllReadyH.cons rfl (fun K hK => ?_) AllReadyH.nil
        go_simp
        refine hK.out _ _ trivial (fun hHeld => ?_)
        clear hK K
        refine wpAnyH_done (by kernel_rfl) ?_ _
        go_wp2
        refine bodyPost_ret (v := .agg #[.slice (some ⟨b1, 0, none⟩) 286 286, .slice (some ⟨b2, 0, none⟩) 286 286, .slice (some ⟨b3, 0, none⟩) 30 30, .slice (some ⟨b4, 0, none⟩) 30 30]) ?_ rfl (by first | exact unhide HE | (rw [← unhide Hgp]; exact unhide HE))
        rw [results_c (p := 2) (ty := 104) (by kernel_rfl)]
        go_simp
end Go.Proofs.YtfeljhikeddodadGreatDoor
