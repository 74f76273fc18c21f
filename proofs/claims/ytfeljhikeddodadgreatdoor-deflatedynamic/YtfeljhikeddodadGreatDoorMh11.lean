/- What a walk is told of a slice of tokens that came in; what tokens mean. Walks of the program's look at tokens. Walk of the program's measure of tokens. Walk of the program's tokens expanded. -/
import Derived.Test.YtfeljhikeddodadGreatDoorMh1
import Derived.ProofKit
import Derived.OpenShut
import Derived.ChangeArms
import Derived.Deep.Slices
import Derived.Deep.Strs
import Derived.Lib.SmallJoins
import Derived.WalkLawsBesides
import Derived.WalkSpells
import Derived.Handy
import Derived.Below
import Derived.Deep.LoopGhost
import Derived.BigRegion
import Derived.Test.YtfeljhikeddodadGreatDoorMh4
import Derived.OwnWalk
namespace Go.Proofs.YtfeljhikeddodadGreatDoor
open Go.ChangeShapes Go.WideShapes Go.RowKit Go.Deep

/-- Tokens: bytes, lengths, how far behind. -/
structure Tks where
  b : Nat → Nat
  l : Nat → Int
  d : Nat → Int
/-- It is empty; or it leads to a row of tokens. -/
def IsTokens (w : World) (a : Option Addr) (len : Nat) (t : Tks) : Prop :=
  len = 0 ∨ ∃ b off, a = some ⟨b, off, none⟩ ∧ len ≤ maxLen ∧ ∀ i, i < len →
    w.cell? ⟨b, off + i * 3, none⟩ = some (.int .u8 (t.b i : Nat)) ∧ w.cell? ⟨b, off + i * 3 + 1, none⟩ = some (.int .i64 (t.l i)) ∧
    w.cell? ⟨b, off + i * 3 + 2, none⟩ = some (.int .i64 (t.d i)) ∧
    t.b i < 256 ∧ (-9223372036854775808 ≤ t.l i ∧ t.l i ≤ 9223372036854775807) ∧ (-9223372036854775808 ≤ t.d i ∧ t.d i ≤ 9223372036854775807)
theorem IsTokens.below {w w' : World} {a : Option Addr} {len : Nat} {t : Tks} (h : IsTokens w a len t) (hb : Below w.heap.size w w') : IsTokens w' a len t := by
  rcases h with h | ⟨b, off, ha, hl, h⟩
  · exact .inl h
  · refine .inr ⟨b, off, ha, hl, fun i hi => ?_⟩
    obtain ⟨h0, h1, h2, h3⟩ := h i hi
    have hlt : b < w.heap.size := World.block_lt_of_cell? _ _ h0
    exact ⟨(hb.cell (p := ⟨b, off + i * 3, none⟩) hlt).trans h0, (hb.cell (p := ⟨b, off + i * 3 + 1, none⟩) hlt).trans h1, (hb.cell (p := ⟨b, off + i * 3 + 2, none⟩) hlt).trans h2, h3⟩
theorem tokens_cells : Tryz.prog.cellsOf 51 = 3 := by kernel_rfl
theorem tok_cells_u8 : Tryz.prog.cellsOf 5 = 1 := by kernel_rfl
theorem tok_cells_int : Tryz.prog.cellsOf 3 = 1 := by kernel_rfl
theorem three_of {α : Type} (l : List α) (h : l.length = 3) : ∃ a b c, l = [a, b, c] :=
  match l, h with
  | [a, b, c], _ => ⟨a, b, c, rfl⟩
theorem open_tokens {H : Type} {enc : TypeId × Value → H} {w : World} {base : Nat} {spare : Nat → Bool} {held : Bool} {fuel : Nat} {a : Option Addr} {len cap : Nat} {x : DataW H × List MemPlace}
    (h : DataW.trod enc Tryz.prog w base spare held fuel 22 [.slice a len cap] = some x) :
    ∃ t : Tks, IsTokens w a len t := by
  rcases open_slice Tryz.underlying22 h with ⟨hcs, _⟩ | ⟨x, l, c, m, n, D, Pl, hcs, _, hl, hm, hmm, _, hx⟩
  · simp at hcs
    exact ⟨⟨fun _ => 0, fun _ => 0, fun _ => 0⟩, .inl hcs.2.1⟩
  simp at hcs
  obtain ⟨rfl, rfl, rfl⟩ := hcs
  have hlm : len ≤ m := by rw [hmm]; split <;> omega
  by_cases h0 : len = 0
  · exact ⟨⟨fun _ => 0, fun _ => 0, fun _ => 0⟩, .inl h0⟩
  have each : ∀ i, i < len → ∃ q : Nat × Int × Int, w.cell? (x.add (3 * i)) = some (.int .u8 (q.1 : Nat)) ∧ w.cell? (x.add (3 * i + 1)) = some (.int .i64 q.2.1) ∧
      w.cell? (x.add (3 * i + 2)) = some (.int .i64 q.2.2) ∧ q.1 < 256 ∧ (-9223372036854775808 ≤ q.2.1 ∧ q.2.1 ≤ 9223372036854775807) ∧ (-9223372036854775808 ≤ q.2.2 ∧ q.2.2 ≤ 9223372036854775807) := by
    intro i hi
    obtain ⟨cs', h1, h2⟩ := hx i (by omega)
    rw [tokens_cells] at h1
    obtain ⟨_, hlen, hcell⟩ := World.cells?_some h1
    obtain ⟨y0, y1, y2, k, _, _, g0, g1, g2⟩ := trod_struct3 Tryz.underlying51 h2
    obtain ⟨v0, v1, v2, rfl⟩ := three_of cs' hlen
    · simp [tok_cells_u8, tok_cells_int] at g0 g1 g2
      obtain ⟨n0, e0, _, wf0⟩ := DataW.trod_int Tryz.underlying5 g0
      obtain ⟨n1, e1, _, wf1⟩ := DataW.trod_int Tryz.underlying3 g1
      obtain ⟨n2, e2, _, wf2⟩ := DataW.trod_int Tryz.underlying3 g2
      simp at e0 e1 e2
      subst e0 e1 e2
      have k0 := hcell 0 (by omega)
      have k1 := hcell 1 (by omega)
      have k2 := hcell 2 (by omega)
      rw [add_add, Nat.mul_comm] at k0 k1 k2
      have u0 := bounds_u8 wf0
      have u1 := bounds_i64 wf1
      have u2 := bounds_i64 wf2
      obtain ⟨m0, rfl⟩ := Int.eq_ofNat_of_zero_le u0.1
      exact ⟨(m0, n1, n2), by simpa using k0, by simpa using k1, by simpa using k2, by show m0 < 256; omega, by show _ ∧ _; omega, by show _ ∧ _; omega⟩
  obtain ⟨q, hq⟩ := choose_lt each
  obtain ⟨b, off, spot⟩ := x
  have hspot : spot = none := by
    have := (hq 0 (by omega)).1
    simpa [Addr.add] using World.cell?_spot this
  subst hspot
  refine ⟨⟨fun i => (q i).1, fun i => (q i).2.1, fun i => (q i).2.2⟩, .inr ⟨b, off, rfl, by omega, fun i hi => ?_⟩⟩
  have hadd : ∀ j, (⟨b, off, none⟩ : Addr).add j = ⟨b, off + j, none⟩ := fun j => by unfold Addr.add; split <;> simp_all
  have := hq i hi
  simpa [hadd, Nat.add_assoc, Nat.mul_comm] using this
/-- So many bytes more, each as one that stands so far back. -/
def cpy (out : List UInt8) (back : Nat) : Nat → List UInt8
  | 0 => out
  | n + 1 => cpy out back n ++ [(cpy out back n).getD ((cpy out back n).length - back) 0]
theorem cpy_length (out : List UInt8) (back n : Nat) : (cpy out back n).length = out.length + n := by
  induction n with
  | zero => rfl
  | succ n ih => unfold cpy; rw [List.length_append, ih]; simp; omega
/-- What the first of them mean. -/
def Tks.out (t : Tks) : Nat → List UInt8
  | 0 => []
  | i + 1 => if t.l i = 0 then t.out i ++ [UInt8.ofNat (t.b i)] else cpy (t.out i) (t.d i).toNat (t.l i).toNat
/-- A byte, or a match. -/
def Tks.shaped (t : Tks) (i : Nat) : Prop :=
  if t.l i = 0 then t.d i = 0 else t.b i = 0 ∧ (3 ≤ t.l i ∧ t.l i ≤ 258) ∧ 1 ≤ t.d i ∧ t.d i ≤ 32768
/-- It is one, and does not reach back ahead of the beginning. -/
def Tks.good (t : Tks) (i : Nat) : Prop := t.shaped i ∧ t.d i ≤ (t.out i).length
/-- Bytes of matches, at most. -/
def Tks.wide (t : Tks) : Nat → Int
  | 0 => 0
  | i + 1 => t.wide i + if 0 < t.l i ∧ t.l i ≤ 258 then t.l i else 0
theorem Tks.wide_le (t : Tks) (i : Nat) : 0 ≤ t.wide i ∧ t.wide i ≤ 258 * i := by
  induction i with
  | zero => exact ⟨Int.le_refl _, Int.le_refl _⟩
  | succ i ih => unfold wide; split <;> omega
theorem Tks.wide_mono (t : Tks) {i j : Nat} (h : i ≤ j) : t.wide i ≤ t.wide j := by
  induction j with
  | zero => have : i = 0 := by omega
            subst this; exact Int.le_refl _
  | succ j ih =>
    by_cases e : i = j + 1
    · subst e; exact Int.le_refl _
    · have := ih (by omega)
      have h2 : t.wide (j + 1) = t.wide j + if 0 < t.l j ∧ t.l j ≤ 258 then t.l j else 0 := rfl
      rw [h2]; split <;> omega
theorem Tks.out_next (t : Tks) {i : Nat} (h : t.shaped i) : ((t.out (i + 1)).length : Int) = (t.out i).length + (if t.l i = 0 then 1 else t.l i) := by
  show (((if t.l i = 0 then t.out i ++ [UInt8.ofNat (t.b i)] else cpy (t.out i) (t.d i).toNat (t.l i).toNat) : List UInt8).length : Int) = _
  unfold shaped at h
  split at h
  · rename_i e; rw [if_pos e, if_pos e]; simp
  · rename_i e; rw [if_neg e, if_neg e, cpy_length]; omega
theorem Tks.out_le (t : Tks) {i : Nat} (h : ∀ j, j < i → t.shaped j) : ((t.out i).length : Int) ≤ i + t.wide i := by
  induction i with
  | zero => show ((0 : Nat) : Int) ≤ _; simp [wide]
  | succ i ih =>
    have h1 := ih (fun j hj => h j (by omega))
    have h2 := h i (by omega)
    rw [t.out_next h2]
    have h3 : t.wide (i + 1) = t.wide i + if 0 < t.l i ∧ t.l i ≤ 258 then t.l i else 0 := rfl
    rw [h3]
    unfold shaped at h2
    split at h2
    · rename_i e; rw [if_pos e]; split <;> omega
    · rename_i e; rw [if_neg e, if_pos (by omega)]; omega
end Go.Proofs.YtfeljhikeddodadGreatDoor
namespace Go.Proofs.YtfeljhikeddodadGreatDoor
open Go.RowKit

/-- A byte, or a match. -/
def Shp (b : Nat) (l d : Int) : Prop := if l = 0 then d = 0 else b = 0 ∧ (3 ≤ l ∧ l ≤ 258) ∧ 1 ≤ d ∧ d ≤ 32768
instance (b : Nat) (l d : Int) : Decidable (Shp b l d) := by unfold Shp; infer_instance
theorem ret_bool {a b : Bool} (h : a = b) : Ending.returned (.bool a) = .returned (.bool b) := by rw [h]
set_option maxHeartbeats 2000000 in
theorem shaped_any (b : Nat) (l d : Int) (w : World) :
    Calls Tryz.prog 136 #[.agg #[.int .u8 (b : Int), .int .i64 l, .int .i64 d]] w fun e w' => e = .returned (.bool (decide (Shp b l d))) ∧ Below w.heap.size w w' := by
  have hb : Below w.heap.size w (w.alloc (.cells #[.int .u8 (b : Int), .int .i64 l, .int .i64 d] 51)) := (Below.refl _ _).alloc (Nat.le_refl _) _
  have HB := hide hb
  clear hb
  by_cases h0 : l = 0
  · subst h0
    by_cases h1 : d = 0
    · subst h1
      have HX : Hid (decide (Shp b 0 0) = true) := by show _ = _; simp [Shp]
      go_enter Tryz.func136, Tryz.ntmps136
      go_wp2
      go_ret
      exact ⟨ret_bool (unhide HX).symm, unhide HB⟩
    · have g1 : (d == 0) = false := by simpa using h1
      have HX : Hid (decide (Shp b 0 d) = false) := by show _ = _; simp [Shp, h1]
      go_enter Tryz.func136, Tryz.ntmps136
      go_wp2
      go_ret
      exact ⟨ret_bool (unhide HX).symm, unhide HB⟩
  · have g0 : (l == 0) = false := by simpa using h0
    by_cases hb0 : b = 0
    · subst hb0
      by_cases h1 : 3 ≤ l
      · have e1 : decide (3 ≤ l) = true := by simpa using h1
        have e1' : decide (l ≥ 3) = true := e1
        by_cases h2 : l ≤ 258
        · have e2 : decide (l ≤ 258) = true := by simpa using h2
          by_cases h3 : 1 ≤ d
          · have e3 : decide (1 ≤ d) = true := by simpa using h3
            have e3' : decide (d ≥ 1) = true := e3
            by_cases h4 : d ≤ 32768
            · have e4 : decide (d ≤ 32768) = true := by simpa using h4
              have HX : Hid (decide (Shp 0 l d) = true) := by show _ = _; simp [Shp, h0]; omega
              clear h0 h1 h2 h3 h4
              go_enter Tryz.func136, Tryz.ntmps136
              go_wp2
              go_ret
              exact ⟨ret_bool (unhide HX).symm, unhide HB⟩
            · have e4 : decide (d ≤ 32768) = false := by simpa using h4
              have HX : Hid (decide (Shp 0 l d) = false) := by show _ = _; simp [Shp, h0]; omega
              clear h0 h1 h2 h3 h4
              go_enter Tryz.func136, Tryz.ntmps136
              go_wp2
              go_ret
              exact ⟨ret_bool (unhide HX).symm, unhide HB⟩
          · have e3 : decide (1 ≤ d) = false := by simpa using h3
            have e3' : decide (d ≥ 1) = false := e3
            have HX : Hid (decide (Shp 0 l d) = false) := by show _ = _; simp [Shp, h0]; omega
            clear h0 h1 h2 h3
            go_enter Tryz.func136, Tryz.ntmps136
            go_wp2
            go_ret
            exact ⟨ret_bool (unhide HX).symm, unhide HB⟩
        · have e2 : decide (l ≤ 258) = false := by simpa using h2
          have HX : Hid (decide (Shp 0 l d) = false) := by show _ = _; simp [Shp, h0]; omega
          clear h0 h1 h2
          go_enter Tryz.func136, Tryz.ntmps136
          go_wp2
          go_ret
          exact ⟨ret_bool (unhide HX).symm, unhide HB⟩
      · have e1 : decide (3 ≤ l) = false := by simpa using h1
        have e1' : decide (l ≥ 3) = false := e1
        have HX : Hid (decide (Shp 0 l d) = false) := by show _ = _; simp [Shp, h0]; omega
        clear h0 h1
        go_enter Tryz.func136, Tryz.ntmps136
        go_wp2
        go_ret
        exact ⟨ret_bool (unhide HX).symm, unhide HB⟩
    · have g1 : ((b : Int) == 0) = false := by simp; omega
      have HX : Hid (decide (Shp b l d) = false) := by show _ = _; simp [Shp, h0, hb0]
      clear h0 hb0
      go_enter Tryz.func136, Tryz.ntmps136
      go_wp2
      go_ret
      exact ⟨ret_bool (unhide HX).symm, unhide HB⟩
theorem bytesOf_any (b : Nat) (l d : Int) (w : World) (n : Int) (hn : n = if l = 0 then 1 else l) (hl : 0 ≤ l) :
    Calls Tryz.prog 90 #[.agg #[.int .u8 (b : Int), .int .i64 l, .int .i64 d]] w fun e w' => e = .returned (.int .i64 n) ∧ Below w.heap.size w w' := by
  have hb : Below w.heap.size w (w.alloc (.cells #[.int .u8 (b : Int), .int .i64 l, .int .i64 d] 51)) := (Below.refl _ _).alloc (Nat.le_refl _) _
  have HB := hide hb
  clear hb
  by_cases h0 : l = 0
  · subst h0
    rw [if_pos rfl] at hn
    subst hn
    go_enter Tryz.func90, Tryz.ntmps90
    go_wp2
    go_ret
    exact ⟨rfl, unhide HB⟩
  · rw [if_neg h0] at hn
    subst hn
    have hn1 : 1 ≤ n := by omega
    clear h0
    go_enter Tryz.func90, Tryz.ntmps90
    go_wp2
    all_goals (
      go_ret
      exact ⟨ret_int (by omega), unhide HB⟩)
end Go.Proofs.YtfeljhikeddodadGreatDoor
namespace Go.Proofs.YtfeljhikeddodadGreatDoor
open Go.RowKit

/-- The first wrong token is told. -/
structure Wrong (w' : World) (n : Nat) (t : Tks) (eS : Value) (i q len : Nat) : Prop where
  lt : i < len
  ahead : ∀ j, j < i → t.good j
  bad : ¬ t.good i
  at_ : w'.cell? ⟨q, 0, none⟩ = some (.int .i64 (i : Int))
  err : w'.cell? ⟨q, 1, none⟩ = some eS
  new : n ≤ q
set_option maxHeartbeats 4000000 in
set_option maxRecDepth 100000 in
theorem measure_any (ao : Option Addr) (len cap : Nat) (t : Tks) (w : World) (uT : TypeId) (uV : Value) (hS : w.cell? ⟨2, 0, none⟩ = some (.iface uT uV)) (hP : IsTokens w ao len t) (hlen : len ≤ 100000)
    (hsm : ∀ i, i ≤ len → (∀ j, j < i → t.good j) → (t.out i).length ≤ 300000) :
    Calls Tryz.prog 94 #[.slice ao len cap] w fun e w' =>
      ((∀ j, j < len → t.good j) ∧ e = .returned (.tuple #[.int .i64 ((t.out len).length : Int), .nilIface]) ∧ Below w.heap.size w w') ∨
      (∃ i q, Wrong w' w.heap.size t (.iface uT uV) i q len ∧ e = .returned (.tuple #[.int .i64 0, .iface 106 (.pointer (some ⟨q, 0, none⟩))]) ∧ Below w.heap.size w w') := by
  have HP := hide hP
  have HSM := hide hsm
  have HS := hide hS
  clear hP hsm hS
  go_enter Tryz.func94, Tryz.ntmps94
  go_wp2
  go_loopw [2, 3, 4, 11] (fun sz _ ov i wr => ∃ k : Nat, k ≤ len ∧ sz = .int .i64 ((t.out k).length : Int) ∧ ov = .int .i64 (len : Int) ∧ i = .int .i64 (k : Int) ∧ Hid (∀ j, j < k → t.good j) ∧ Below w.heap.size w wr) (fun _ _ _ i _ => len - (intOf i).toNat)
  case atStart => exact ⟨0, by omega, rfl, rfl, rfl, fun j hj => by omega, Below.refl _ _⟩
  case round =>
    obtain ⟨k, hk, rfl, rfl, rfl, HG, hb⟩ := hrel
    by_cases hlt : k < len
    · have g1 : decide ((k : Int) < (len : Int)) = true := by simp; omega
      have hki : (k : Int) < (len : Int) := by omega
      have hP1 := (unhide HP).below hb
      rcases hP1 with h0 | ⟨bb, off, rfl, hm, hc⟩
      · omega
      obtain ⟨c0, c1, c2, hb8, ⟨hl1, hl2⟩, ⟨hd1, hd2⟩⟩ := hc k hlt
      have hol := unhide HSM k hk (unhide HG)
      have hok : t.good k ↔ Shp (t.b k) (t.l k) (t.d k) ∧ t.d k ≤ ((t.out k).length : Int) := Iff.rfl
      have hnx : Shp (t.b k) (t.l k) (t.d k) → ((t.out (k + 1)).length : Int) = ((t.out k).length : Int) + (if t.l k = 0 then 1 else t.l k) := fun h => t.out_next h
      have HNX : Hid (t.good k → ∀ j, j < k + 1 → t.good j) := fun h j hj => by
        rcases Nat.lt_or_ge j k with c | c
        · exact unhide HG j c
        · rw [show j = k by omega]; exact h
      have hol2 : t.good k → (t.out (k + 1)).length ≤ 300000 := fun h => unhide HSM (k + 1) (by omega) (unhide HNX h)
      obtain ⟨o1, ho1⟩ : ∃ q, q = (t.out (k + 1)).length := ⟨_, rfl⟩
      have HO1 := hide ho1
      rw [← ho1] at hnx hol2
      obtain ⟨o, ho⟩ : ∃ q, q = (t.out k).length := ⟨_, rfl⟩
      rw [← ho] at hok hnx hol ⊢
      have HOK := hide hok
      obtain ⟨gd, hgd⟩ : ∃ q, q = t.good k := ⟨_, rfl⟩
      have HGD := hide hgd
      rw [← hgd] at hok hol2
      generalize t.b k = b at *
      generalize t.l k = l at *
      generalize t.d k = d at *
      have hba : Below w.heap.size w (wr.alloc (.cells #[.int .u8 (b : Int), .int .i64 l, .int .i64 d] 51)) := hb.alloc hb.size _
      have ca0 : (wr.alloc (.cells #[.int .u8 (b : Int), .int .i64 l, .int .i64 d] 51)).cell? ⟨wr.heap.size, 0, none⟩ = some (.int .u8 (b : Int)) := by simp
      have ca1 : (wr.alloc (.cells #[.int .u8 (b : Int), .int .i64 l, .int .i64 d] 51)).cell? ⟨wr.heap.size, 1, none⟩ = some (.int .i64 l) := by simp
      have ca2 : (wr.alloc (.cells #[.int .u8 (b : Int), .int .i64 l, .int .i64 d] 51)).cell? ⟨wr.heap.size, 2, none⟩ = some (.int .i64 d) := by simp
      have HC : Hid (∀ j w', Below (wr.alloc (.cells #[.int .u8 (b : Int), .int .i64 l, .int .i64 d] 51)).heap.size (wr.alloc (.cells #[.int .u8 (b : Int), .int .i64 l, .int .i64 d] 51)) w' → w'.cell? ⟨wr.heap.size, j, none⟩ = (wr.alloc (.cells #[.int .u8 (b : Int), .int .i64 l, .int .i64 d] 51)).cell? ⟨wr.heap.size, j, none⟩) := fun j w' h => h.cell (by simp)
      clear hc hok hgd ho ho1
      go_wp2_with fail
      refine (shaped_any b l d _).mono ?_
      generalize wr.alloc (.cells #[.int .u8 (b : Int), .int .i64 l, .int .i64 d] 51) = wa at *
      generalize wr.heap.size = p at *
      rintro e w2 ⟨rfl, hb2⟩
      have cb0 := (unhide HC 0 w2 hb2).trans ca0
      have cb1 := (unhide HC 1 w2 hb2).trans ca1
      have cb2 := (unhide HC 2 w2 hb2).trans ca2
      have hbw2 : Below w.heap.size w w2 := hba.trans (hb2.mono hba.size)
      clear ca0 ca1 ca2
      by_cases hshp : Shp b l d
      · have hsd : decide (Shp b l d) = true := by simpa using hshp
        rw [hsd]
        by_cases hbk : d ≤ (o : Int)
        · have e1 : decide ((o : Int) < d) = false := by simp; omega
          have e2 : decide (d > (o : Int)) = false := e1
          have hgk : t.good k := (unhide HOK).2 ⟨hshp, hbk⟩
          have HGK := hide hgk
          have hn := hnx hshp
          have hl0 : 0 ≤ l := by unfold Shp at hshp; split at hshp <;> omega
          obtain ⟨n, hnn⟩ : ∃ n : Int, n = if l = 0 then 1 else l := ⟨_, rfl⟩
          rw [← hnn] at hn
          have ho3 : o1 ≤ 300000 := hol2 (by rw [unhide HGD]; exact hgk)
          have HN := hide hnn
          have d3 : decide ((o1 : Int) > 300000) = false := by simp; omega
          have d4 : decide ((300000 : Int) < (o1 : Int)) = false := d3
          have zn : (o : Int) + n = (o1 : Int) := hn.symm
          have HBY := hide (bytesOf_any b l d w2 n hnn hl0)
          have Hst : Hid (∀ w3, Below w2.heap.size w2 w3 → Below w.heap.size w w3) := fun w3 h => hbw2.trans (h.mono hbw2.size)
          clear hgk hshp hbk hnx hn hnn hol2 hsd
          go_wp2_with fail
          refine (unhide HBY).mono ?_
          rintro e w3 ⟨rfl, hb3⟩
          go_wp2
          go_roundw
          case rel => exact ⟨k + 1, by omega, by rw [← unhide HO1], rfl, by go_num, unhide HNX (unhide HGK), unhide Hst w3 hb3⟩
          case measure => simp [intOf]; omega
        · have e1 : decide ((o : Int) < d) = true := by simp; omega
          have e2 : decide (d > (o : Int)) = true := e1
          have HGK : Hid (¬ t.good k) := fun h => hbk ((unhide HOK).1 h).2
          have cS := (hbw2.cell (p := ⟨2, 0, none⟩) (World.block_lt_of_cell? _ _ (unhide HS))).trans (unhide HS)
          have HB2 := hide hbw2
          clear hshp hbk hnx hol2 hsd hbw2
          go_wp2
          go_region
          all_goals (
            go_wp2
            go_ret2
            exact .inr ⟨k, _, ⟨hlt, unhide HG, unhide HGK, by simp, by simp, by have := (unhide HB2).size; simp; omega⟩, rfl, ((unhide HB2).drew.alloc (by have := (unhide HB2).size; simp; omega) _)⟩)
      · have hsd : decide (Shp b l d) = false := by simpa using hshp
        rw [hsd]
        have HGK : Hid (¬ t.good k) := fun h => hshp ((unhide HOK).1 h).1
        have cS := (hbw2.cell (p := ⟨2, 0, none⟩) (World.block_lt_of_cell? _ _ (unhide HS))).trans (unhide HS)
        have HB2 := hide hbw2
        clear hshp hnx hol2 hsd hbw2
        go_wp2
        go_region
        all_goals (
          go_wp2
          go_ret2
          exact .inr ⟨k, _, ⟨hlt, unhide HG, unhide HGK, by simp, by simp, by have := (unhide HB2).size; simp; omega⟩, rfl, ((unhide HB2).drew.alloc (by have := (unhide HB2).size; simp; omega) _)⟩)
    · have : k = len := by omega
      subst this
      have g1 : decide ((k : Int) < (k : Int)) = false := by simp
      go_wp2
      go_ret2
      exact .inl ⟨unhide HG, rfl, hb⟩
end Go.Proofs.YtfeljhikeddodadGreatDoor
namespace Go.Proofs.YtfeljhikeddodadGreatDoor
open Go.RowKit

/-- A row of bytes of a call's own, in memory that is new since w. -/
structure Grow (w wr : World) (v : Value) (l : List UInt8) : Prop where
  own : wr.ownsRow w.heap.size 5 1 v l.length (byteVals l)
  below : Below w.heap.size w wr
theorem Grow.alloc {w wr : World} {v : Value} {l : List UInt8} (h : Grow w wr v l) (o : Obj) : Grow w (wr.alloc o) v l := ⟨h.own.alloc o, h.below.alloc h.below.size o⟩
theorem Grow.fresh {w wr : World} {v : Value} {l : List UInt8} (h : Grow w wr v l) : v.ownBlock ≠ some wr.heap.size := fun e => by
  have := (h.own.lt _ e).2; omega
theorem Grow.push {w wr w6 : World} {v v' : Value} {l : List UInt8} {b : UInt8} {o : Obj} (h : Grow w wr v l) (hown : w6.ownsRow w.heap.size 5 1 v' (l.length + 1) (byteVals (l ++ [b]))) (hg : (wr.alloc o).grownBy w6 v.ownBlock) : Grow w w6 v' (l ++ [b]) :=
  ⟨by rw [List.length_append]; exact hown, (h.alloc o).below.grown hg (h.alloc o).below.size (fun k e => (h.own.lt k e).1)⟩
/-- What lies apart from the row stays. -/
theorem Grow.apart {w wr w6 : World} {v v' : Value} {l : List UInt8} {o : Obj} {p : Nat} (_h : Grow w wr v l) (hg : (wr.alloc o).grownBy w6 v.ownBlock) (hat : v'.ownBlock = v.ownBlock ∨ v'.ownBlock = some (wr.heap.size + 1)) (hp : p < wr.heap.size) (hv : v.ownBlock ≠ some p) : v'.ownBlock ≠ some p ∧ (∀ j, w6.cell? ⟨p, j, none⟩ = wr.cell? ⟨p, j, none⟩) ∧ p < w6.heap.size := by
  have hz : (wr.alloc o).heap.size = wr.heap.size + 1 := by simp
  have hbk := hg.block p (by omega) (fun e => hv e.symm)
  refine ⟨?_, fun j => (World.cell?_of_block hbk).trans (((Below.refl wr.heap.size wr).alloc (Nat.le_refl _) o).cell (p := ⟨p, j, none⟩) hp), ?_⟩
  · rcases hat with e | e
    · rw [e]; exact hv
    · rw [e]; intro q; injection q with q; omega
  · have := hg.size; omega
theorem Grow.cell {w wr : World} {a : Option Addr} {n c : Nat} {l : List UInt8} (h : Grow w wr (.slice a n c) l) (i : Nat) (hi : i < l.length) : ∃ g, a = some ⟨g, 0, none⟩ ∧ n = l.length ∧ wr.cell? ⟨g, i, none⟩ = some (.int .u8 (l[i].toNat : Int)) := by
  obtain ⟨a', c', e, hg⟩ := own_shape h.own
  injection e with e1 e2 e3
  subst e1 e2 e3
  obtain ⟨g, rfl, _⟩ := hg (by omega)
  refine ⟨g, rfl, rfl, ?_⟩
  rw [h.own.cellAt i (by omega), byteVals_at, List.getElem?_eq_getElem hi]
  rfl
theorem alloc_new2 (w : World) (v : Value) (t : TypeId) : (w.alloc (.cells #[v] t)).cell? ⟨w.heap.size, 0, none⟩ = some v := by simp
set_option maxHeartbeats 4000000 in
set_option maxRecDepth 100000 in
theorem expand_any (ao : Option Addr) (len cap : Nat) (t : Tks) (w : World) (uT : TypeId) (uV : Value) (hS : w.cell? ⟨2, 0, none⟩ = some (.iface uT uV)) (hP : IsTokens w ao len t) (hlen : len ≤ 100000)
    (hsm : ∀ i, i ≤ len → (∀ j, j < i → t.good j) → (t.out i).length ≤ 300000) :
    Calls Tryz.prog 61 #[.slice ao len cap] w fun e w' =>
      ((∀ j, j < len → t.good j) ∧ e = .returned (.tuple #[.string ⟨(t.out len).toArray⟩, .nilIface]) ∧ Below w.heap.size w w') ∨
      (∃ i q, Wrong w' w.heap.size t (.iface uT uV) i q len ∧ e = .returned (.tuple #[.string ⟨#[]⟩, .iface 106 (.pointer (some ⟨q, 0, none⟩))]) ∧ Below w.heap.size w w') := by
  have HM := hide (measure_any ao len cap t w uT uV hS hP hlen hsm)
  have HP := hide hP
  have HSM := hide hsm
  clear hP hsm hS
  go_enter Tryz.func61, Tryz.ntmps61
  go_wp2_with fail
  refine (unhide HM).mono ?_
  rintro e w1 (⟨hgood, rfl, hb1⟩ | ⟨i, q, hw, rfl, hb1⟩)
  rotate_left
  · have HW := hide hw
    clear HM hw
    go_wp2
    go_ret2
    exact .inr ⟨i, q, unhide HW, rfl, hb1⟩
  have HGD := hide hgood
  have holl := unhide HSM len (Nat.le_refl _) hgood
  obtain ⟨i0, hi, hz0, hz1, hz2⟩ := info_parts info_u8
  have Hi := hide hi
  have Hz0 := hide hz0
  have Hz1 := hide hz1
  have Hz2 : i0.bytes * (t.out len).length ≤ 281474976710656 := by rw [hz2]; omega
  generalize (t.out len).length = olen at *
  have HZ2 := hide Hz2
  clear HM hgood hi hz0 hz1 hz2 Hz2
  go_wp2_with (at_make; refine wpList_make_own _ rfl (.const (.int .i64 0)) (.tmp 17) 54 rfl w.heap.size 5 i0 (.int .u8 0) 1 Tryz.underlying54 (unhide Hi) (unhide Hz0) (unhide Hz1) .i64 .i64 (olen : Int) olen rfl rfl rfl (unhide HZ2) (by unfold maxLen; omega) hb1.size ?_)
  intro w2 hown2 hgr2
  have hG2 : Grow w w2 (.slice (some ⟨w1.heap.size, 0, none⟩) 0 olen) [] := ⟨hown2, hb1.grown hgr2 hb1.size (fun k e => by cases e)⟩
  have HG2 := hide hG2
  generalize w1.heap.size = g1 at *
  clear hown2 hgr2 hG2 hb1
  go_wp2
  go_loopw [6, 21] (fun v i wr => ∃ k : Nat, k ≤ len ∧ i = .int .i64 (k : Int) ∧ Hid (Grow w wr v (t.out k))) (fun _ i _ => len - (intOf i).toNat)
  case atStart => exact ⟨0, by omega, rfl, HG2⟩
  case round =>
    clear HG2
    obtain ⟨k, hk, rfl, HG⟩ := hrel
    by_cases hlt : k < len
    · have g1 : decide ((k : Int) < (len : Int)) = true := by simp; omega
      have hki : (k : Int) < (len : Int) := by omega
      obtain ⟨va, vc, rfl, _⟩ := own_shape (unhide HG).own
      have hP1 := (unhide HP).below (unhide HG).below
      rcases hP1 with h0 | ⟨bb, off, rfl, hm, hc⟩
      · omega
      obtain ⟨c0, c1, c2, hb8, ⟨hl1, hl2⟩, ⟨hd1, hd2⟩⟩ := hc k hlt
      have hgk := unhide HGD k hlt
      have hol := unhide HSM k hk (fun j hj => unhide HGD j (by omega))
      have hol2 := unhide HSM (k + 1) (by omega) (fun j hj => unhide HGD j (by omega))
      have hshp : Shp (t.b k) (t.l k) (t.d k) := hgk.1
      have hdb := hgk.2
      have HNX : Hid (t.out (k + 1) = if t.l k = 0 then t.out k ++ [UInt8.ofNat (t.b k)] else cpy (t.out k) (t.d k).toNat (t.l k).toNat) := rfl
      have hnl : (t.out (k + 1)).length = (t.out k).length + (if t.l k = 0 then 1 else (t.l k).toNat) := by
        rw [unhide HNX]
        split
        · simp
        · rw [cpy_length]
      generalize t.b k = b at *
      generalize t.l k = l at *
      generalize t.d k = d at *
      generalize t.out k = o at *
      generalize (t.out (k + 1)).length = o1 at *
      have HAL := hide ((unhide HG).alloc (.cells #[.int .u8 (b : Int), .int .i64 l, .int .i64 d] 51))
      have hfr := (unhide HG).fresh
      have ca2 : (wr.alloc (.cells #[.int .u8 (b : Int), .int .i64 l, .int .i64 d] 51)).cell? ⟨wr.heap.size, 2, none⟩ = some (.int .i64 d) := by simp
      have hpl : wr.heap.size < (wr.alloc (.cells #[.int .u8 (b : Int), .int .i64 l, .int .i64 d] 51)).heap.size := by simp
      clear hc hgk
      by_cases h0 : l = 0
      · subst h0
        rw [if_pos rfl] at HNX hnl
        obtain ⟨b8, hb8e⟩ : ∃ b8 : UInt8, (b8.toNat : Int) = (b : Int) ∧ UInt8.ofNat b = b8 := ⟨UInt8.ofNat b, by rw [UInt8.toNat_ofNat_of_lt' (by simpa using hb8)], rfl⟩
        rw [← hb8e.1] at HAL c0 ca2 hpl
        rw [hb8e.2] at HNX
        have hsz8 : ((wr.alloc (.cells #[.int .u8 (b8.toNat : Int), .int .i64 0, .int .i64 d] 51)).heap.size) = wr.heap.size + 1 := by simp
        clear hb8e hshp
        go_wp2_with (at_builtin; refine wpList_appB _ rfl (.tmp 28) (.tmp 31) rfl w.heap.size (wr.alloc (.cells #[.int .u8 (b8.toNat : Int), .int .i64 0, .int .i64 d] 51)).heap.size (.slice va o.length vc) o b8 rfl (by simp [Act.eval, hsz8]) ((unhide HAL).own.alloc _) (alloc_new2 _ _ _) (by omega) (by have := (unhide HAL).below.size; simp at this ⊢; omega) ?_)
        intro v3 w6 hown3 hgr3 _
        have HG3 := hide ((unhide HAL).push hown3 hgr3)
        clear hown3 hgr3 HAL
        go_wp2
        go_roundw
        case rel => exact ⟨k + 1, by omega, by go_num, by rw [unhide HNX]; exact HG3⟩
        case measure => simp [intOf]; omega
      · have hs2 : b = 0 ∧ (3 ≤ l ∧ l ≤ 258) ∧ 1 ≤ d ∧ d ≤ 32768 := by unfold Shp at hshp; rwa [if_neg h0] at hshp
        rw [if_neg h0] at HNX hnl
        have g0 : (l == 0) = false := by simpa using h0
        obtain ⟨hb0, ⟨hl3, hl4⟩, hd3, hd4⟩ := hs2
        have hb0i : (b : Int) = 0 := by omega
        rw [hb0i] at c0 HAL ca2 hpl
        obtain ⟨n, rfl⟩ := Int.eq_ofNat_of_zero_le (show 0 ≤ l by omega)
        obtain ⟨bk, rfl⟩ := Int.eq_ofNat_of_zero_le (show 0 ≤ d by omega)
        simp only [Int.toNat_natCast] at HNX hnl
        clear hshp h0 hb0 hb0i hb8
        go_wp2
        generalize wr.alloc (.cells #[.int .u8 0, .int .i64 (n : Int), .int .i64 (bk : Int)] 51) = wa at *
        generalize wr.heap.size = p at *
        go_loopw [6, 35] (fun v i wq => ∃ j : Nat, j ≤ n ∧ i = .int .i64 (j : Int) ∧ Hid (Grow w wq v (cpy o bk j)) ∧ v.ownBlock ≠ some p ∧ wq.cell? ⟨p, 2, none⟩ = some (.int .i64 (bk : Int)) ∧ p < wq.heap.size) (fun _ i _ => n - (intOf i).toNat)
        case atStart => exact ⟨0, by omega, rfl, HAL, hfr, ca2, hpl⟩
        case round =>
          clear HAL hfr ca2 hpl
          obtain ⟨j, hj, rfl, HGj, hfj, cj2, hpj⟩ := hrel
          by_cases hjt : j < n
          · have g2 : decide ((j : Int) < (n : Int)) = true := by simp; omega
            have hcl := cpy_length o bk j
            obtain ⟨lj, hlj⟩ : ∃ q, q = cpy o bk j := ⟨_, rfl⟩
            rw [← hlj] at HGj hcl
            obtain ⟨aj, cj, rfl, _⟩ := own_shape (unhide HGj).own
            obtain ⟨ix, hix⟩ : ∃ q, q = lj.length - bk := ⟨_, rfl⟩
            have zix : (lj.length : Int) - (bk : Int) = (ix : Int) := by omega
            have hixl : ix < lj.length := by omega
            have hixi : (ix : Int) < (lj.length : Int) := by omega
            obtain ⟨g, rfl, _, cb⟩ := (unhide HGj).cell ix hixl
            obtain ⟨b8, hb8⟩ : ∃ b, b = lj[ix] := ⟨_, rfl⟩
            rw [← hb8] at cb
            have HNJ : Hid (cpy o bk (j + 1) = lj ++ [b8]) := by
              show cpy o bk j ++ [(cpy o bk j).getD ((cpy o bk j).length - bk) 0] = _
              rw [← hlj, ← hix, hb8]
              congr 2
              simp [List.getElem?_eq_getElem hixl]
            have hll : lj.length ≤ 300000 := by omega
            have hwx : IntKind.i64.wrap (ix : Int) = (ix : Int) := by rw [IntKind.wrap_i64]; omega
            have hbsz := (unhide HGj).below.size
            clear hlj hix hb8 hcl hnl
            go_wp2_with (at_builtin; refine wpList_appB _ rfl (.tmp 37) (.tmp 46) rfl w.heap.size wr.heap.size (.slice (some ⟨g, 0, none⟩) lj.length cj) lj b8 rfl rfl ((unhide HGj).own.alloc _) (alloc_new2 _ _ _) (by omega) (by simp; omega) ?_)
            intro v3 w6 hown3 hgr3 hat3
            have HG3 := hide ((unhide HGj).push hown3 hgr3)
            obtain ⟨hfr6, hc6, hp6⟩ := (unhide HGj).apart hgr3 hat3 hpj hfj
            have c62 := (hc6 2).trans cj2
            clear hown3 hgr3 hat3 hc6
            go_wp2
            go_roundw
            case rel => exact ⟨j + 1, by omega, by go_num, by rw [unhide HNJ]; exact HG3, hfr6, c62, hp6⟩
            case measure => simp [intOf]; omega
          · have : j = n := by omega
            subst this
            have g2 : decide ((j : Int) < (j : Int)) = false := by simp
            go_wp2
            go_roundw
            case rel => exact ⟨k + 1, by omega, by go_num, by rw [unhide HNX]; exact HGj⟩
            case measure => simp [intOf]; omega
    · have : k = len := by omega
      subst this
      have g1 : decide ((k : Int) < (k : Int)) = false := by simp
      have hcv := own_text wr _ _ _ _ (unhide HG).own
      have hbf := (unhide HG).below
      have HGG := hide (unhide HGD)
      clear HG
      go_wp2
      go_ret2
      exact .inl ⟨unhide HGG, rfl, hbf⟩
end Go.Proofs.YtfeljhikeddodadGreatDoor
