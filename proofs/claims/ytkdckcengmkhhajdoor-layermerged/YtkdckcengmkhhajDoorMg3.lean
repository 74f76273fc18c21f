/- Layers in memory. Names of layers: the program's, the document's. -/
import Derived.Test.YtkdckcengmkhhajDoorMg1
import Derived.Test.YtkdckcengmkhhajDoorMg2
import Derived.BigQuiet
namespace Go.Proofs.YtkdckcengmkhhajDoor
open Go.RowKit

/-- A layer. -/
structure Ly where
  name : ByteArray
  x : Int
  y : Int
  hid : Bool
  op : Int
  mo : Int
  wd : Int
  hg : Int
  n : Nat
  q : Nat → Px
instance : Inhabited Ly := ⟨⟨⟨#[]⟩, 0, 0, false, 0, 0, 0, 0, 0, fun _ => default⟩⟩
/-- As a value. -/
def Ly.val (l : Ly) (a : Option Addr) (c : Nat) : Value := .agg #[.string l.name, .int .i64 l.x, .int .i64 l.y, .bool l.hid, .int .i64 l.op, .int .i64 l.mo, .int .i64 l.wd, .int .i64 l.hg, .slice a l.n c]
/-- Its cells lie there. -/
structure LyAt (w : World) (k off : Nat) (l : Ly) (a : Option Addr) (c : Nat) : Prop where
  c0 : w.cell? ⟨k, off, none⟩ = some (.string l.name)
  c1 : w.cell? ⟨k, off + 1, none⟩ = some (.int .i64 l.x)
  c2 : w.cell? ⟨k, off + 2, none⟩ = some (.int .i64 l.y)
  c3 : w.cell? ⟨k, off + 3, none⟩ = some (.bool l.hid)
  c4 : w.cell? ⟨k, off + 4, none⟩ = some (.int .i64 l.op)
  c5 : w.cell? ⟨k, off + 5, none⟩ = some (.int .i64 l.mo)
  c6 : w.cell? ⟨k, off + 6, none⟩ = some (.int .i64 l.wd)
  c7 : w.cell? ⟨k, off + 7, none⟩ = some (.int .i64 l.hg)
  c8 : w.cell? ⟨k, off + 8, none⟩ = some (.slice a l.n c)
theorem LyAt.lt {w : World} {k off : Nat} {l : Ly} {a : Option Addr} {c : Nat} (h : LyAt w k off l a c) : k < w.heap.size := World.block_lt_of_cell? _ _ h.c0
theorem LyAt.block {w w' : World} {k off : Nat} {l : Ly} {a : Option Addr} {c : Nat} (h : LyAt w k off l a c) (e : w'.heap[k]? = w.heap[k]?) : LyAt w' k off l a c := by
  have key : ∀ j, w'.cell? ⟨k, j, none⟩ = w.cell? ⟨k, j, none⟩ := fun j => by simp [World.cell?, e]
  exact ⟨(key _).trans h.c0, (key _).trans h.c1, (key _).trans h.c2, (key _).trans h.c3, (key _).trans h.c4, (key _).trans h.c5, (key _).trans h.c6, (key _).trans h.c7, (key _).trans h.c8⟩
theorem LyAt.below {w w' : World} {k off B : Nat} {l : Ly} {a : Option Addr} {c : Nat} (h : LyAt w k off l a c) (hb : Below B w w') (hB : k < B) : LyAt w' k off l a c := h.block (hb.block k hB)

/-- It is empty; or it leads to a row of layers; their pixels lie there, too. -/
structure IsLy (w : World) (s : Option Addr) (len : Nat) (L : Nat → Ly) (a : Nat → Option Addr) (c : Nat → Nat) : Prop where
  row : len = 0 ∨ ∃ b off, s = some ⟨b, off, none⟩ ∧ len ≤ maxLen ∧ ∀ i, i < len → LyAt w b (off + i * 9) (L i) (a i) (c i)
  px : ∀ i, i < len → IsPx w (a i) (L i).n (L i).q
theorem IsLy.le {w : World} {s : Option Addr} {len : Nat} {L : Nat → Ly} {a : Nat → Option Addr} {c : Nat → Nat} (h : IsLy w s len L a c) : len ≤ maxLen := by
  rcases h.row with h | ⟨_, _, _, h, _⟩
  · unfold maxLen; omega
  · exact h
theorem IsLy.below {w w' : World} {s : Option Addr} {len : Nat} {L : Nat → Ly} {a : Nat → Option Addr} {c : Nat → Nat} (h : IsLy w s len L a c) (hb : Below w.heap.size w w') : IsLy w' s len L a c := by
  refine ⟨?_, fun i hi => (h.px i hi).below hb⟩
  rcases h.row with h | ⟨b, off, e, hm, h⟩
  · exact .inl h
  · exact .inr ⟨b, off, e, hm, fun i hi => (h i hi).below hb (h i hi).lt⟩
theorem IsLy.take {w : World} {s : Option Addr} {len : Nat} {L : Nat → Ly} {a : Nat → Option Addr} {c : Nat → Nat} (h : IsLy w s len L a c) (k : Nat) (hk : k ≤ len) : IsLy w s k L a c := by
  refine ⟨?_, fun i hi => h.px i (by omega)⟩
  rcases h.row with h | ⟨b, off, e, hm, h⟩
  · exact .inl (by omega)
  · exact .inr ⟨b, off, e, by omega, fun i hi => h i (by omega)⟩

/-- A name that may be. -/
def NmOk (s : ByteArray) : Prop := 1 ≤ s.size ∧ s.size ≤ 12 ∧ ∀ j (h : j < s.size), 97 ≤ s[j].toNat ∧ s[j].toNat ≤ 122
noncomputable def nmB (s : ByteArray) : Bool := @decide (NmOk s) (Classical.propDecidable _)
theorem nmB_iff (s : ByteArray) : nmB s = true ↔ NmOk s := by unfold nmB; exact @decide_eq_true_iff _ (Classical.propDecidable _)
theorem nmB_no {s : ByteArray} (h : ¬ NmOk s) : nmB s = false := by rw [← Bool.not_eq_true, nmB_iff]; exact h
/-- Is there one by that name among the first ones? -/
def Hs (L : Nat → Ly) (k : Nat) (s : ByteArray) : Prop := ∃ j, j < k ∧ (L j).name = s
theorem hs_zero (L : Nat → Ly) (s : ByteArray) : ¬ Hs L 0 s := fun ⟨j, h, _⟩ => by omega
theorem hs_yes {L : Nat → Ly} {k n : Nat} {s : ByteArray} (h : (L k).name = s) (hk : k < n) : Hs L n s := ⟨k, hk, h⟩
theorem hs_no {L : Nat → Ly} {k : Nat} {s : ByteArray} (h : ¬ Hs L k s) (hk : (L k).name ≠ s) : ¬ Hs L (k + 1) s := fun ⟨j, hj, e⟩ => by
  rcases Nat.lt_succ_iff_lt_or_eq.1 hj with q | rfl
  · exact h ⟨j, q, e⟩
  · exact hk e
/-- Which one is the first by that name. -/
def Fst (L : Nat → Ly) (n : Nat) (s : ByteArray) (z : Int) : Prop := (z = -1 ∧ ¬ Hs L n s) ∨ ∃ i : Nat, i < n ∧ z = (i : Int) ∧ (L i).name = s ∧ ¬ Hs L i s
theorem Fst.unique {L : Nat → Ly} {n : Nat} {s : ByteArray} {y z : Int} (h : Fst L n s y) (g : Fst L n s z) : y = z := by
  rcases h with ⟨rfl, h⟩ | ⟨i, hi, rfl, e, h⟩
  · rcases g with ⟨rfl, g⟩ | ⟨j, hj, rfl, e', g⟩
    · rfl
    · exact absurd ⟨j, hj, e'⟩ h
  · rcases g with ⟨rfl, g⟩ | ⟨j, hj, rfl, e', g⟩
    · exact absurd ⟨i, hi, e⟩ g
    · rcases Nat.lt_trichotomy i j with q | rfl | q
      · exact absurd ⟨i, q, e⟩ g
      · rfl
      · exact absurd ⟨j, q, e'⟩ h
theorem Fst.yes {L : Nat → Ly} {n : Nat} {s : ByteArray} {z : Int} (h : Fst L n s z) : 0 ≤ z ↔ Hs L n s := by
  rcases h with ⟨rfl, h⟩ | ⟨i, hi, rfl, e, h⟩
  · exact ⟨fun q => absurd q (by omega), fun q => absurd q h⟩
  · exact ⟨fun _ => ⟨i, hi, e⟩, fun _ => by omega⟩
theorem Fst.ahead {L : Nat → Ly} {n k : Nat} {z : Int} (h : Fst L n (L k).name z) (hk : k < n) : z < (k : Int) ↔ Hs L k (L k).name := by
  rcases h with ⟨rfl, h⟩ | ⟨i, hi, rfl, e, h⟩
  · exact absurd ⟨k, hk, rfl⟩ h
  · constructor
    · exact fun q => ⟨i, by omega, e⟩
    · rintro ⟨j, hj, ej⟩
      rcases Nat.lt_or_ge i k with q | q
      · omega
      · exact absurd ⟨j, by omega, ej⟩ h
end Go.Proofs.YtkdckcengmkhhajDoor
namespace Go.Proofs.YtkdckcengmkhhajDoor
open Go.RowKit

set_option maxHeartbeats 1000000 in
theorem isName_any (s : ByteArray) (w : World) :
    Calls Tryd.prog 60 #[.string s] w fun e w' => e = .returned (.bool (nmB s)) ∧ w' = w := by
  obtain ⟨r, hr⟩ : ∃ r, r = nmB s := ⟨_, rfl⟩
  rw [← hr]
  have HF : Hid (¬ NmOk s → r = false) := fun h => by rw [hr]; exact nmB_no h
  have HT : Hid (NmOk s → r = true) := fun h => by rw [hr]; exact (nmB_iff s).2 h
  clear hr
  by_cases h1 : s.size < 1
  · have d1 : decide ((s.size : Int) < 1) = true := decide_eq_true (by omega)
    obtain rfl : r = false := unhide HF (fun q => by have := q.1; omega)
    go_enter Tryd.func60, Tryd.ntmps60
    go_wp2
    go_ret
    exact ⟨rfl, rfl⟩
  have d1 : decide ((s.size : Int) < 1) = false := decide_eq_false (by omega)
  by_cases h2 : s.size > 12
  · have d2 : decide ((s.size : Int) > 12) = true := decide_eq_true (by omega)
    obtain rfl : r = false := unhide HF (fun q => by have := q.2.1; omega)
    go_enter Tryd.func60, Tryd.ntmps60
    go_wp2
    go_ret
    exact ⟨rfl, rfl⟩
  have d2 : decide ((s.size : Int) > 12) = false := decide_eq_false (by omega)
  go_enter Tryd.func60, Tryd.ntmps60
  go_wp2
  go_loop [14] (fun v => ∃ i : Nat, i ≤ s.size ∧ v = .int .i64 (i : Int) ∧ Hid (∀ j (h : j < s.size), j < i → 97 ≤ s[j].toNat ∧ s[j].toNat ≤ 122)) (fun v => s.size - (intOf v).toNat)
  case atStart => exact ⟨0, by omega, rfl, fun j h q => by omega⟩
  case round =>
    obtain ⟨i, hi, rfl, HA⟩ := hrel
    by_cases hlt : i < s.size
    · have g1 : decide ((i : Int) < (s.size : Int)) = true := decide_eq_true (by omega)
      have hsi : (i : Int) < (s.size : Int) := by omega
      by_cases hl : s[i].toNat < 97
      · have e1 : decide ((s[i].toNat : Int) < 97) = true := decide_eq_true (by omega)
        obtain rfl : r = false := unhide HF (fun q => by have := (q.2.2 i hlt).1; omega)
        clear hl HA
        go_wp2
        go_ret
        exact ⟨rfl, rfl⟩
      have e1 : decide ((s[i].toNat : Int) < 97) = false := decide_eq_false (by omega)
      by_cases hl2 : s[i].toNat > 122
      · have e2 : decide ((s[i].toNat : Int) > 122) = true := decide_eq_true (by omega)
        obtain rfl : r = false := unhide HF (fun q => by have := (q.2.2 i hlt).2; omega)
        clear hl hl2 HA
        go_wp2
        go_ret
        exact ⟨rfl, rfl⟩
      have e2 : decide ((s[i].toNat : Int) > 122) = false := decide_eq_false (by omega)
      have HA2 : Hid (∀ j (h : j < s.size), j < i + 1 → 97 ≤ s[j].toNat ∧ s[j].toNat ≤ 122) := fun j h q => by
        by_cases e : j = i
        · subst e; exact ⟨by omega, by omega⟩
        · exact unhide HA j h (by omega)
      clear hl hl2 HA
      go_wp2
      go_round
      case rel => exact ⟨i + 1, by omega, by go_num, HA2⟩
      case measure => simp [intOf]; omega
    · obtain rfl : i = s.size := by omega
      have g1 : decide ((s.size : Int) < (s.size : Int)) = false := by simp
      obtain rfl : r = true := unhide HT ⟨by omega, by omega, fun j h => unhide HA j h h⟩
      go_wp2
      go_ret
      exact ⟨rfl, rfl⟩

set_option maxHeartbeats 1000000 in
theorem risName_any (s : ByteArray) (w : World) :
    Calls Tryd.prog 32 #[.string s] w fun e w' => e = .returned (.bool (nmB s)) ∧ w' = w := by
  obtain ⟨r, hr⟩ : ∃ r, r = nmB s := ⟨_, rfl⟩
  rw [← hr]
  have HF : Hid (¬ NmOk s → r = false) := fun h => by rw [hr]; exact nmB_no h
  have HT : Hid (NmOk s → r = true) := fun h => by rw [hr]; exact (nmB_iff s).2 h
  clear hr
  by_cases h1 : s.size < 1
  · have d1 : decide ((s.size : Int) < 1) = true := decide_eq_true (by omega)
    obtain rfl : r = false := unhide HF (fun q => by have := q.1; omega)
    go_enter Tryd.func32, Tryd.ntmps32
    go_wp2
    go_ret
    exact ⟨rfl, rfl⟩
  have d1 : decide ((s.size : Int) < 1) = false := decide_eq_false (by omega)
  by_cases h2 : s.size > 12
  · have d2 : decide ((s.size : Int) > 12) = true := decide_eq_true (by omega)
    obtain rfl : r = false := unhide HF (fun q => by have := q.2.1; omega)
    go_enter Tryd.func32, Tryd.ntmps32
    go_wp2
    go_ret
    exact ⟨rfl, rfl⟩
  have d2 : decide ((s.size : Int) > 12) = false := decide_eq_false (by omega)
  go_enter Tryd.func32, Tryd.ntmps32
  go_wp2
  go_loop [3] (fun v => ∃ i : Nat, i ≤ s.size ∧ v = .int .i64 (i : Int) ∧ Hid (∀ j (h : j < s.size), j < i → 97 ≤ s[j].toNat ∧ s[j].toNat ≤ 122)) (fun v => s.size - (intOf v).toNat)
  case atStart => exact ⟨0, by omega, rfl, fun j h q => by omega⟩
  case round =>
    obtain ⟨i, hi, rfl, HA⟩ := hrel
    by_cases hlt : i < s.size
    · have g1 : decide ((i : Int) < (s.size : Int)) = true := decide_eq_true (by omega)
      have hsi : (i : Int) < (s.size : Int) := by omega
      by_cases hl : s[i].toNat < 97
      · have e1 : decide ((s[i].toNat : Int) < 97) = true := decide_eq_true (by omega)
        obtain rfl : r = false := unhide HF (fun q => by have := (q.2.2 i hlt).1; omega)
        clear hl HA
        go_wp2
        go_ret
        exact ⟨rfl, rfl⟩
      have e1 : decide ((s[i].toNat : Int) < 97) = false := decide_eq_false (by omega)
      by_cases hl2 : s[i].toNat > 122
      · have e2 : decide ((s[i].toNat : Int) > 122) = true := decide_eq_true (by omega)
        obtain rfl : r = false := unhide HF (fun q => by have := (q.2.2 i hlt).2; omega)
        clear hl hl2 HA
        go_wp2
        go_ret
        exact ⟨rfl, rfl⟩
      have e2 : decide ((s[i].toNat : Int) > 122) = false := decide_eq_false (by omega)
      have HA2 : Hid (∀ j (h : j < s.size), j < i + 1 → 97 ≤ s[j].toNat ∧ s[j].toNat ≤ 122) := fun j h q => by
        by_cases e : j = i
        · subst e; exact ⟨by omega, by omega⟩
        · exact unhide HA j h (by omega)
      clear hl hl2 HA
      go_wp2
      go_round
      case rel => exact ⟨i + 1, by omega, by go_num, HA2⟩
      case measure => simp [intOf]; omega
    · obtain rfl : i = s.size := by omega
      have g1 : decide ((s.size : Int) < (s.size : Int)) = false := by simp
      obtain rfl : r = true := unhide HT ⟨by omega, by omega, fun j h => unhide HA j h h⟩
      go_wp2
      go_ret
      exact ⟨rfl, rfl⟩

theorem str_beq (x y : ByteArray) : (x.toList == y.toList) = decide (x = y) := by
  by_cases h : x = y
  · rw [h]; simp
  · rw [decide_eq_false h]
    simp only [beq_eq_false_iff_ne, ne_eq]
    intro e
    apply h
    rw [ByteArray.toList_eq, ByteArray.toList_eq] at e
    exact ByteArray.ext (Array.toList_inj.1 e)
theorem str_eq (a b : ByteArray) (r : Bool) (h : r = true ↔ a = b) : (a.toList == b.toList) = r := by
  rw [str_beq, Bool.eq_iff_iff, h]
  exact decide_eq_true_iff

set_option maxHeartbeats 1000000 in
theorem nameC_any (k : Nat) (l : Ly) (a : Option Addr) (c : Nat) (s : ByteArray) (w : World) (r : Bool) (hr : r = true ↔ l.name = s) (h : w.cell? ⟨k, 0, none⟩ = some (.string s)) :
    Calls Tryd.prog 88 #[l.val a c, .pointer (some ⟨k, 0, none⟩)] w fun e w' => e = .returned (.bool r) ∧ Below w.heap.size w w' := by
  have hd := str_eq _ _ _ hr
  have HB := hide (((Below.refl w.heap.size w).alloc (Nat.le_refl _) (.cells #[.string l.name, .int .i64 l.x, .int .i64 l.y, .bool l.hid, .int .i64 l.op, .int .i64 l.mo, .int .i64 l.wd, .int .i64 l.hg, .slice a l.n c] 54)))
  have hk := World.block_lt_of_cell? _ _ h
  clear hr
  unfold Ly.val
  go_enter Tryd.func88, Tryd.ntmps88
  go_wp2
  go_ret
  exact ⟨rfl, unhide HB⟩
end Go.Proofs.YtkdckcengmkhhajDoor
