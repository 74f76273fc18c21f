/- Layers by their names: the program's, the document's. Rows of pixels: their cells, and a copy of one's own. -/
import Derived.Test.YtkdckcengmkhhajDoorMg3
import Derived.Test.YtkdckcengmkhhajDoorMg1
import Derived.Test.YtkdckcengmkhhajDoorMg2
import Derived.Deep.OwnRows
import Derived.Deep.AppendLies
import Derived.Deep.QuietTactic
import Derived.Laws.OwnMore
import Derived.Laws.ResultCell
namespace Go.Proofs.YtkdckcengmkhhajDoor
open Go.RowKit

set_option maxHeartbeats 1000000 in
theorem indexLy_any (k : Nat) (s : Option Addr) (n c : Nat) (L : Nat → Ly) (a : Nat → Option Addr) (cp : Nat → Nat) (t : ByteArray) (w : World) (hk : w.cell? ⟨k, 0, none⟩ = some (.string t)) (hL : IsLy w s n L a cp) :
    Calls Tryd.prog 87 #[.slice s n c, .func (.func 88) #[] #[.pointer (some ⟨k, 0, none⟩)]] w fun e w' => (∃ z : Int, e = .returned (.int .i64 z) ∧ Fst L n t z) ∧ Below w.heap.size w w' := by
  have hM := hL.le
  unfold maxLen at hM
  have HC := hide (fun i wr (r : Bool) (hr : r = true ↔ (L i).name = t) (hb : Below w.heap.size w wr) => nameC_any k (L i) (a i) (cp i) t wr r hr ((hb.cell (p := ⟨k, 0, none⟩) (World.block_lt_of_cell? _ _ hk)).trans hk))
  have HP := hide hL
  have HW := hide (Below.refl w.heap.size w)
  clear hk hL
  go_enter Tryd.func87, Tryd.ntmps87
  go_wp2
  go_loopw [8] (fun iv wr => ∃ i : Nat, i ≤ n ∧ iv = .int .i64 (i : Int) ∧ Hid (¬ Hs L i t) ∧ Hid (Below w.heap.size w wr)) (fun iv _ => n - (intOf iv).toNat)
  case atStart => exact ⟨0, by omega, rfl, hs_zero L t, HW⟩
  case round =>
    clear HW
    obtain ⟨i, hi, rfl, HK, HB⟩ := hrel
    by_cases hlt : i < n
    · have g1 : decide ((i : Int) < (n : Int)) = true := decide_eq_true (by omega)
      have g1n : decide (i < n) = true := decide_eq_true hlt
      obtain ⟨r, hr⟩ : ∃ r : Bool, r = true ↔ (L i).name = t := ⟨@decide _ (Classical.propDecidable _), @decide_eq_true_iff _ (Classical.propDecidable _)⟩
      have HCi := hide (unhide HC i wr r hr (unhide HB))
      obtain ⟨b, off, rfl, hm, hc⟩ := ((unhide HP).below (unhide HB)).row.resolve_left (by omega)
      obtain ⟨c0, c1, c2, c3, c4, c5, c6, c7, c8⟩ := hc i hlt
      have ha1 : (i : Int) < (n : Int) := by omega
      clear hc hm
      unfold Ly.val at HCi
      have HR := hide hr
      clear hr
      go_wp2_with fail
      refine (unhide HCi).mono ?_
      rintro e w1 ⟨rfl, hb1⟩
      have HB1 := hide ((unhide HB).trans (hb1.mono (unhide HB).size))
      clear hb1 HCi HB c0 c1 c2 c3 c4 c5 c6 c7 c8
      rcases r with _ | _
      · have HK1 : Hid (¬ Hs L (i + 1) t) := hs_no (unhide HK) (fun q => by simpa using (unhide HR).2 q)
        go_wp2
        go_roundw
        case rel => exact ⟨i + 1, by omega, by go_num, HK1, HB1⟩
        case measure => simp [intOf]; omega
      · have HN : Hid (Fst L n t (i : Int)) := .inr ⟨i, hlt, rfl, (unhide HR).1 rfl, unhide HK⟩
        go_wp2
        go_ret
        exact ⟨⟨_, rfl, unhide HN⟩, unhide HB1⟩
    · obtain rfl : i = n := by omega
      have g1 : decide ((i : Int) < (i : Int)) = false := by simp
      go_wp2
      go_ret
      exact ⟨⟨_, rfl, .inl ⟨rfl, unhide HK⟩⟩, unhide HB⟩

theorem numberOf_any (s : Option Addr) (n c : Nat) (L : Nat → Ly) (a : Nat → Option Addr) (cp : Nat → Nat) (t : ByteArray) (w : World) (hL : IsLy w s n L a cp) :
    Calls Tryd.prog 61 #[.string t, .slice s n c] w fun e w' => (∃ z : Int, e = .returned (.int .i64 z) ∧ Fst L n t z) ∧ Below w.heap.size w w' := by
  have HA := al1 w (.cells #[.string t] 9)
  have HI := hide (indexLy_any w.heap.size s n c L a cp t _ (by rw [blk_cell HA.k0]; rfl) (hL.below HA.below))
  have HB := hide HA.below
  clear hL HA
  go_enter Tryd.func61, Tryd.ntmps61
  go_wp2_with fail
  refine (unhide HI).mono ?_
  rintro e w1 ⟨⟨z, rfl, hz⟩, hb⟩
  have HB1 := hide ((unhide HB).trans (hb.mono (unhide HB).size))
  have HZ := hide hz
  clear hb HI HB hz
  go_wp2
  go_ret
  exact ⟨⟨_, rfl, unhide HZ⟩, unhide HB1⟩

set_option maxHeartbeats 1000000 in
theorem find_any (W H : Int) (s : Option Addr) (n c : Nat) (L : Nat → Ly) (a : Nat → Option Addr) (cp : Nat → Nat) (t : ByteArray) (w : World) (hL : IsLy w s n L a cp) :
    Calls Tryd.prog 19 #[.agg #[.int .i64 W, .int .i64 H, .slice s n c], .string t] w fun e w' => (∃ z : Int, e = .returned (.int .i64 z) ∧ Fst L n t z) ∧ Below w.heap.size w w' := by
  have hM := hL.le
  unfold maxLen at hM
  have HA := al1 w (.cells #[.int .i64 W, .int .i64 H, .slice s n c] 24)
  have HP := hide (hL.below HA.below)
  have hHA := hide HA
  obtain ⟨B, hB⟩ : ∃ B, B = w.heap.size := ⟨_, rfl⟩
  clear HA hL
  go_enter Tryd.func19, Tryd.ntmps19
  go_wp2
  generalize w.alloc (.cells #[.int .i64 W, .int .i64 H, .slice s n c] 24) = w1 at *
  obtain ⟨hs1, k0, hb1⟩ := unhide hHA
  have HB := hide hb1
  rw [← hB] at k0 ⊢
  have e2 : w1.cell? ⟨B, 2, none⟩ = some (.slice s n c) := by rw [blk_cell k0]; rfl
  have hlB := blk_lt k0
  clear hHA k0 hb1 hs1 hB
  go_loop [5] (fun iv => ∃ i : Nat, i ≤ n ∧ iv = .int .i64 (i : Int) ∧ Hid (¬ Hs L i t)) (fun iv => n - (intOf iv).toNat)
  case atStart => exact ⟨0, by omega, rfl, hs_zero L t⟩
  case round =>
    obtain ⟨i, hi, rfl, HK⟩ := hrel
    by_cases hlt : i < n
    · have g1 : decide ((i : Int) < (n : Int)) = true := decide_eq_true (by omega)
      have g1n : decide (i < n) = true := decide_eq_true hlt
      obtain ⟨r, hr⟩ : ∃ r : Bool, r = true ↔ (L i).name = t := ⟨@decide _ (Classical.propDecidable _), @decide_eq_true_iff _ (Classical.propDecidable _)⟩
      obtain ⟨b, off, rfl, hm, hc⟩ := (unhide HP).row.resolve_left (by omega)
      have c0 := (hc i hlt).c0
      have ha1 : (i : Int) < (n : Int) := by omega
      have hq := str_eq _ _ _ hr
      clear hc hm
      have HR := hide hr
      clear hr
      rcases r with _ | _
      · have HK1 : Hid (¬ Hs L (i + 1) t) := hs_no (unhide HK) (fun q => by simpa using (unhide HR).2 q)
        go_wp2
        go_round
        case rel => exact ⟨i + 1, by omega, by go_num, HK1⟩
        case measure => simp [intOf]; omega
      · have HN : Hid (Fst L n t (i : Int)) := .inr ⟨i, hlt, rfl, (unhide HR).1 rfl, unhide HK⟩
        go_wp2
        go_ret
        exact ⟨⟨_, rfl, unhide HN⟩, unhide HB⟩
    · obtain rfl : i = n := by omega
      have g1 : decide ((i : Int) < (i : Int)) = false := by simp
      go_wp2
      go_ret
      exact ⟨⟨_, rfl, .inl ⟨rfl, unhide HK⟩⟩, unhide HB⟩
end Go.Proofs.YtkdckcengmkhhajDoor
namespace Go.Proofs.YtkdckcengmkhhajDoor
open Go.RowKit

/-- The cells of the first pixels. -/
def pxVals (p : Nat → Px) : Nat → List Value
  | 0 => []
  | i + 1 => pxVals p i ++ (p i).cells
theorem pxVals_length (p : Nat → Px) (n : Nat) : (pxVals p n).length = n * 4 := by
  induction n with
  | zero => rfl
  | succ n ih => simp [pxVals, ih, Px.cells]; omega
theorem pxVals_at (p : Nat → Px) (n i j : Nat) (h : i < n) (hj : j < 4) : (pxVals p n)[i * 4 + j]? = (p i).cells[j]? := by
  induction n with
  | zero => omega
  | succ n ih =>
    have hl := pxVals_length p n
    unfold pxVals
    by_cases e : i = n
    · subst e
      rw [List.getElem?_append_right (by omega), show i * 4 + j - (pxVals p i).length = j by omega]
    · rw [List.getElem?_append_left (by omega)]
      exact ih (by omega)
theorem pxVals_congr {p q : Nat → Px} (n : Nat) (h : ∀ i, i < n → p i = q i) : pxVals p n = pxVals q n := by
  induction n with
  | zero => rfl
  | succ n ih => unfold pxVals; rw [ih (fun i hi => h i (by omega)), h n (by omega)]
theorem pxVals_one {p : Nat → Px} {n : Nat} {u : Value} (h : u ∈ pxVals p n) : u.oneCell' = true := by
  induction n with
  | zero => simp [pxVals] at h
  | succ n ih =>
    unfold pxVals at h
    rcases List.mem_append.1 h with h | h
    · exact ih h
    · simp only [Px.cells, List.mem_cons, List.not_mem_nil, or_false] at h
      rcases h with rfl | rfl | rfl | rfl <;> rfl
/-- A row of pixels of a call's own. -/
theorem own_px {w : World} {base n cap : Nat} {a : Option Addr} {p : Nat → Px} (h : w.ownsRow base 42 4 (.slice a n cap) n (pxVals p n)) (hn : n ≤ maxLen) : IsPx w a n p := by
  by_cases h0 : n = 0
  · exact .inl h0
  rcases h.2 with ⟨_, q⟩ | ⟨g, cap', cur, hv, _⟩
  · exact absurd q h0
  · injection hv with hv _ _
    subst hv
    refine .inr ⟨g, 0, rfl, hn, fun i hi => ?_⟩
    have hc : ∀ j, j < 4 → w.cell? ⟨g, 0 + i * 4 + j, none⟩ = (p i).cells[j]? := fun j hj => by
      rw [Nat.zero_add, h.cellAt (i * 4 + j) (by omega)]
      exact pxVals_at p n i j hi hj
    exact ⟨hc 0 (by omega), hc 1 (by omega), hc 2 (by omega), hc 3 (by omega)⟩
theorem px_info : (Tryd.prog.info? 42).map (fun i => (i.zero, i.size, i.bytes)) = some (some (.agg #[.int .u8 0, .int .u8 0, .int .u8 0, .int .u8 0]), 4, 4) := by kernel_rfl
/-- The cells of pixels that lie there. -/
theorem px_lies {w : World} {b off n : Nat} {p : Nat → Px} (h : ∀ i, i < n → PxAt w b (off + i * 4) (p i)) : ∀ j u, (pxVals p n)[j]? = some u → w.cell? ((⟨b, off, none⟩ : Addr).add j) = some u := fun j u hj => by
  have hjl : j < n * 4 := by
    rcases Nat.lt_or_ge j (n * 4) with q | q
    · exact q
    · rw [List.getElem?_eq_none (by rw [pxVals_length]; exact q)] at hj; cases hj
  have hadd : (⟨b, off, none⟩ : Addr).add j = ⟨b, off + j, none⟩ := by unfold Addr.add; split <;> simp_all
  rw [hadd, ← hj]
  have e := pxVals_at p n (j / 4) (j % 4) (by omega) (by omega)
  rw [show j / 4 * 4 + j % 4 = j by omega] at e
  rw [e]
  have hc := h (j / 4) (by omega)
  rcases (show j % 4 = 0 ∨ j % 4 = 1 ∨ j % 4 = 2 ∨ j % 4 = 3 by omega) with q | q | q | q
  · rw [q, show off + j = off + j / 4 * 4 by omega]; exact hc.r
  · rw [q, show off + j = off + j / 4 * 4 + 1 by omega]; exact hc.g
  · rw [q, show off + j = off + j / 4 * 4 + 2 by omega]; exact hc.b
  · rw [q, show off + j = off + j / 4 * 4 + 3 by omega]; exact hc.a
theorem px_none (w : World) (ao : Option Addr) (cap : Nat) : (Builtin.append_ #[30, 30] 30 #[.slice none 0 0, .slice ao 0 cap]).run Tryd.prog w = .ok (.slice none 0 0) w := by
  cases ao <;> kernel_rfl
/-- A copy of pixels: append to nothing. -/
theorem app_px (w : World) (a : Option Addr) (n c : Nat) (q : Nat → Px) (hP : IsPx w a n q) (hn : n ≤ 100000) :
    ∃ a' c' w', (Builtin.append_ #[30, 30] 30 #[.slice none 0 0, .slice a n c]).run Tryd.prog w = .ok (.slice a' n c') w' ∧ IsPx w' a' n q ∧ Below w.heap.size w w' := by
  obtain ⟨i0, hi, hz0, hz1, hz2⟩ := info_parts px_info
  by_cases h0 : n = 0
  · subst h0
    exact ⟨none, 0, w, px_none w a c, .inl rfl, Below.refl _ _⟩
  · obtain ⟨b, off, rfl, hm, hc⟩ := hP.resolve_left h0
    obtain ⟨g, cap, w', hr, hown, hgr, _, _⟩ := run_append_lies (P := Tryd.prog) w 30 30 w.heap.size 42 i0 (.agg #[.int .u8 0, .int .u8 0, .int .u8 0, .int .u8 0]) 4 4 Tryd.underlying30 hi hz0 hz1 hz2 rfl (by omega) (.slice none 0 0) 0 [] (World.ownsRow_nil _ _ _ _) ⟨b, off, none⟩ n c (pxVals q n) (pxVals_length q n) (px_lies hc) (fun u hu => pxVals_one hu) (by omega) (by unfold maxLen; omega) (by omega) (Nat.le_refl _) _ rfl
    rw [Nat.zero_add] at hr hown
    exact ⟨_, _, w', hr, own_px hown hm, (Below.refl _ _).grown hgr (Nat.le_refl _) (fun k e => by simp [Value.ownBlock] at e)⟩
theorem wpList_appPx (w : World) {ops : Array Oper} {rest : List Oper} {o : Oper} {a : Act} {Q : Exit → Act → World → Prop} (hgd : o.guard = none) (s x : Operand)
    (ho : o.op = .call { callee := .builtin .append, args := #[s, x], argTypes := #[30, 30] }) (hty : o.type = 30) (ao : Option Addr) (n c : Nat) (q : Nat → Px) (hs : a.eval s = .slice none 0 0) (hx : a.eval x = .slice ao n c) (hP : IsPx w ao n q) (hn : n ≤ 100000)
    (h : ∀ a' c' w', IsPx w' a' n q → Below w.heap.size w w' → wpList Tryd.prog ops Q rest (a.put o.dst (.slice a' n c')) w') : wpList Tryd.prog ops Q (o :: rest) a w := by
  obtain ⟨a', c', w', h1, h2, h3⟩ := app_px w ao n c q hP hn
  refine wpList_plain hgd fun _ hK => ?_
  unfold Oper.wp execOp
  simp only [ho, hty, resolve, invoke, builtin, Sem.run_bind, Sem.run_pure, Result.andThen_ok, List.map_toArray, List.map_cons, List.map_nil, hs, hx, h1]
  exact hK _ _ (h a' c' w' h2 h3)
end Go.Proofs.YtkdckcengmkhhajDoor
