/- All layers replaced by one: slices.Replace. A layer removed: the closures: the program's. -/
import Derived.Test.YtkdckcengmkhhajDoorLyH
import Derived.Lib.AppendZeros
import Derived.Deep.AppendSrc
namespace Go.Proofs.YtkdckcengmkhhajDoor
open Go.RowKit

/-- Layers that are nothing. -/
def zl9s (n : Nat) : List Value := (Builtin.zeroCells #[.string ⟨#[]⟩, .int .i64 0, .int .i64 0, .bool false, .int .i64 0, .int .i64 0, .int .i64 0, .int .i64 0, .slice none 0 0] n).toList
theorem zl9s_length (n : Nat) : (zl9s n).length = n * 9 := by
  unfold zl9s
  rw [Array.length_toList, size_zeroCells]
  rfl
theorem zl9s_one (n : Nat) : ∀ u ∈ zl9s n, u.oneCell' = true := fun u hu => by
  unfold zl9s Builtin.zeroCells at hu
  rw [Array.toList_map] at hu
  obtain ⟨i, _, rfl⟩ := List.mem_map.1 hu
  show ((#[Value.string ⟨#[]⟩, .int .i64 0, .int .i64 0, .bool false, .int .i64 0, .int .i64 0, .int .i64 0, .int .i64 0, .slice none 0 0] : Array Value)[i % 9]!).oneCell' = true
  rcases (show i % 9 = 0 ∨ i % 9 = 1 ∨ i % 9 = 2 ∨ i % 9 = 3 ∨ i % 9 = 4 ∨ i % 9 = 5 ∨ i % 9 = 6 ∨ i % 9 = 7 ∨ i % 9 = 8 by omega) with z | z | z | z | z | z | z | z | z <;> rw [z] <;> rfl
theorem run_clear9s (w : World) (ty : TypeId) (b o n c : Nat) (hc : ∀ j, j < (n + 1) * 9 → (w.cell? ⟨b, o + j, none⟩).isSome = true) (hf : ∀ j, j < (n + 1) * 9 → w.frozen? ⟨b, o + j, none⟩ = false) :
    (Builtin.clear_ #[37] ty #[.slice (some ⟨b, o, none⟩) (n + 1) c]).run Tryd.prog w = .ok (.tuple #[]) (w.setCells b o (zl9s (n + 1))) := by
  have hzc : (Value.agg #[.string ⟨#[]⟩, .int .i64 0, .int .i64 0, .bool false, .int .i64 0, .int .i64 0, .int .i64 0, .int .i64 0, .slice none 0 0]).cells = #[.string ⟨#[]⟩, .int .i64 0, .int .i64 0, .bool false, .int .i64 0, .int .i64 0, .int .i64 0, .int .i64 0, .slice none 0 0] := by kernel_rfl
  have hst := run_storeCells_cells (P := Tryd.prog) b o (zl9s (n + 1)) 0 w (fun j hj => by rw [zl9s_length] at hj; rw [Nat.add_zero]; exact hc j hj) (fun j hj => by rw [zl9s_length] at hj; rw [Nat.add_zero]; exact hf j hj) (zl9s_one (n + 1))
  simp only [Nat.add_zero] at hst
  unfold zl9s at hst ⊢
  simp [Builtin.clear_, run_underlying Tryd.underlying37, Tryd.zeroValue54, hzc, hst]

set_option maxHeartbeats 4000000 in
set_option maxRecDepth 100000 in
theorem replace_top (g n cap b : Nat) (xs : List Value) (l : Ly) (al : Option Addr) (cl : Nat) (w : World) (hR : Row9 w g (n + 1) cap 54 xs) (hb : w.heap[b]? = some (.cells (l.cells al cl).toArray 54)) (hn : n ≤ 1000) (hcap : cap ≤ maxLen) :
    Calls Tryd.prog 50 #[.slice (some ⟨g, 0, none⟩) (n + 1) cap, .int .i64 0, .int .i64 ((n + 1 : Nat) : Int), .slice (some ⟨b, 0, none⟩) 1 1] w fun e w' => e = .returned (.slice (some ⟨g, 0, none⟩) 1 cap) ∧ Row9 w' g 1 cap 54 (l.cells al cl) ∧ (∀ k, k ≠ g → w'.heap[k]? = w.heap[k]?) ∧ w'.heap.size = w.heap.size ∧ Below g w w' := by
  obtain ⟨i0, hi, hz0, hz1, hz2⟩ := info_parts ly_info
  have hle := hR.le
  have hl9 : (l.cells al cl).length = 9 := rfl
  have hone : ∀ u ∈ l.cells al cl, u.oneCell' = true := fun u hu => by
    simp only [Ly.cells, List.mem_cons, List.not_mem_nil, or_false] at hu
    rcases hu with rfl | rfl | rfl | rfl | rfl | rfl | rfl | rfl | rfl <;> rfl
  have hsrc : Src Tryd.prog i0.size 37 (.slice (some ⟨b, 0, none⟩) 1 1) 1 (l.cells al cl) w := by
    rw [hz1]
    refine Src.ofSlice (P := Tryd.prog) w Tryd.underlying37 ⟨b, 0, none⟩ 1 1 (l.cells al cl) (by rw [hl9]) (fun j u hj => ?_) hone
    have hadd : (⟨b, 0, none⟩ : Addr).add j = ⟨b, j, none⟩ := by unfold Addr.add; split <;> simp_all
    rw [hadd, blk_cell hb]
    simpa using hj
  have hr := run_append_room_src (P := Tryd.prog) w 37 37 37 54 i0 Tryd.underlying37 hi g 0 0 cap _ 1 (l.cells al cl) hsrc (by omega) (fun j hj => by rw [hl9] at hj; rw [Nat.zero_mul, Nat.zero_add]; exact (hR.there j (by omega)).1) (fun j hj => by rw [hl9] at hj; rw [Nat.zero_mul, Nat.zero_add]; exact (hR.there j (by omega)).2)
  rw [Nat.zero_mul, Nat.zero_add] at hr
  obtain ⟨cur, hc, hsz, _⟩ := hR.ex
  obtain ⟨cur1, hc1, hs1, hx1⟩ := setCells_row g (l.cells al cl) 0 w cur hc
  have hf1 : ∀ b, b ≠ g → (w.setCells g 0 (l.cells al cl)).heap[b]? = w.heap[b]? := fun b h => setCells_far g b h _ 0 w
  have hq1 : (w.setCells g 0 (l.cells al cl)).heap.size = w.heap.size := setCells_size g _ 0 w
  have HB1 := hide (below_setCells (Nat.le_refl g) (l.cells al cl) 0 w (Below.refl g w))
  have Hr := hide hr
  have HF1 := hide hf1
  have HQ1 := hide hq1
  have HC1 := hide hc1
  have HX1 := hide hx1
  have d0 : ((0 : Int) == ((n + 1 : Nat) : Int)) = false := by simp; omega
  generalize w.setCells g 0 (l.cells al cl) = w1 at *
  have hR1 : Row9 w1 g 1 cap 54 (l.cells al cl) := ⟨⟨cur1, hc1, by rw [hs1, hsz], fun j hj => by rw [hx1 j (by omega), if_pos ⟨Nat.zero_le _, by rw [hl9]; omega⟩, Nat.sub_zero]⟩, hl9, by omega⟩
  have HR1 := hide hR1
  unfold maxLen at hcap
  clear hR hb hi hz0 hz1 hz2 hsrc hr hc hc1 hf1 hq1 hx1 hR1 hone
  by_cases h0 : n = 0
  · subst h0
    go_enter Tryd.func50, Tryd.ntmps50
    go_wp2_with (at_builtin; refine Lib.wpList_append_run _ rfl (.tmp 32) (.tmp 33) 37 37 rfl _ _ rfl rfl _ _ (unhide Hr) ?_)
    go_wp2
    go_ret
    exact ⟨rfl, unhide HR1, unhide HF1, unhide HQ1, unhide HB1⟩
  · obtain ⟨m, rfl⟩ : ∃ m, n = m + 1 := ⟨n - 1, by omega⟩
    have hclr := run_clear9s w1 0 g 9 m (cap - 1) (fun j hj => by rw [blk_cell (unhide HC1), Array.getElem?_eq_getElem (by omega)]; rfl) (fun j _ => blk_frozen (unhide HC1) _)
    obtain ⟨cur2, hc2, hs2, hx2⟩ := setCells_row g (zl9s (m + 1)) 9 w1 cur1 (unhide HC1)
    have hf2 : ∀ b, b ≠ g → (w1.setCells g 9 (zl9s (m + 1))).heap[b]? = w.heap[b]? := fun b h => (setCells_far g b h _ 9 w1).trans (unhide HF1 b h)
    have hq2 : (w1.setCells g 9 (zl9s (m + 1))).heap.size = w.heap.size := (setCells_size g _ 9 w1).trans (unhide HQ1)
    have hR2 : Row9 (w1.setCells g 9 (zl9s (m + 1))) g 1 cap 54 (l.cells al cl) := by
      refine ⟨⟨cur2, hc2, by rw [hs2, hs1, hsz], fun j hj => ?_⟩, hl9, by omega⟩
      rw [hx2 j (by omega), if_neg (by omega), unhide HX1 j (by omega), if_pos ⟨Nat.zero_le _, by rw [hl9]; omega⟩, Nat.sub_zero]
    have HB2 := hide (below_setCells (Nat.le_refl g) (zl9s (m + 1)) 9 w1 (unhide HB1))
    have HR2 := hide hR2
    have HF2 := hide hf2
    have HQ2 := hide hq2
    generalize w1.setCells g 9 (zl9s (m + 1)) = w2 at *
    have d1 : decide ((1 : Int) < ((m + 1 + 1 : Nat) : Int)) = true := decide_eq_true (by omega)
    have c1 : ¬ cap = 1 := by omega
    clear hR2 hf2 hq2 hc2 hx2 hs2 HB1 HF1 HQ1 HC1 HX1 HR1
    go_enter Tryd.func50, Tryd.ntmps50
    go_wp2_with (at_builtin; refine Lib.wpList_append_run _ rfl (.tmp 32) (.tmp 33) 37 37 rfl _ _ rfl rfl _ _ (unhide Hr) ?_)
    go_wp2
    go_ret
    exact ⟨rfl, unhide HR2, unhide HF2, unhide HQ2, unhide HB2⟩
end Go.Proofs.YtkdckcengmkhhajDoor
namespace Go.Proofs.YtkdckcengmkhhajDoor
open Go.RowKit

set_option maxHeartbeats 1000000 in
theorem remove1_any (g n cap k : Nat) (L : Nat → Ly) (a : Nat → Option Addr) (c : Nat → Nat) (w : World) (hR : Row9 w g (n + 1) cap 54 (lyVals L a c (n + 1))) (hk : k ≤ n) (hn : n ≤ 1000) (hcap : cap ≤ maxLen) :
    Calls Tryd.prog 47 #[.slice (some ⟨g, 0, none⟩) (n + 1) cap, .int .i64 (k : Int)] w fun e w' => e = .returned (.tuple #[.slice (some ⟨g, 0, none⟩) n cap, .nilIface]) ∧ Row9 w' g n cap 54 (lyVals (rmL L k) (rmL a k) (rmL c k) n) ∧ (∀ b, b ≠ g → w'.heap[b]? = w.heap[b]?) ∧ w'.heap.size = w.heap.size ∧ Below g w w' := by
  have HD := hide (delete_any g n cap k L a c w hR hk hn hcap)
  have hw1 : IntKind.i64.wrap ((k : Int) + 1) = ((k + 1 : Nat) : Int) := by rw [IntKind.wrap_i64]; omega
  clear hR hcap
  go_enter Tryd.func47, Tryd.ntmps47
  go_wp2_with fail
  refine (unhide HD).mono ?_
  rintro e w1 ⟨rfl, h1, h2, h3, h4⟩
  have H1 := hide h1
  have H2 := hide h2
  have H3 := hide h3
  have H4 := hide h4
  clear h1 h2 h3 h4 HD
  go_wp2
  go_ret2
  exact ⟨rfl, unhide H1, unhide H2, unhide H3, unhide H4⟩

set_option maxHeartbeats 1000000 in
set_option maxRecDepth 100000 in
theorem changedAt1_remove (g n cap k p q : Nat) (t : ByteArray) (L : Nat → Ly) (a : Nat → Option Addr) (c : Nat → Nat) (w : World) (hR : Row9 w g (n + 1) cap 54 (lyVals L a c (n + 1))) (hX : ∀ i, i < n + 1 → IsPx w (a i) (L i).n (L i).q) (hk : k ≤ n) (hn : n ≤ 1000) (hcap : cap ≤ maxLen) (hF : Fst L (n + 1) t (k : Int)) (hp : w.cell? ⟨p, 0, none⟩ = some (.string t)) (hq : w.cell? ⟨q, 0, none⟩ = some (.func (.func 47) #[] #[])) :
    Calls Tryd.prog 70 #[.slice (some ⟨g, 0, none⟩) (n + 1) cap, .pointer (some ⟨p, 0, none⟩), .pointer (some ⟨q, 0, none⟩)] w fun e w' => e = .returned (.tuple #[.slice (some ⟨g, 0, none⟩) n cap, .nilIface]) ∧ Row9 w' g n cap 54 (lyVals (rmL L k) (rmL a k) (rmL c k) n) ∧ (∀ b, b ≠ g → b < w.heap.size → w'.heap[b]? = w.heap[b]?) ∧ Below g w w' := by
  have hown := row9_own (base := g) hR (Nat.le_refl g) hcap
  have hIs : IsLy w (some ⟨g, 0, none⟩) (n + 1) L a c := own_ly hown (by unfold maxLen; omega) hX
  have HN := hide (numberOf_any (some ⟨g, 0, none⟩) (n + 1) cap L a c t w hIs)
  have hgl : g < w.heap.size := by obtain ⟨cur, hc, _⟩ := hR.ex; exact blk_lt hc
  have HRm := hide (fun wr (hb : Below w.heap.size w wr) => remove1_any g n cap k L a c wr ⟨(by obtain ⟨cur, hc, h⟩ := hR.ex; exact ⟨cur, blk_below hc hb (blk_lt hc), h⟩), hR.len, hR.le⟩ hk hn hcap)
  have HF := hide hF
  have hpl := World.block_lt_of_cell? _ _ hp
  have hql := World.block_lt_of_cell? _ _ hq
  clear hR hX hcap hown hIs hF
  go_enter Tryd.func70, Tryd.ntmps70
  go_wp2_with fail
  refine (unhide HN).mono ?_
  rintro e w1 ⟨⟨z, rfl, hz⟩, hb1⟩
  obtain rfl := hz.unique (unhide HF)
  have d1 : decide ((k : Int) < 0) = false := decide_eq_false (by omega)
  have hq1 := (hb1.cell (p := ⟨q, 0, none⟩) hql).trans hq
  have HB1 := hide hb1
  have hs1 := hb1.size
  have hq1l : q < w1.heap.size := by omega
  clear HN hz hb1 hp hq HF
  go_wp2_with fail
  refine (unhide HRm w1 (unhide HB1)).mono ?_
  rintro e w2 ⟨rfl, h1, h2, h3, h4⟩
  have H1 := hide h1
  have H2 : Hid (∀ b, b ≠ g → b < w.heap.size → w2.heap[b]? = w.heap[b]?) := fun b hb hl => (h2 b hb).trans ((unhide HB1).block b hl)
  have H4 := hide (((unhide HB1).mono (Nat.le_of_lt hgl)).trans h4)
  clear h1 h2 h3 h4 HRm HB1
  go_wp2
  go_ret2
  exact ⟨rfl, unhide H1, unhide H2, unhide H4⟩
end Go.Proofs.YtkdckcengmkhhajDoor
