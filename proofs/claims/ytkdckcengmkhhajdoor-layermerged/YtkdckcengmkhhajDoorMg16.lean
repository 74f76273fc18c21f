/- A document of layers that came in. Some of the project's errors, where no type's handle is listed. -/
import Derived.Test.YtkdckcengmkhhajDoorMg10
import Derived.Test.YtkdckcengmkhhajDoorMg1
import Derived.SizedLaws
import Derived.Deep.SlicePairs
import Derived.Test.YtkdckcengmkhhajDoorCode
namespace Go.Proofs.YtkdckcengmkhhajDoor
open Go.ChangeShapes Go.WideShapes Go.RowKit Go.Deep

theorem all_memL {H : Type} {P : Program} {e : TypeId} : ∀ {l : List (DataW H)} {d : DataW H}, d ∈ l → ∀ n ∈ d.weights P e, n ∈ DataW.weightsAll P e l
  | x :: l, d, h, n, hn => by
    simp only [DataW.weightsAll, List.mem_append]
    rcases List.mem_cons.1 h with rfl | h
    · exact .inl hn
    · exact .inr (all_memL h n hn)
theorem reach47L : reachBytes ≤ 140737488355328 := Nat.le_of_lt reachBytes_lt

/-- Pixels that came in are not too many. -/
theorem open_px_few {H : Type} {enc : TypeId × Value → H} {w : World} {base : Nat} {spare : Nat → Bool} {held : Bool} {fuel : Nat} {a : Option Addr} {len cap : Nat} {x : DataW H × List MemPlace}
    (h : DataW.trod enc Tryd.prog w base spare held fuel 30 [.slice a len cap] = some x) (hwt : ∀ n ∈ x.1.weights Tryd.prog 30, n ≤ reachBytes) : len ≤ 140737488355328 := by
  rcases open_slice Tryd.underlying30 h with ⟨hcs, _⟩ | ⟨ad, l, c, m, n, D, Pl, hcs, _, hl, hm, hmm, hx, _⟩
  · simp at hcs; omega
  · simp at hcs
    obtain ⟨_, rfl, rfl⟩ := hcs
    have hb : Tryd.prog.bytesOf 42 = 4 := by kernel_rfl
    have h1 := hwt (len * 4 + (m - len) * 4) (by
      rw [hx]
      simp only [DataW.weights, Tryd.underlying30, List.mem_cons, hb, List.length_map, List.length_range]
      exact .inl (by omega))
    have := reach47L
    omega
theorem nine_list {α : Type} (l : List α) (h : l.length = 9) : ∃ a b c d e f g i j, l = [a, b, c, d, e, f, g, i, j] :=
  match l, h with
  | [a, b, c, d, e, f, g, i, j], _ => ⟨a, b, c, d, e, f, g, i, j, rfl⟩
theorem ly_cells : Tryd.prog.cellsOf 58 = 9 := by kernel_rfl
theorem cells_i : Tryd.prog.cellsOf 3 = 1 := by kernel_rfl
theorem cells_s : Tryd.prog.cellsOf 9 = 1 := by kernel_rfl
theorem cells_b : Tryd.prog.cellsOf 4 = 1 := by kernel_rfl
theorem cells_p : Tryd.prog.cellsOf 32 = 3 := by kernel_rfl
theorem cells_ps : Tryd.prog.cellsOf 30 = 1 := by kernel_rfl

set_option maxRecDepth 100000 in
set_option maxHeartbeats 2000000 in
/-- A layer that came in. -/
theorem open_layer {H : Type} {enc : TypeId × Value → H} {w : World} {base : Nat} {spare : Nat → Bool} {held : Bool} {fuel : Nat} {cs : List Value} {x : DataW H × List MemPlace}
    (h : DataW.trod enc Tryd.prog w base spare held fuel 58 cs = some x) :
    ∃ (l : Ly) (a : Option Addr) (c : Nat), cs = l.cells a c ∧ IsPx w a l.n l.q ∧ ((∀ n ∈ x.1.weights Tryd.prog 58, n ≤ reachBytes) → l.n ≤ 140737488355328) := by
  obtain ⟨xs, n, _, rfl, hl, hlen, hf⟩ := DataW.trod_struct Tryd.underlying58 h
  rw [ly_cells] at hl
  obtain ⟨v0, v1, v2, v3, v4, v5, v6, v7, v8, rfl⟩ := nine_list cs hl
  match xs, hlen with
  | [y0, y1, y2, y3, y4, y5, y6], _ =>
    have g0 := hf 0 _ rfl
    have g1 := hf 1 _ rfl
    have g2 := hf 2 _ rfl
    have g3 := hf 3 _ rfl
    have g4 := hf 4 _ rfl
    have g5 := hf 5 _ rfl
    have g6 := hf 6 _ rfl
    simp [cells_i, cells_s, cells_b, cells_p] at g0 g1 g2 g3 g4 g5 g6
    obtain ⟨s0, e0, _, _⟩ := DataW.trod_string Tryd.underlying9 g0
    obtain ⟨n1, e1, _, _⟩ := DataW.trod_int Tryd.underlying3 g1
    obtain ⟨n2, e2, _, _⟩ := DataW.trod_int Tryd.underlying3 g2
    obtain ⟨b3, e3, _⟩ := DataW.trod_bool Tryd.underlying4 g3
    obtain ⟨n4, e4, _, _⟩ := DataW.trod_int Tryd.underlying3 g4
    obtain ⟨n5, e5, _, _⟩ := DataW.trod_int Tryd.underlying3 g5
    obtain ⟨z0, z1, z2, k, hz, _, j0, j1, j2⟩ := trod_struct3 Tryd.underlying32 g6
    simp [cells_i, cells_ps] at j0 j1 j2
    obtain ⟨n6, e6, _, _⟩ := DataW.trod_int Tryd.underlying3 j0
    obtain ⟨n7, e7, _, _⟩ := DataW.trod_int Tryd.underlying3 j1
    have hsl : ∃ a len cap, v8 = .slice a len cap := by
      rcases open_slice Tryd.underlying30 j2 with ⟨hcs, _⟩ | ⟨x, l, c, m, n, D, Pl, hcs, _⟩
      · simp at hcs
        exact ⟨_, _, _, hcs⟩
      · simp at hcs
        exact ⟨_, _, _, hcs⟩
    obtain ⟨a, len, cap, rfl⟩ := hsl
    obtain ⟨q, hq⟩ := open_px j2
    simp only [List.cons.injEq, and_true] at e0 e1 e2 e3 e4 e5 e6 e7
    subst e0 e1 e2 e3 e4 e5 e6 e7
    refine ⟨⟨s0, n1, n2, b3, n4, n5, n6, n7, len, q⟩, a, cap, rfl, hq, fun hw => ?_⟩
    refine open_px_few j2 (fun m hm => hw m ?_)
    simp only [List.map_cons, List.map_nil, DataW.weights, Tryd.underlying58, DataW.weightsEach, List.mem_append, hz, Tryd.underlying32]
    simp [hm]

set_option maxRecDepth 100000 in
set_option maxHeartbeats 2000000 in
/-- Layers that came in. -/
theorem open_layers {H : Type} {enc : TypeId × Value → H} {w : World} {base : Nat} {spare : Nat → Bool} {held : Bool} {fuel : Nat} {s : Option Addr} {len cap : Nat} {x : DataW H × List MemPlace}
    (h : DataW.trod enc Tryd.prog w base spare held fuel 22 [.slice s len cap] = some x) (hwt : ∀ n ∈ x.1.weights Tryd.prog 22, n ≤ reachBytes) :
    ∃ (L : Nat → Ly) (a : Nat → Option Addr) (c : Nat → Nat), IsLy w s len L a c ∧ ∀ i, i < len → (L i).n ≤ 140737488355328 := by
  rcases open_slice Tryd.underlying22 h with ⟨hcs, _⟩ | ⟨ad, l, c, m, n, D, Pl, hcs, _, hl, hm, hmm, hx, hel⟩
  · simp at hcs
    exact ⟨fun _ => default, fun _ => none, fun _ => 0, ⟨.inl hcs.2.1, fun i hi => by omega⟩, fun i hi => by omega⟩
  simp at hcs
  obtain ⟨rfl, rfl, rfl⟩ := hcs
  have hlm : len ≤ m := by rw [hmm]; split <;> omega
  by_cases h0 : len = 0
  · exact ⟨fun _ => default, fun _ => none, fun _ => 0, ⟨.inl h0, fun i hi => by omega⟩, fun i hi => by omega⟩
  have each : ∀ i, i < len → ∃ r : Ly × Option Addr × Nat, (∀ j, j < 9 → w.cell? (ad.add (i * 9 + j)) = (r.1.cells r.2.1 r.2.2)[j]?) ∧ IsPx w r.2.1 r.1.n r.1.q ∧ r.1.n ≤ 140737488355328 := by
    intro i hi
    obtain ⟨cs', h1, h2⟩ := hel i (by omega)
    rw [ly_cells] at h1
    obtain ⟨_, hlen, hcell⟩ := World.cells?_some h1
    obtain ⟨l, a, c, rfl, hp, hw⟩ := open_layer h2
    refine ⟨(l, a, c), fun j hj => ?_, hp, hw (fun k hk => hwt k ?_)⟩
    · have k0 := hcell j (by omega)
      rw [add_add] at k0
      rw [k0, List.getElem?_eq_getElem (by omega)]
    · rw [hx]
      simp only [DataW.weights, Tryd.underlying22, List.mem_cons, List.mem_append]
      exact .inr (.inl (all_memL (List.mem_map.2 ⟨i, List.mem_range.2 hi, rfl⟩) k hk))
  obtain ⟨r, hr⟩ := choose_lt each
  obtain ⟨b, off, spot⟩ := ad
  have hspot : spot = none := by
    have := (hr 0 (by omega)).1 0 (by omega)
    simpa [Addr.add, Ly.cells] using World.cell?_spot (v := .string (r 0).1.name) (by simpa [Addr.add, Ly.cells] using this)
  subst hspot
  have hadd : ∀ j, (⟨b, off, none⟩ : Addr).add j = ⟨b, off + j, none⟩ := fun j => by unfold Addr.add; split <;> simp_all
  refine ⟨fun i => (r i).1, fun i => (r i).2.1, fun i => (r i).2.2, ⟨.inr ⟨b, off, rfl, by omega, fun i hi => ?_⟩, fun i hi => (hr i hi).2.1⟩, fun i hi => (hr i hi).2.2⟩
  have hc : ∀ j, j < 9 → w.cell? ⟨b, off + i * 9 + j, none⟩ = ((r i).1.cells (r i).2.1 (r i).2.2)[j]? := fun j hj => by
    have := (hr i hi).1 j hj
    rw [hadd, ← Nat.add_assoc] at this
    exact this
  exact ⟨hc 0 (by omega), hc 1 (by omega), hc 2 (by omega), hc 3 (by omega), hc 4 (by omega), hc 5 (by omega), hc 6 (by omega), hc 7 (by omega), hc 8 (by omega)⟩

set_option maxRecDepth 100000 in
/-- A document that came in. -/
theorem open_doc {H : Type} {enc : TypeId × Value → H} {w : World} {base b0 : Nat} {spare : Nat → Bool} {held : Bool} {r : Reach} {v : Value} {d : DataW H} {p : List MemPlace}
    (hv : Value.okWide Tryd.prog w r b0 24 v) (h : DataW.Trod enc Tryd.prog w base spare held 24 v d p) (hwt : ∀ n ∈ d.weights Tryd.prog 24, n ≤ reachBytes) :
    ∃ (W Hh : Int) (s : Option Addr) (len cap : Nat) (L : Nat → Ly) (a : Nat → Option Addr) (c : Nat → Nat), v = .agg #[.int .i64 W, .int .i64 Hh, .slice s len cap] ∧ IsLy w s len L a c ∧ ∀ i, i < len → (L i).n ≤ 140737488355328 := by
  obtain ⟨v0, v1, v2, y0, y1, y2, n, rfl, rfl, rfl, h0, h1, h2⟩ := Joins.open_agg3 Tryd.underlying24 (by kernel_rfl) (by kernel_rfl) hv h
  obtain ⟨n0, e0, _, _⟩ := DataW.trod_int Tryd.underlying3 h0
  obtain ⟨n1, e1, _, _⟩ := DataW.trod_int Tryd.underlying3 h1
  simp at e0 e1
  subst e0 e1
  have hsl : ∃ a len cap, v2 = .slice a len cap := by
    rcases open_slice Tryd.underlying22 h2 with ⟨hcs, _⟩ | ⟨x, l, c, m, n, D, Pl, hcs, _⟩
    · simp at hcs
      exact ⟨_, _, _, hcs⟩
    · simp at hcs
      exact ⟨_, _, _, hcs⟩
  obtain ⟨s, len, cap, rfl⟩ := hsl
  obtain ⟨L, a, c, hL, hZ⟩ := open_layers h2 (fun k hk => hwt k (by
    simp only [DataW.weights, Tryd.underlying24]
    simp [DataW.weightsEach, hk]))
  exact ⟨n0, n1, s, len, cap, L, a, c, rfl, hL, hZ⟩
end Go.Proofs.YtkdckcengmkhhajDoor
namespace Go.Proofs.YtkdckcengmkhhajDoor
open Go.RowKit

/-- The variables of these errors hold errors of errors.New's make. -/
def Told (w : World) (l : List Nat) (a : Nat → Addr) : Prop := ∀ i, i ∈ l → w.cell? ⟨sentAt i, 0, none⟩ = some (sentV a i)

theorem Told.below {w w' : World} {l : List Nat} {a : Nat → Addr} (h : Told w l a) (hb : Below w.heap.size w w') : Told w' l a := fun i hi => by
  rw [hb.cell (cell_block (h i hi))]; exact h i hi
end Go.Proofs.YtkdckcengmkhhajDoor
