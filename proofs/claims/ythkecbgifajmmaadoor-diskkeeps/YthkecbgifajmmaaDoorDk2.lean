/- A disk: Sectors, Waiting, has; its power. -/
import Derived.Test.YthkecbgifajmmaaDoorDk1
import Derived.Test.YthkecbgifajmmaaDoorCode
namespace Go.Proofs.YthkecbgifajmmaaDoor
open Go.RowKit

theorem belowDk {B : Nat} {a w : World} {n : Nat} (h : Below B a w) : Below B a (w.drewN n) := below_drewN h n

theorem DP.cells {w : World} {q n g1 c1 g2 c2 : Nat} {sw : Option Addr} {cw : Nat} {z : Int} {D : DkS} (h : DP w q n g1 c1 g2 c2 sw cw z D) :
    w.cell? ⟨q, 0, none⟩ = some (.bool D.pw.isSome) ∧ w.cell? ⟨q, 1, none⟩ = some (.int .i64 (match D.pw with | none => z | some k => (k : Int))) ∧ w.cell? ⟨q, 2, none⟩ = some (.slice (some ⟨g1, 0, none⟩) n c1) ∧ w.cell? ⟨q, 3, none⟩ = some (.slice (some ⟨g2, 0, none⟩) n c2) ∧ w.cell? ⟨q, 4, none⟩ = some (.slice sw D.ws.length cw) ∧ (∀ j, w.frozen? ⟨q, j, none⟩ = false) ∧ q < w.heap.size :=
  ⟨by rw [blk_cell h.box]; rfl, by rw [blk_cell h.box]; rfl, by rw [blk_cell h.box]; rfl, by rw [blk_cell h.box]; rfl, by rw [blk_cell h.box]; rfl, fun j => blk_frozen h.box j, blk_lt h.box⟩

set_option maxHeartbeats 1000000 in
set_option maxRecDepth 100000 in
theorem dsectors_any (q n : Nat) (fp : List Nat) (D : DkS) (w : World) (h : DAt w q n fp D) :
    Calls Tryd.prog 20 #[.pointer (some ⟨q, 0, none⟩)] w fun e w' => e = .returned (.int .i64 (n : Int)) ∧ w' = w := by
  obtain ⟨g1, c1, g2, c2, sw, cw, z, rfl, hp⟩ := h
  obtain ⟨k0, k1, k2, k3, k4, kf, kq⟩ := hp.cells
  clear hp
  go_enter Tryd.func20, Tryd.ntmps20
  go_wp2
  go_ret
  exact ⟨rfl, rfl⟩

set_option maxHeartbeats 1000000 in
set_option maxRecDepth 100000 in
theorem dwaiting_any (q n : Nat) (fp : List Nat) (D : DkS) (w : World) (h : DAt w q n fp D) :
    Calls Tryd.prog 19 #[.pointer (some ⟨q, 0, none⟩)] w fun e w' => e = .returned (.int .i64 (D.ws.length : Int)) ∧ w' = w := by
  obtain ⟨g1, c1, g2, c2, sw, cw, z, rfl, hp⟩ := h
  obtain ⟨k0, k1, k2, k3, k4, kf, kq⟩ := hp.cells
  clear hp
  generalize D.ws.length = m at *
  go_enter Tryd.func19, Tryd.ntmps19
  go_wp2
  go_ret
  exact ⟨rfl, rfl⟩

set_option maxHeartbeats 1000000 in
set_option maxRecDepth 100000 in
theorem dhas_yes (q n i : Nat) (fp : List Nat) (D : DkS) (w : World) (h : DAt w q n fp D) (hi : i < n) :
    Calls Tryd.prog 27 #[.pointer (some ⟨q, 0, none⟩), .int .i64 (i : Int)] w fun e w' => e = .returned (.bool true) ∧ w' = w := by
  obtain ⟨g1, c1, g2, c2, sw, cw, z, rfl, hp⟩ := h
  obtain ⟨k0, k1, k2, k3, k4, kf, kq⟩ := hp.cells
  clear hp
  have d0 : decide ((i : Int) ≥ 0) = true := by simp
  have d1 : decide ((0 : Int) ≤ (i : Int)) = true := by simp
  have d2 : decide ((i : Int) < (n : Int)) = true := by simp; exact hi
  go_enter Tryd.func27, Tryd.ntmps27
  go_wp2
  go_ret
  exact ⟨rfl, rfl⟩

set_option maxHeartbeats 1000000 in
set_option maxRecDepth 100000 in
theorem dhas_no (q n : Nat) (i : Int) (fp : List Nat) (D : DkS) (w : World) (h : DAt w q n fp D) (hi : i < 0 ∨ (n : Int) ≤ i) :
    Calls Tryd.prog 27 #[.pointer (some ⟨q, 0, none⟩), .int .i64 i] w fun e w' => e = .returned (.bool false) ∧ w' = w := by
  obtain ⟨g1, c1, g2, c2, sw, cw, z, rfl, hp⟩ := h
  obtain ⟨k0, k1, k2, k3, k4, kf, kq⟩ := hp.cells
  clear hp
  have d : (decide (i ≥ 0) = false ∧ decide ((0 : Int) ≤ i) = false) ∨ (decide (i ≥ 0) = true ∧ decide ((0 : Int) ≤ i) = true ∧ decide (i < (n : Int)) = false) := by
    by_cases h : i < 0
    · exact .inl ⟨decide_eq_false (by omega), decide_eq_false (by omega)⟩
    · exact .inr ⟨decide_eq_true (by omega), decide_eq_true (by omega), decide_eq_false (by omega)⟩
  clear hi
  go_enter Tryd.func27, Tryd.ntmps27
  rcases d with ⟨d0, d1⟩ | ⟨d0, d1, d2⟩
  all_goals
    go_wp2
    go_ret
    exact ⟨rfl, rfl⟩

theorem DP.setPw {w : World} {q n g1 c1 g2 c2 : Nat} {sw : Option Addr} {cw : Nat} {z : Int} {D : DkS} (h : DP w q n g1 c1 g2 c2 sw cw z D) (k : Nat) (hk : k ≤ 9223372036854775807) (w' : World)
    (hw : w' = w.setCell ⟨q, 1, none⟩ (.int .i64 (k : Int)) ∧ D.pw.isSome = true ∨ w' = (w.setCell ⟨q, 0, none⟩ (.bool true)).setCell ⟨q, 1, none⟩ (.int .i64 (k : Int))) :
    DP w' q n g1 c1 g2 c2 sw cw z { D with pw := some k } ∧ But (· ∈ q :: g1 :: g2 :: (blkS sw).toList) w w' := by
  have hnd := h.nd
  have n1 : g1 ≠ q := by simp at hnd; exact fun e => hnd.1.1 e.symm
  have n2 : g2 ≠ q := by simp at hnd; exact fun e => hnd.1.2.1 e.symm
  have n3 : ∀ b, b ∈ (blkS sw).toList → b ≠ q := fun b hb e => by
    subst e
    rw [List.nodup_cons] at hnd
    exact hnd.1 (by simp only [List.mem_cons]; exact .inr (.inr hb))
  have far : ∀ k, k ≠ q → w'.heap[k]? = w.heap[k]? := fun j hj => by
    rcases hw with ⟨rfl, _⟩ | rfl
    · exact Below.heap_setCell _ _ _ _ hj
    · rw [Below.heap_setCell _ _ _ _ hj, Below.heap_setCell _ _ _ _ hj]
  have hb : But (· ∈ q :: g1 :: g2 :: (blkS sw).toList) w w' := by
    rcases hw with ⟨rfl, _⟩ | rfl
    · exact (But.refl _ w).setCell (p := ⟨q, 1, none⟩) (by simp) _
    · exact ((But.refl _ w).setCell (p := ⟨q, 0, none⟩) (by simp) _).setCell (p := ⟨q, 1, none⟩) (by simp) _
  refine ⟨⟨?_, h.now.kept (far _ n1), h.kept.kept (far _ n2), own_keep h.ws (fun b q => far b (n3 b q)), h.b1, h.b2, h.m1, h.m2, fun j e => by injection e with e; omega, hnd⟩, hb⟩
  rcases hw with ⟨rfl, hs⟩ | rfl
  · simp [World.setCell, Array.getElem?_modify, h.box, hs]
  · simp [World.setCell, Array.getElem?_modify, h.box]

set_option maxHeartbeats 1000000 in
set_option maxRecDepth 100000 in
theorem dspend_none (q n : Nat) (fp : List Nat) (D : DkS) (w : World) (h : DAt w q n fp D) (hp0 : D.pw = none) :
    Calls Tryd.prog 30 #[.pointer (some ⟨q, 0, none⟩)] w fun e w' => e = .returned .nilIface ∧ w' = w := by
  obtain ⟨g1, c1, g2, c2, sw, cw, z, rfl, hp⟩ := h
  obtain ⟨k0, k1, k2, k3, k4, kf, kq⟩ := hp.cells
  simp only [hp0, Option.isSome_none] at k0 k1
  clear hp hp0
  go_enter Tryd.func30, Tryd.ntmps30
  go_wp2
  go_ret
  exact ⟨rfl, rfl⟩

set_option maxHeartbeats 1000000 in
set_option maxRecDepth 100000 in
theorem dspend_no (q n : Nat) (fp : List Nat) (D : DkS) (w : World) (tE : TypeId) (vE : Value) (h : DAt w q n fp D) (hp0 : D.pw = some 0) (hE : w.cell? ⟨8, 0, none⟩ = some (.iface tE vE)) :
    Calls Tryd.prog 30 #[.pointer (some ⟨q, 0, none⟩)] w fun e w' => e = .returned (.iface tE vE) ∧ w' = w := by
  obtain ⟨g1, c1, g2, c2, sw, cw, z, rfl, hp⟩ := h
  obtain ⟨k0, k1, k2, k3, k4, kf, kq⟩ := hp.cells
  simp only [hp0, Option.isSome_some] at k0 k1
  have k1' : w.cell? ⟨q, 1, none⟩ = some (.int .i64 0) := k1
  clear hp hp0 k1
  go_enter Tryd.func30, Tryd.ntmps30
  go_wp2
  go_ret
  exact ⟨rfl, rfl⟩

set_option maxHeartbeats 1000000 in
set_option maxRecDepth 100000 in
theorem dspend_yes (q n k : Nat) (fp : List Nat) (D : DkS) (w : World) (h : DAt w q n fp D) (hp0 : D.pw = some (k + 1)) :
    Calls Tryd.prog 30 #[.pointer (some ⟨q, 0, none⟩)] w fun e w' => e = .returned .nilIface ∧ DAt w' q n fp { D with pw := some k } ∧ Mv fp fp w w' := by
  obtain ⟨g1, c1, g2, c2, sw, cw, z, rfl, hp⟩ := h
  obtain ⟨k0, k1, k2, k3, k4, kf, kq⟩ := hp.cells
  have hk := hp.pb _ hp0
  have HP := hide (hp.setPw k (by omega) _ (.inl ⟨rfl, by rw [hp0]; rfl⟩))
  simp only [hp0, Option.isSome_some] at k0 k1
  have f1 := kf 1
  have d0 : (((k + 1 : Nat) : Int) == 0) = false := by simp; omega
  have e0 : ((k + 1 : Nat) : Int) - 1 = (k : Int) := by omega
  obtain ⟨t, ht⟩ : ∃ t : Int, t = ((k + 1 : Nat) : Int) := ⟨_, rfl⟩
  rw [← ht] at k1 d0 e0
  have ht2 : 0 ≤ t ∧ t ≤ 9223372036854775807 := by omega
  clear hp hp0 ht kf hk
  go_enter Tryd.func30, Tryd.ntmps30
  go_wp2
  go_ret
  exact ⟨rfl, ⟨g1, c1, g2, c2, sw, cw, z, rfl, (unhide HP).1⟩, (unhide HP).2, fun _ h => .inl h⟩

set_option maxHeartbeats 1000000 in
set_option maxRecDepth 100000 in
theorem dfail_yes (q n k : Nat) (fp : List Nat) (D : DkS) (w : World) (h : DAt w q n fp D) (hk : k ≤ 9223372036854775807) :
    Calls Tryd.prog 26 #[.pointer (some ⟨q, 0, none⟩), .int .i64 (k : Int)] w fun e w' => e = .returned .nilIface ∧ DAt w' q n fp { D with pw := some k } ∧ Mv fp fp w w' := by
  obtain ⟨g1, c1, g2, c2, sw, cw, z, rfl, hp⟩ := h
  obtain ⟨k0, k1, k2, k3, k4, kf, kq⟩ := hp.cells
  have HP := hide (hp.setPw k hk _ (.inr rfl))
  have f0 := kf 0
  have f1 := kf 1
  have d0 : decide ((k : Int) < 0) = false := by simp
  clear hp kf
  go_enter Tryd.func26, Tryd.ntmps26
  go_wp2
  go_ret
  exact ⟨rfl, ⟨g1, c1, g2, c2, sw, cw, z, rfl, (unhide HP).1⟩, (unhide HP).2, fun _ h => .inl h⟩

set_option maxHeartbeats 1000000 in
set_option maxRecDepth 100000 in
theorem dfail_no (q : Nat) (k : Int) (w : World) (tE : TypeId) (vE : Value) (hk : k < 0) (hE : w.cell? ⟨0, 0, none⟩ = some (.iface tE vE)) :
    Calls Tryd.prog 26 #[.pointer (some ⟨q, 0, none⟩), .int .i64 k] w fun e w' => e = .returned (.iface tE vE) ∧ w' = w := by
  have d0 : decide (k < 0) = true := decide_eq_true hk
  clear hk
  go_enter Tryd.func26, Tryd.ntmps26
  go_wp2
  go_ret
  exact ⟨rfl, rfl⟩
end Go.Proofs.YthkecbgifajmmaaDoor
