/- The document's disk: zeros, power. -/
import Derived.Test.YthkecbgifajmmaaDoorDk8
import Derived.Deep.OwnRows
namespace Go.Proofs.YthkecbgifajmmaaDoor
open Go.RowKit

theorem MP.cells {w : World} {p n : Nat} {sk : Option Addr} {ck : Nat} {sn : Option Addr} {cn : Nat} {sw : Option Addr} {cw : Nat} {D : DkS} (h : MP w p n sk ck sn cn sw cw D) :
    w.cell? ⟨p, 0, none⟩ = some (.slice sk n ck) ∧ w.cell? ⟨p, 1, none⟩ = some (.slice sn n cn) ∧ w.cell? ⟨p, 2, none⟩ = some (.slice sw D.ws.length cw) ∧ w.cell? ⟨p, 3, none⟩ = some (.int .i64 (match D.pw with | none => -1 | some k => (k : Int))) ∧ (∀ j, w.frozen? ⟨p, j, none⟩ = false) ∧ p < w.heap.size :=
  ⟨by rw [blk_cell h.box]; rfl, by rw [blk_cell h.box]; rfl, by rw [blk_cell h.box]; rfl, by rw [blk_cell h.box]; rfl, fun j => blk_frozen h.box j, blk_lt h.box⟩

def nulB (k : Nat) : ByteArray := ⟨(List.replicate k 0).toArray⟩
theorem nulB_size (k : Nat) : (nulB k).size = k := by show (List.replicate k (0 : UInt8)).toArray.size = k; simp
theorem make_u8 (n : Nat) (hn : n ≤ 4000) (w : World) : (Instr.makeSlice 52 (.int .i64 (n : Int)) (.int .i64 (n : Int))).run Tryd.prog w = .ok (.slice (some ⟨w.heap.size, 0, none⟩) n n) (w.alloc (.cells (madeCells #[.int .u8 0] n) 5)) :=
  run_make_row' 52 5 (.int .u8 0) 1 Tryd.underlying52 (by kernel_rfl) rfl .i64 .i64 n (by omega) (by omega) w
theorem conv_nul (n : Nat) (w : World) : (convert 52 9 (.slice (some ⟨w.heap.size, 0, none⟩) n n)).run Tryd.prog (w.alloc (.cells (madeCells #[.int .u8 0] n) 5)) = .ok (.string (nulB n)) (w.alloc (.cells (madeCells #[.int .u8 0] n) 5)) := by
  have h := run_convert_bytes_back (P := Tryd.prog) (w.alloc (.cells (madeCells #[.int .u8 0] n) 5)) 52 9 5 ⟨w.heap.size, 0, none⟩ n (List.replicate n 0) Tryd.underlying52 Tryd.underlying5 Tryd.underlying9 (fun j hj => by
    rw [Addr.add_mid, Nat.zero_add, blk_cell (heap_alloc_new w _)]
    rw [List.length_replicate] at hj
    simp [madeCells, hj, Nat.mod_one])
  rw [List.length_replicate] at h
  exact h

set_option maxHeartbeats 1000000 in
set_option maxRecDepth 100000 in
theorem zeros_any (n : Nat) (w : World) (hn : n ≤ 4000) :
    Calls Tryd.prog 22 #[.int .i64 (n : Int)] w fun e w' => e = .returned (.string (nulB n)) ∧ Below w.heap.size w w' := by
  have HM := make_u8 n hn
  have HC := conv_nul n
  have HA := hide ((Below.refl w.heap.size w).alloc (Nat.le_refl _) (.cells (madeCells #[.int .u8 0] n) 5))
  go_enter Tryd.func22, Tryd.ntmps22
  go_wp2
  go_ret
  exact ⟨rfl, unhide HA⟩

theorem MP.setPw {w : World} {p n : Nat} {sk : Option Addr} {ck : Nat} {sn : Option Addr} {cn : Nat} {sw : Option Addr} {cw : Nat} {D : DkS} (h : MP w p n sk ck sn cn sw cw D) (k : Nat) (hk : k ≤ 9223372036854775807) :
    MP (w.setCell ⟨p, 3, none⟩ (.int .i64 (k : Int))) p n sk ck sn cn sw cw { D with pw := some k } ∧ But (· ∈ p :: ((blkS sk).toList ++ ((blkS sn).toList ++ (blkS sw).toList))) w (w.setCell ⟨p, 3, none⟩ (.int .i64 (k : Int))) := by
  have hnd := h.nd
  have hne : ∀ b, b ∈ (blkS sk).toList ++ ((blkS sn).toList ++ (blkS sw).toList) → b ≠ p := fun b hb e => by
    subst e
    rw [List.nodup_cons] at hnd
    exact hnd.1 hb
  have far : ∀ b, b ≠ p → (w.setCell ⟨p, 3, none⟩ (.int .i64 (k : Int))).heap[b]? = w.heap[b]? := fun b hb => Below.heap_setCell _ _ _ _ hb
  refine ⟨⟨?_, own_keep h.kept (fun b hb => far b (hne b (List.mem_append_left _ hb))), own_keep h.now (fun b hb => far b (hne b (List.mem_append_right _ (List.mem_append_left _ hb)))), own_keep h.ws (fun b hb => far b (hne b (List.mem_append_right _ (List.mem_append_right _ hb)))), fun j e => by injection e with e; omega, hnd⟩, (But.refl _ w).setCell (p := ⟨p, 3, none⟩) (by simp) _⟩
  simp [World.setCell, Array.getElem?_modify, h.box]

set_option maxHeartbeats 1000000 in
set_option maxRecDepth 100000 in
theorem mpower_no (p n : Nat) (fp : List Nat) (D : DkS) (w : World) (h : MAt w p n fp D) (hp0 : D.pw = some 0) :
    Calls Tryd.prog 33 #[.pointer (some ⟨p, 0, none⟩)] w fun e w' => e = .returned (.bool false) ∧ w' = w := by
  obtain ⟨sk, ck, sn, cn, sw, cw, rfl, hp⟩ := h
  obtain ⟨k0, k1, k2, k3, kf, kq⟩ := hp.cells
  have k3' : w.cell? ⟨p, 3, none⟩ = some (.int .i64 0) := by rw [k3]; simp [hp0]
  clear hp k0 k1 k2 k3 kf
  go_enter Tryd.func33, Tryd.ntmps33
  go_wp2
  go_ret
  exact ⟨rfl, rfl⟩

set_option maxHeartbeats 1000000 in
set_option maxRecDepth 100000 in
theorem mpower_none (p n : Nat) (fp : List Nat) (D : DkS) (w : World) (h : MAt w p n fp D) (hp0 : D.pw = none) :
    Calls Tryd.prog 33 #[.pointer (some ⟨p, 0, none⟩)] w fun e w' => e = .returned (.bool true) ∧ w' = w := by
  obtain ⟨sk, ck, sn, cn, sw, cw, rfl, hp⟩ := h
  obtain ⟨k0, k1, k2, k3, kf, kq⟩ := hp.cells
  have k3' : w.cell? ⟨p, 3, none⟩ = some (.int .i64 (-1)) := by rw [k3]; simp [hp0]
  clear hp k0 k1 k2 k3 kf
  go_enter Tryd.func33, Tryd.ntmps33
  go_wp2
  go_ret
  exact ⟨rfl, rfl⟩

set_option maxHeartbeats 1000000 in
set_option maxRecDepth 100000 in
theorem mpower_some (p n k : Nat) (fp : List Nat) (D : DkS) (w : World) (h : MAt w p n fp D) (hp0 : D.pw = some (k + 1)) :
    Calls Tryd.prog 33 #[.pointer (some ⟨p, 0, none⟩)] w fun e w' => e = .returned (.bool true) ∧ MAt w' p n fp { D with pw := some k } ∧ Mv fp fp w w' := by
  obtain ⟨sk, ck, sn, cn, sw, cw, rfl, hp⟩ := h
  obtain ⟨k0, k1, k2, k3, kf, kq⟩ := hp.cells
  have hk := hp.pb _ hp0
  have HP := hide (hp.setPw k (by omega))
  have k3' : w.cell? ⟨p, 3, none⟩ = some (.int .i64 ((k + 1 : Nat) : Int)) := by rw [k3]; simp [hp0]
  have f3 := kf 3
  have d0 : (((k + 1 : Nat) : Int) == 0) = false := by simp; omega
  have d1 : decide (((k + 1 : Nat) : Int) > 0) = true := decide_eq_true (by omega)
  have d2 : decide ((0 : Int) < ((k + 1 : Nat) : Int)) = true := decide_eq_true (by omega)
  have e0 : ((k + 1 : Nat) : Int) - 1 = (k : Int) := by omega
  obtain ⟨t, ht⟩ : ∃ t : Int, t = ((k + 1 : Nat) : Int) := ⟨_, rfl⟩
  rw [← ht] at k3' d0 d1 d2 e0
  have ht2 : 0 ≤ t ∧ t ≤ 9223372036854775807 := by omega
  clear hp k0 k1 k2 k3 kf ht hk
  go_enter Tryd.func33, Tryd.ntmps33
  go_wp2
  go_ret
  exact ⟨rfl, ⟨sk, ck, sn, cn, sw, cw, rfl, (unhide HP).1⟩, (unhide HP).2, fun _ h => .inl h⟩

/-- What an act takes of the power. -/
theorem mpower_ok (p n : Nat) (fp : List Nat) (D : DkS) (po : Option Nat) (w : World) (h : MAt w p n fp D) (hp : spS D.pw = some po) :
    Calls Tryd.prog 33 #[.pointer (some ⟨p, 0, none⟩)] w fun e w' => e = .returned (.bool true) ∧ MAt w' p n fp { D with pw := po } ∧ Mv fp fp w w' := by
  rcases hq : D.pw with _ | k
  · rw [hq] at hp
    simp only [spS, Option.some.injEq] at hp
    subst hp
    refine (mpower_none p n fp D w h hq).mono ?_
    rintro e w1 ⟨rfl, rfl⟩
    have e1 : ({ D with pw := none } : DkS) = D := by cases D; simp at hq; simp [hq]
    exact ⟨rfl, by rw [e1]; exact h, Mv.refl _ _⟩
  · cases k with
    | zero => rw [hq] at hp; simp [spS] at hp
    | succ k =>
      rw [hq] at hp
      simp only [spS, Option.some.injEq] at hp
      subst hp
      exact mpower_some p n k fp D w h hq
end Go.Proofs.YthkecbgifajmmaaDoor
