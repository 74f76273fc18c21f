/- Pixels as texts: the document's. -/
import Derived.Test.YtaghndongffafagDoorHt3
namespace Go.Proofs.YtaghndongffafagDoor
open Go.RowKit

theorem hex_cut : ∀ k : Nat, k < 16 → ((⟨#[48, 49, 50, 51, 52, 53, 54, 55, 56, 57, 97, 98, 99, 100, 101, 102]⟩ : ByteArray).extract k (k + 1)).data.toList = [hexd k] := by decide +kernel
theorem hex_cut' (k : Nat) (h : k < 16) : (⟨#[48, 49, 50, 51, 52, 53, 54, 55, 56, 57, 97, 98, 99, 100, 101, 102]⟩ : ByteArray).extract k (k + 1) = ⟨#[hexd k]⟩ := by
  have := hex_cut k h
  apply ByteArray.ext
  apply Array.toList_inj.1
  exact this

set_option maxHeartbeats 2000000 in
set_option maxRecDepth 100000 in
theorem digits_any (b : UInt8) (w : World) :
    Calls Tryd.prog 26 #[.int .u8 (b.toNat : Int)] w fun e w' => e = .returned (.string ⟨(hx2 b).toArray⟩) ∧ ∃ n, w' = w.drewN n := by
  have hl := b.toNat_lt
  unfold hx2
  generalize b.toNat = X at *
  obtain ⟨h1, e1⟩ : ∃ h, h = X / 16 := ⟨_, rfl⟩
  obtain ⟨h2, e2⟩ : ∃ h, h = X % 16 := ⟨_, rfl⟩
  rw [← e1, ← e2]
  have z1 : (X : Int) / 16 = (h1 : Int) := by omega
  have z1' : (X : Int).tdiv 16 = (h1 : Int) := by rw [Int.tdiv_eq_ediv_of_nonneg (by omega)]; exact z1
  have z2 : (X : Int) % 16 = (h2 : Int) := by omega
  have z2' : (X : Int).tmod 16 = (h2 : Int) := by rw [Int.tmod_eq_emod_of_nonneg (by omega)]; exact z2
  have b1 : h1 < 16 := by omega
  have b2 : h2 < 16 := by omega
  have HC1 := hide (hex_cut' h1 b1)
  have HC2 := hide (hex_cut' h2 b2)
  clear e1 e2
  go_enter Tryd.func26, Tryd.ntmps26
  go_wp2_with fail
  go_quiet (fail)
  go_wp2
  go_ret
  exact ⟨by show Ending.returned (.string ((⟨#[48, 49, 50, 51, 52, 53, 54, 55, 56, 57, 97, 98, 99, 100, 101, 102]⟩ : ByteArray).extract h1 (h1 + 1) ++ (⟨#[48, 49, 50, 51, 52, 53, 54, 55, 56, 57, 97, 98, 99, 100, 101, 102]⟩ : ByteArray).extract h2 (h2 + 1))) = _; rw [unhide HC1, unhide HC2]; rfl, _, rfl⟩

set_option maxHeartbeats 2000000 in
set_option maxRecDepth 100000 in
theorem pixelText_any (p : Px) (w : World) :
    Calls Tryd.prog 17 #[p.val] w fun e w' => e = .returned (.string (pxT p)) ∧ Below w.heap.size w w' := by
  have H1 := hide (digits_any p.r)
  have H2 := hide (digits_any p.g)
  have H3 := hide (digits_any p.b)
  have H4 := hide (digits_any p.a)
  have hW : Below w.heap.size w (w.alloc (q4Obj p.r.toNat p.g.toNat p.b.toNat p.a.toNat)) := (Below.refl _ _).alloc (Nat.le_refl _) _
  have HQ := hide (q4_new w p.r.toNat p.g.toNat p.b.toNat p.a.toNat)
  unfold q4Obj at hW HQ
  have HW := hide hW
  clear hW
  have HE : Hid (pxT p = (((⟨(hx2 p.r).toArray⟩ : ByteArray) ++ (⟨(hx2 p.g).toArray⟩ : ByteArray)) ++ (⟨(hx2 p.b).toArray⟩ : ByteArray)) ++ (⟨(hx2 p.a).toArray⟩ : ByteArray)) := by show _ = _; rfl
  have s1 : (⟨(hx2 p.r).toArray⟩ : ByteArray).size = 2 := rfl
  have s2 : (⟨(hx2 p.g).toArray⟩ : ByteArray).size = 2 := rfl
  have s3 : (⟨(hx2 p.b).toArray⟩ : ByteArray).size = 2 := rfl
  have s4 : (⟨(hx2 p.a).toArray⟩ : ByteArray).size = 2 := rfl
  rw [unhide HE]
  clear HE
  generalize (⟨(hx2 p.r).toArray⟩ : ByteArray) = t1 at *
  generalize (⟨(hx2 p.g).toArray⟩ : ByteArray) = t2 at *
  generalize (⟨(hx2 p.b).toArray⟩ : ByteArray) = t3 at *
  generalize (⟨(hx2 p.a).toArray⟩ : ByteArray) = t4 at *
  unfold Px.val
  generalize p.r.toNat = r at *
  generalize p.g.toNat = g at *
  generalize p.b.toNat = b at *
  generalize p.a.toNat = a at *
  have S1 : t1.size ≤ 2 := by omega
  have S2 : (t1 ++ t2).size ≤ 4 := by rw [ByteArray.size_append]; omega
  have S3 : ((t1 ++ t2) ++ t3).size ≤ 6 := by rw [ByteArray.size_append]; omega
  have S4 : t2.size ≤ 2 := by omega
  have S5 : t3.size ≤ 2 := by omega
  have S6 : t4.size ≤ 2 := by omega
  clear s1 s2 s3 s4
  go_enter Tryd.func17, Tryd.ntmps17
  go_wp2_with fail
  generalize w.alloc (.cells #[.int .u8 (r : Int), .int .u8 (g : Int), .int .u8 (b : Int), .int .u8 (a : Int)] 23) = w1 at *
  obtain ⟨q1, q2, q3, q4⟩ := unhide HQ
  clear HQ
  go_quiet (first
    | (go_at_call_of 26 r; exact Calls.quiet_of (unhide H1 _))
    | (go_at_call_of 26 g; exact Calls.quiet_of (unhide H2 _))
    | (go_at_call_of 26 b; exact Calls.quiet_of (unhide H3 _))
    | (go_at_call_of 26 a; exact Calls.quiet_of (unhide H4 _)))
  go_wp2
  go_ret
  exact ⟨rfl, belowD (unhide HW)⟩

/-- Four bytes of a call's own, and its answer's cells. -/
structure R4 (w wr : World) (B : Nat) (c : Nat → Nat) : Prop where
  below : Below B w wr
  size : B + 2 ≤ wr.heap.size
  c : ∀ j, j < 4 → wr.cell? ⟨B + 1, j, none⟩ = some (.int .u8 (c j : Int))
  f : ∀ j, j < 4 → wr.frozen? ⟨B + 1, j, none⟩ = false
  z0 : Q4 wr B 0 0 0 0
  f0 : F4 wr B
theorem four_lt {j : Nat} (h : j < 4) : j = 0 ∨ j = 1 ∨ j = 2 ∨ j = 3 := by omega
theorem R4.start (w : World) (t : TypeId) : R4 w ((w.alloc (q4Obj 0 0 0 0)).alloc (.cells #[.int .u8 0, .int .u8 0, .int .u8 0, .int .u8 0] t)) w.heap.size (fun _ => 0) := by
  have e1 : (w.alloc (q4Obj 0 0 0 0)).heap.size = w.heap.size + 1 := by simp
  have hb : Below (w.alloc (q4Obj 0 0 0 0)).heap.size (w.alloc (q4Obj 0 0 0 0)) ((w.alloc (q4Obj 0 0 0 0)).alloc (.cells #[.int .u8 0, .int .u8 0, .int .u8 0, .int .u8 0] t)) := (Below.refl _ _).alloc (Nat.le_refl _) _
  refine ⟨((Below.refl _ _).alloc (Nat.le_refl _) _).alloc (by simp) _, by simp, fun j hj => ?_, fun j hj => ?_, (q4_new w 0 0 0 0).alloc _, (q4_new_f w 0 0 0 0).below hb (by simp)⟩
  · rw [← e1, World.cell?_alloc_mark]
    rcases four_lt hj with rfl | rfl | rfl | rfl <;> rfl
  · rw [← e1]
    have hh := heap_alloc_new (w.alloc (q4Obj 0 0 0 0)) (.cells #[.int .u8 0, .int .u8 0, .int .u8 0, .int .u8 0] t)
    unfold World.frozen?
    rw [hh]
    simp
theorem R4.set {w wr : World} {B k v : Nat} {c c' : Nat → Nat} (h : R4 w wr B c) (hk : k < 4) (hc : ∀ j, j < 4 → c' j = if j = k then v else c j) : R4 w (wr.setCell ⟨B + 1, k, none⟩ (.int .u8 (v : Int))) B c' := by
  have hsz := h.size
  have hfr : ∀ b j, (wr.setCell ⟨B + 1, k, none⟩ (.int .u8 (v : Int))).frozen? ⟨b, j, none⟩ = wr.frozen? ⟨b, j, none⟩ := fun b j => World.frozen?_setCell _ _ _ _
  have hfar : ∀ b j, b ≠ B + 1 → (wr.setCell ⟨B + 1, k, none⟩ (.int .u8 (v : Int))).cell? ⟨b, j, none⟩ = wr.cell? ⟨b, j, none⟩ := fun b j hb => World.cell?_setCell_far _ _ _ _ (fun e => hb e.symm)
  refine ⟨h.below.setCell (by show B ≤ B + 1; omega) _, by simpa using hsz, fun j hj => ?_, fun j hj => (hfr _ _).trans (h.f j hj), ⟨(hfar _ _ (by omega)).trans h.z0.r, (hfar _ _ (by omega)).trans h.z0.g, (hfar _ _ (by omega)).trans h.z0.b, (hfar _ _ (by omega)).trans h.z0.a⟩, ⟨(hfr _ _).trans h.f0.f0, (hfr _ _).trans h.f0.f1, (hfr _ _).trans h.f0.f2, (hfr _ _).trans h.f0.f3⟩⟩
  rw [hc j hj]
  by_cases e : j = k
  · subst e
    rw [if_pos rfl]
    exact World.cell?_setCell_same _ _ _ (h.c j hj)
  · rw [if_neg e, World.cell?_setCell_other _ _ _ _ (fun q => e (by injection q with _ q _; exact q.symm))]
    exact h.c j hj
theorem mk4 (w : World) : (Instr.makeSlice 51 (.int .i64 4) (.int .i64 4)).run Tryd.prog w = .ok (.slice (some ⟨w.heap.size, 0, none⟩) 4 4) (w.alloc (.cells #[.int .u8 0, .int .u8 0, .int .u8 0, .int .u8 0] 5)) := by
  have h := run_make_row' (P := Tryd.prog) 51 5 (.int .u8 0) 1 Tryd.underlying51 info_u8 rfl .i64 .i64 4 (by omega) (by omega) w
  rw [show madeCells #[.int .u8 0] 4 = (List.replicate 4 (.int .u8 0)).toArray by rw [← toList_madeCells_one (.int .u8 0) 4]] at h
  exact h
end Go.Proofs.YtaghndongffafagDoor
