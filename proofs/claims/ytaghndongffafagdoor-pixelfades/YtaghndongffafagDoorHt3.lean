/- Pixels as texts: the program's Text, walked. -/
import Derived.Test.YtaghndongffafagDoorHt2
import Derived.Test.YtaghndongffafagDoorOv3
namespace Go.Proofs.YtaghndongffafagDoor
open Go.RowKit

set_option maxHeartbeats 4000000 in
set_option maxRecDepth 100000 in
theorem text_any (p : Px) (w : World) :
    Calls Tryd.prog 16 #[p.val] w fun e w' => e = .returned (.string (pxT p)) ∧ Below w.heap.size w w' := by
  have hmk := fun w => hex_room 8 (by omega) w
  have z8 : ((8 : Nat) : Int) = 8 := rfl
  rw [z8] at hmk
  have hW : Below w.heap.size w ((w.alloc (q4Obj p.r.toNat p.g.toNat p.b.toNat p.a.toNat)).alloc (.cells (madeCells #[.int .u8 0] 8) 5)) := ((Below.refl _ _).alloc (Nat.le_refl _) _).alloc (by simp) _
  have hO := hex_made 8 (by omega) (w.alloc (q4Obj p.r.toNat p.g.toNat p.b.toNat p.a.toNat))
  have e1 : (w.alloc (q4Obj p.r.toNat p.g.toNat p.b.toNat p.a.toNat)).heap.size = w.heap.size + 1 := by simp
  rw [e1] at hO
  have HQ := hide ((q4_new w p.r.toNat p.g.toNat p.b.toNat p.a.toNat).alloc (.cells (madeCells #[.int .u8 0] 8) 5))
  unfold q4Obj at hW hO HQ
  have HW := hide hW
  have HZ2 : Hid (w.heap.size + 1 ≤ ((w.alloc (.cells #[.int .u8 (p.r.toNat : Int), .int .u8 (p.g.toNat : Int), .int .u8 (p.b.toNat : Int), .int .u8 (p.a.toNat : Int)] 23)).alloc (.cells (madeCells #[.int .u8 0] 8) 5)).heap.size) := by show _ ≤ _; simp
  have HO := hide hO
  have HI := hide (four_index p)
  obtain ⟨B, hB⟩ : ∃ B, B = w.heap.size := ⟨_, rfl⟩
  clear hW hO e1
  generalize madeCells #[.int .u8 0] 8 = M8 at *
  unfold Px.val at *
  go_enter Tryd.func16, Tryd.ntmps16
  go_wp2_with fail
  generalize (w.alloc (.cells #[.int .u8 (p.r.toNat : Int), .int .u8 (p.g.toNat : Int), .int .u8 (p.b.toNat : Int), .int .u8 (p.a.toNat : Int)] 23)).alloc (.cells M8 5) = w2 at *
  rw [← hB] at HW HO HQ HZ2 ⊢
  have HBE := hide hB
  clear hB hmk HQ
  go_loopw [3, 16] (fun lv iv wr => ∃ i : Nat, i ≤ 4 ∧ iv = .int .i64 (i : Int) ∧ Hid (OwnM wr (B + 1) lv (hxN p i)) ∧ Hid (Below B w wr) ∧ B + 1 ≤ wr.heap.size) (fun _ iv _ => 4 - (intOf iv).toNat)
  case atStart => exact ⟨0, by omega, rfl, HO, HW, unhide HZ2⟩
  case round =>
    clear HO HW
    obtain ⟨i, hi, rfl, HO, HB, hz⟩ := hrel
    by_cases hlt : i < 4
    · have g1 : decide ((i : Int) < 4) = true := decide_eq_true (by omega)
      have g1n : decide (i < 4) = true := decide_eq_true hlt
      have hI := fun w => unhide HI i hlt w
      obtain ⟨x, hx⟩ : ∃ x, x = c4 p i := ⟨_, rfl⟩
      rw [← hx] at hI
      have hl := x.toNat_lt
      obtain ⟨av, cv, rfl⟩ := (unhide HO).shape
      have HX := hide hx
      clear hx
      obtain ⟨X, hX⟩ : ∃ X, X = x.toNat := ⟨_, rfl⟩
      rw [← hX] at hI hl
      obtain ⟨h1, e1⟩ : ∃ h, h = X / 16 := ⟨_, rfl⟩
      have z1 : (X : Int) / 16 = (h1 : Int) := by omega
      have b1 : h1 < 16 := by omega
      have b1' : (h1 : Int) < 16 := by omega
      obtain ⟨h2, e2⟩ : ∃ h, h = X % 16 := ⟨_, rfl⟩
      have z2 := and_15 X hl
      rw [← e2] at z2
      have b2 : h2 < 16 := by omega
      have b2' : (h2 : Int) < 16 := by omega
      have HX2 : Hid (X = x.toNat ∧ h1 = X / 16 ∧ h2 = X % 16) := ⟨hX, e1, e2⟩
      clear hX e1 e2
      have hg1 := hex_get h1 b1
      have hg2 := hex_get h2 b2
      have HLL := hide (hxN_length p i)
      have hba : Below wr.heap.size wr (wr.drew.alloc (.cells #[.int .u8 ((hexd h1).toNat : Int), .int .u8 ((hexd h2).toNat : Int)] 5)) := (Below.refl _ _).drew.alloc (Nat.le_refl _) _
      have hzA : (wr.drew.alloc (.cells #[.int .u8 ((hexd h1).toNat : Int), .int .u8 ((hexd h2).toNat : Int)] 5)).heap.size = wr.heap.size + 1 := by simp
      have hq2 : ∀ j u, (byteVals [hexd h1, hexd h2])[j]? = some u → (wr.drew.alloc (.cells #[.int .u8 ((hexd h1).toNat : Int), .int .u8 ((hexd h2).toNat : Int)] 5)).cell? ⟨wr.heap.size, j, none⟩ = some u := fun j u hj => by
        rw [show wr.heap.size = wr.drew.heap.size from rfl, World.cell?_alloc_mark, ← hj]
        match j with
        | 0 => rfl
        | 1 => rfl
        | j + 2 => rfl
      have HQ2 := hide hq2
      have HOA := hide ((unhide HO).below hba)
      have HBA := hide ((unhide HB).trans (hba.mono (by omega)))
      have HNX : Hid (hxN p i ++ [hexd h1, hexd h2] = hxN p (i + 1)) := by
        obtain ⟨q1, q2, q3⟩ := unhide HX2
        show _ = _
        rw [q2, q3, q1, unhide HX]
        rfl
      clear hba hq2 HO HB
      go_wp2_with fail
      go_region_law (first | (refine step_appMn rfl (.tmp 19) (.tmp 26) rfl (B + 1) wr.heap.size 2 (.slice av (hxN p i).length cv) (hxN p i) [hexd h1, hexd h2] (by simp [Act.eval]) (by simp [Act.eval]) rfl (unhide HOA) (unhide HQ2) (by have := unhide HLL; simp; omega) (by simp; omega) ?_; intro v6 w6 hown6 hgr6))
      all_goals
        have hz6 : wr.heap.size + 1 ≤ w6.heap.size := by have := hgr6.size; simpa using this
        have hb6 : Below B w w6 := (unhide HBA).grown hgr6 (by have := unhide HBE; omega) (fun k e => by have := (unhide HOA).lt k e; omega)
        rw [unhide HNX] at hown6
        have HO6 := hide hown6
        have HB6 := hide hb6
        clear hown6 hgr6 hb6
        go_wp2
        go_roundw
        case rel => exact ⟨i + 1, by omega, by go_num, HO6, HB6, by omega⟩
        case measure => simp [intOf]; omega
    · obtain rfl : i = 4 := by omega
      have g1 : decide (((4 : Nat) : Int) < 4) = false := rfl
      have hcv := (unhide HO).text
      obtain ⟨av, cv, rfl⟩ := (unhide HO).shape
      go_wp2
      go_ret
      exact ⟨rfl, by rw [← unhide HBE]; exact unhide HB⟩
end Go.Proofs.YtaghndongffafagDoor
