/- Pixels over pixels: a color, the program's. Four cells of a call's own, read and written. -/
import Derived.Test.YtkdckcengmkhhajDoorMg6
import Derived.Test.YtkdckcengmkhhajDoorMg1
import Derived.Deep.RegionHeld
import Derived.Deep.QuietTactic
namespace Go.Proofs.YtkdckcengmkhhajDoor
open Go.RowKit

set_option maxHeartbeats 4000000 in
set_option maxRecDepth 100000 in
theorem color_any (m a b s d ka kb km kc : Nat) (w : World) (hm : m ≤ 5) (ha : a ≤ 255) (hb : b ≤ 255) (hs : s ≤ 255) (hd : d ≤ 255) (h0 : 0 < Ov.cov a b)
    (ca : w.cell? ⟨ka, 0, none⟩ = some (.int .i64 (a : Int))) (cb : w.cell? ⟨kb, 0, none⟩ = some (.int .i64 (b : Int))) (cm : w.cell? ⟨km, 0, none⟩ = some (.func (.func (mf m)) #[] #[])) (cc : w.cell? ⟨kc, 0, none⟩ = some (.int .i64 (Ov.cov a b : Int))) :
    Calls Tryd.prog 79 #[.int .u8 (s : Int), .int .u8 (d : Int), .pointer (some ⟨ka, 0, none⟩), .pointer (some ⟨kb, 0, none⟩), .pointer (some ⟨km, 0, none⟩), .pointer (some ⟨kc, 0, none⟩)] w fun e w' => e = .returned (.int .u8 (Ov.col m a b s d : Int)) ∧ ∃ n, w' = w.drewN n := by
  have HM := hide (fun w => meet_any m s d w hm hs hd)
  have hmt := Ov.mt_le m s d hs hd
  have hco := Ov.cov_le a b ha hb
  have hnu := Ov.num_le m a b s d hb hs hd
  have hal := Ov.alone_le a b s d ha hb hs hd
  have HR := hide (fun w => prounded_any (Ov.num m a b s d) (255 * Ov.cov a b) w (by omega) (by omega) hnu)
  unfold Ov.col
  have h1 : a * (255 - b) * s ≤ 255 * 255 * 255 := Ov.three_le ha (by omega) hs
  have h2 : b * (255 - a) * d ≤ 255 * 255 * 255 := Ov.three_le hb (by omega) hd
  have h3 : a * b ≤ 255 * 255 := Nat.mul_le_mul ha hb
  have h4 : a * (255 - b) ≤ 255 * 255 := Nat.mul_le_mul ha (by omega)
  have h5 : b * (255 - a) ≤ 255 * 255 := Nat.mul_le_mul hb (by omega)
  have h6 : a * b * Ov.mt m s d ≤ 255 * 255 * 65025 := Ov.three_le ha hb hmt
  have en : Ov.num m a b s d = 255 * (a * (255 - b) * s + b * (255 - a) * d) + a * b * Ov.mt m s d := rfl
  generalize Ov.rnd (Ov.num m a b s d) (255 * Ov.cov a b) = R at *
  generalize Ov.num m a b s d = N at *
  generalize Ov.mt m s d = M at *
  generalize Ov.cov a b = C at *
  generalize Ov.alone a b s d = AL at *
  obtain ⟨x, hx⟩ : ∃ x, x = 255 - a := ⟨_, rfl⟩
  obtain ⟨y, hy⟩ : ∃ y, y = 255 - b := ⟨_, rfl⟩
  rw [← hx] at h2 h5 en
  rw [← hy] at h1 h4 en
  have zx : (255 : Int) - (a : Int) = (x : Int) := by omega
  have zy : (255 : Int) - (b : Int) = (y : Int) := by omega
  have hx2 : x ≤ 255 := by omega
  have hy2 : y ≤ 255 := by omega
  clear hx hy
  obtain ⟨p1, e1⟩ : ∃ p, p = a * y := ⟨_, rfl⟩
  obtain ⟨p2, e2⟩ : ∃ p, p = b * x := ⟨_, rfl⟩
  obtain ⟨p3, e3⟩ : ∃ p, p = a * b := ⟨_, rfl⟩
  rw [← e1] at h1 h4 en
  rw [← e2] at h2 h5 en
  rw [← e3] at h3 h6 en
  have z1 : (a : Int) * (y : Int) = (p1 : Int) := by rw [e1]; simp
  have z2 : (b : Int) * (x : Int) = (p2 : Int) := by rw [e2]; simp
  have z3 : (a : Int) * (b : Int) = (p3 : Int) := by rw [e3]; simp
  obtain ⟨p4, e4⟩ : ∃ p, p = p1 * s := ⟨_, rfl⟩
  obtain ⟨p5, e5⟩ : ∃ p, p = p2 * d := ⟨_, rfl⟩
  obtain ⟨p6, e6⟩ : ∃ p, p = p3 * M := ⟨_, rfl⟩
  rw [← e4] at h1 en
  rw [← e5] at h2 en
  rw [← e6] at h6 en
  have z4 : (p1 : Int) * (s : Int) = (p4 : Int) := by rw [e4]; simp
  have z5 : (p2 : Int) * (d : Int) = (p5 : Int) := by rw [e5]; simp
  have z6 : (p3 : Int) * (M : Int) = (p6 : Int) := by rw [e6]; simp
  have zN : (255 : Int) * ((p4 : Int) + (p5 : Int)) + (p6 : Int) = (N : Int) := by omega
  have zK : (((255 * C : Nat)) : Int) = 255 * (C : Int) := by omega
  rw [zK] at HR
  have w1 : IntKind.i64.wrap (p1 : Int) = (p1 : Int) := by rw [IntKind.wrap_i64]; omega
  have w2 : IntKind.i64.wrap (p2 : Int) = (p2 : Int) := by rw [IntKind.wrap_i64]; omega
  have w3 : IntKind.i64.wrap (p3 : Int) = (p3 : Int) := by rw [IntKind.wrap_i64]; omega
  have w4 : IntKind.i64.wrap (p4 : Int) = (p4 : Int) := by rw [IntKind.wrap_i64]; omega
  have w5 : IntKind.i64.wrap (p5 : Int) = (p5 : Int) := by rw [IntKind.wrap_i64]; omega
  have w6 : IntKind.i64.wrap (p6 : Int) = (p6 : Int) := by rw [IntKind.wrap_i64]; omega
  have w7 : IntKind.i64.wrap ((p4 : Int) + (p5 : Int)) = (p4 : Int) + (p5 : Int) := by rw [IntKind.wrap_i64]; omega
  have w8 : IntKind.i64.wrap (255 * ((p4 : Int) + (p5 : Int))) = 255 * ((p4 : Int) + (p5 : Int)) := by rw [IntKind.wrap_i64]; omega
  have w9 : IntKind.i64.wrap (N : Int) = (N : Int) := by rw [IntKind.wrap_i64]; omega
  have wK : IntKind.i64.wrap (255 * (C : Int)) = 255 * (C : Int) := by rw [IntKind.wrap_i64]; omega
  have wx : IntKind.i64.wrap (x : Int) = (x : Int) := by rw [IntKind.wrap_i64]; omega
  have wy : IntKind.i64.wrap (y : Int) = (y : Int) := by rw [IntKind.wrap_i64]; omega
  have hcf := mf_call m hm
  generalize mf m = F at *
  clear en zK e1 e2 e3 e4 e5 e6 hnu hal h0
  go_enter Tryd.func79, Tryd.ntmps79
  go_wp2_with fail
  go_quiet ((first | (go_at_call 80; exact Calls.quiet_of_same (unhide HR _)) | exact Calls.quiet_of_same (unhide HM _)))
  go_wp2
  go_ret
  exact ⟨rfl, _, rfl⟩
end Go.Proofs.YtkdckcengmkhhajDoor
namespace Go.Proofs.YtkdckcengmkhhajDoor
open Go.RowKit

/-- A pixel's cells, as numbers. -/
structure Q4 (w : World) (k : Nat) (r g b a : Nat) : Prop where
  r : w.cell? ⟨k, 0, none⟩ = some (.int .u8 (r : Int))
  g : w.cell? ⟨k, 1, none⟩ = some (.int .u8 (g : Int))
  b : w.cell? ⟨k, 2, none⟩ = some (.int .u8 (b : Int))
  a : w.cell? ⟨k, 3, none⟩ = some (.int .u8 (a : Int))
theorem Q4.lt {w : World} {k r g b a : Nat} (h : Q4 w k r g b a) : k < w.heap.size := World.block_lt_of_cell? _ _ h.r
theorem Q4.below {w w' : World} {k r g b a B : Nat} (h : Q4 w k r g b a) (hb : Below B w w') (hB : k < B) : Q4 w' k r g b a :=
  ⟨(hb.cell (p := ⟨k, 0, none⟩) hB).trans h.r, (hb.cell (p := ⟨k, 1, none⟩) hB).trans h.g, (hb.cell (p := ⟨k, 2, none⟩) hB).trans h.b, (hb.cell (p := ⟨k, 3, none⟩) hB).trans h.a⟩
theorem Q4.alloc {w : World} {k r g b a : Nat} (h : Q4 w k r g b a) (o : Obj) : Q4 (w.alloc o) k r g b a := h.below ((Below.refl _ _).alloc (Nat.le_refl _) _) h.lt
def q4Obj (r g b a : Nat) : Obj := .cells #[.int .u8 (r : Int), .int .u8 (g : Int), .int .u8 (b : Int), .int .u8 (a : Int)] 42
theorem q4_new (w : World) (r g b a : Nat) : Q4 (w.alloc (q4Obj r g b a)) w.heap.size r g b a := by
  unfold q4Obj
  exact ⟨by simp, by simp, by simp, by simp⟩
/-- They may be written. -/
structure F4 (w : World) (k : Nat) : Prop where
  f0 : w.frozen? ⟨k, 0, none⟩ = false
  f1 : w.frozen? ⟨k, 1, none⟩ = false
  f2 : w.frozen? ⟨k, 2, none⟩ = false
  f3 : w.frozen? ⟨k, 3, none⟩ = false
theorem F4.below {w w' : World} {k B : Nat} (h : F4 w k) (hb : Below B w w') (hB : k < B) : F4 w' k :=
  ⟨(hb.frozen (p := ⟨k, 0, none⟩) hB).trans h.f0, (hb.frozen (p := ⟨k, 1, none⟩) hB).trans h.f1, (hb.frozen (p := ⟨k, 2, none⟩) hB).trans h.f2, (hb.frozen (p := ⟨k, 3, none⟩) hB).trans h.f3⟩
theorem q4_new_f (w : World) (r g b a : Nat) : F4 (w.alloc (q4Obj r g b a)) w.heap.size := by
  unfold q4Obj
  exact ⟨by simp, by simp, by simp, by simp⟩
theorem belowD {B n : Nat} {a w : World} (h : Below B a w) : Below B a (w.drewN n) := h.trans ⟨rfl, rfl, rfl, Nat.le_refl _, fun _ _ => rfl⟩
theorem far4 (w : World) (k b o : Nat) (v1 v2 v3 v4 : Value) (h : k ≠ b) : ((((w.setCell ⟨k, 0, none⟩ v1).setCell ⟨k, 1, none⟩ v2).setCell ⟨k, 2, none⟩ v3).setCell ⟨k, 3, none⟩ v4).cell? ⟨b, o, none⟩ = w.cell? ⟨b, o, none⟩ := by
  rw [World.cell?_setCell_far _ _ _ _ h, World.cell?_setCell_far _ _ _ _ h, World.cell?_setCell_far _ _ _ _ h, World.cell?_setCell_far _ _ _ _ h]

/-- Four numbers' cells. -/
structure I4 (w : World) (k : Nat) (a b c d : Nat) : Prop where
  a : w.cell? ⟨k, 0, none⟩ = some (.int .i64 (a : Int))
  b : w.cell? ⟨k, 1, none⟩ = some (.int .i64 (b : Int))
  c : w.cell? ⟨k, 2, none⟩ = some (.int .i64 (c : Int))
  d : w.cell? ⟨k, 3, none⟩ = some (.int .i64 (d : Int))
theorem I4.lt {w : World} {k a b c d : Nat} (h : I4 w k a b c d) : k < w.heap.size := World.block_lt_of_cell? _ _ h.a
theorem I4.below {w w' : World} {k a b c d B : Nat} (h : I4 w k a b c d) (hb : Below B w w') (hB : k < B) : I4 w' k a b c d :=
  ⟨(hb.cell (p := ⟨k, 0, none⟩) hB).trans h.a, (hb.cell (p := ⟨k, 1, none⟩) hB).trans h.b, (hb.cell (p := ⟨k, 2, none⟩) hB).trans h.c, (hb.cell (p := ⟨k, 3, none⟩) hB).trans h.d⟩
theorem i4_laid (w : World) (t : TypeId) (a b c d : Nat) : I4 (w.alloc (.cells #[.int .i64 (a : Int), .int .i64 (b : Int), .int .i64 (c : Int), .int .i64 (d : Int)] t)) w.heap.size a b c d ∧ F4 (w.alloc (.cells #[.int .i64 (a : Int), .int .i64 (b : Int), .int .i64 (c : Int), .int .i64 (d : Int)] t)) w.heap.size ∧ Below w.heap.size w (w.alloc (.cells #[.int .i64 (a : Int), .int .i64 (b : Int), .int .i64 (c : Int), .int .i64 (d : Int)] t)) ∧ w.heap.size < (w.alloc (.cells #[.int .i64 (a : Int), .int .i64 (b : Int), .int .i64 (c : Int), .int .i64 (d : Int)] t)).heap.size :=
  ⟨⟨by simp, by simp, by simp, by simp⟩, ⟨by simp, by simp, by simp, by simp⟩, (Below.refl _ _).alloc (Nat.le_refl _) _, by simp⟩
end Go.Proofs.YtkdckcengmkhhajDoor
