/- Pixels over pixels: a color, the program's. -/
import Derived.Test.YtjhnneplknhmkahDoorOv1
namespace Go.Proofs.YtjhnneplknhmkahDoor
open Go.RowKit

set_option maxHeartbeats 4000000 in
set_option maxRecDepth 100000 in
theorem color_any (m a b s d ka kb km kc : Nat) (w : World) (hm : m ≤ 5) (ha : a ≤ 255) (hb : b ≤ 255) (hs : s ≤ 255) (hd : d ≤ 255) (h0 : 0 < Ov.cov a b)
    (ca : w.cell? ⟨ka, 0, none⟩ = some (.int .i64 (a : Int))) (cb : w.cell? ⟨kb, 0, none⟩ = some (.int .i64 (b : Int))) (cm : w.cell? ⟨km, 0, none⟩ = some (.func (.func (mf m)) #[] #[])) (cc : w.cell? ⟨kc, 0, none⟩ = some (.int .i64 (Ov.cov a b : Int))) :
    Calls Tryd.prog 77 #[.int .u8 (s : Int), .int .u8 (d : Int), .pointer (some ⟨ka, 0, none⟩), .pointer (some ⟨kb, 0, none⟩), .pointer (some ⟨km, 0, none⟩), .pointer (some ⟨kc, 0, none⟩)] w fun e w' => e = .returned (.int .u8 (Ov.col m a b s d : Int)) ∧ ∃ n, w' = w.drewN n := by
  have HM := hide (fun w => meet_any m s d w hm hs hd)
  have hmt := Ov.mt_le m s d hs hd
  have hco := Ov.cov_le a b ha hb
  have hnu := Ov.num_le m a b s d hb hs hd
  have hal := Ov.alone_le a b s d ha hb hs hd
  have HR := hide (fun w => prounded_any (Ov.num m a b s d) (255 * Ov.cov a b) w (by omega) (by omega) hnu)
  unfold Ov.col
  have h1 : a * (255 - b) * s ≤ 255 * 255 * 255 := Ov.three_le ha (by omega) hs
  have h2 : b * (255 - a) * d ≤ 255 * 255 * 255 := Ov.three_le hb (by omega) hd
  have h3 : a * b ≤ 255 * 255 := Nat.mul_le_mul ha hb
  have h4 : a * (255 - b) ≤ 255 * 255 := Nat.mul_le_mul ha (by omega)
  have h5 : b * (255 - a) ≤ 255 * 255 := Nat.mul_le_mul hb (by omega)
  have h6 : a * b * Ov.mt m s d ≤ 255 * 255 * 65025 := Ov.three_le ha hb hmt
  have en : Ov.num m a b s d = 255 * (a * (255 - b) * s + b * (255 - a) * d) + a * b * Ov.mt m s d := rfl
  generalize Ov.rnd (Ov.num m a b s d) (255 * Ov.cov a b) = R at *
  generalize Ov.num m a b s d = N at *
  generalize Ov.mt m s d = M at *
  generalize Ov.cov a b = C at *
  generalize Ov.alone a b s d = AL at *
  obtain ⟨x, hx⟩ : ∃ x, x = 255 - a := ⟨_, rfl⟩
  obtain ⟨y, hy⟩ : ∃ y, y = 255 - b := ⟨_, rfl⟩
  rw [← hx] at h2 h5 en
  rw [← hy] at h1 h4 en
  have zx : (255 : Int) - (a : Int) = (x : Int) := by omega
  have zy : (255 : Int) - (b : Int) = (y : Int) := by omega
  have hx2 : x ≤ 255 := by omega
  have hy2 : y ≤ 255 := by omega
  clear hx hy
  obtain ⟨p1, e1⟩ : ∃ p, p = a * y := ⟨_, rfl⟩
  obtain ⟨p2, e2⟩ : ∃ p, p = b * x := ⟨_, rfl⟩
  obtain ⟨p3, e3⟩ : ∃ p, p = a * b := ⟨_, rfl⟩
  rw [← e1] at h1 h4 en
  rw [← e2] at h2 h5 en
  rw [← e3] at h3 h6 en
  have z1 : (a : Int) * (y : Int) = (p1 : Int) := by rw [e1]; simp
  have z2 : (b : Int) * (x : Int) = (p2 : Int) := by rw [e2]; simp
  have z3 : (a : Int) * (b : Int) = (p3 : Int) := by rw [e3]; simp
  obtain ⟨p4, e4⟩ : ∃ p, p = p1 * s := ⟨_, rfl⟩
  obtain ⟨p5, e5⟩ : ∃ p, p = p2 * d := ⟨_, rfl⟩
  obtain ⟨p6, e6⟩ : ∃ p, p = p3 * M := ⟨_, rfl⟩
  rw [← e4] at h1 en
  rw [← e5] at h2 en
  rw [← e6] at h6 en
  have z4 : (p1 : Int) * (s : Int) = (p4 : Int) := by rw [e4]; simp
  have z5 : (p2 : Int) * (d : Int) = (p5 : Int) := by rw [e5]; simp
  have z6 : (p3 : Int) * (M : Int) = (p6 : Int) := by rw [e6]; simp
  have zN : (255 : Int) * ((p4 : Int) + (p5 : Int)) + (p6 : Int) = (N : Int) := by omega
  have zK : (((255 * C : Nat)) : Int) = 255 * (C : Int) := by omega
  rw [zK] at HR
  have w1 : IntKind.i64.wrap (p1 : Int) = (p1 : Int) := by rw [IntKind.wrap_i64]; omega
  have w2 : IntKind.i64.wrap (p2 : Int) = (p2 : Int) := by rw [IntKind.wrap_i64]; omega
  have w3 : IntKind.i64.wrap (p3 : Int) = (p3 : Int) := by rw [IntKind.wrap_i64]; omega
  have w4 : IntKind.i64.wrap (p4 : Int) = (p4 : Int) := by rw [IntKind.wrap_i64]; omega
  have w5 : IntKind.i64.wrap (p5 : Int) = (p5 : Int) := by rw [IntKind.wrap_i64]; omega
  have w6 : IntKind.i64.wrap (p6 : Int) = (p6 : Int) := by rw [IntKind.wrap_i64]; omega
  have w7 : IntKind.i64.wrap ((p4 : Int) + (p5 : Int)) = (p4 : Int) + (p5 : Int) := by rw [IntKind.wrap_i64]; omega
  have w8 : IntKind.i64.wrap (255 * ((p4 : Int) + (p5 : Int))) = 255 * ((p4 : Int) + (p5 : Int)) := by rw [IntKind.wrap_i64]; omega
  have w9 : IntKind.i64.wrap (N : Int) = (N : Int) := by rw [IntKind.wrap_i64]; omega
  have wK : IntKind.i64.wrap (255 * (C : Int)) = 255 * (C : Int) := by rw [IntKind.wrap_i64]; omega
  have wx : IntKind.i64.wrap (x : Int) = (x : Int) := by rw [IntKind.wrap_i64]; omega
  have wy : IntKind.i64.wrap (y : Int) = (y : Int) := by rw [IntKind.wrap_i64]; omega
  have hcf := mf_call m hm
  generalize mf m = F at *
  clear en zK e1 e2 e3 e4 e5 e6 hnu hal h0
  go_enter Tryd.func77, Tryd.ntmps77
  go_wp2_with fail
  go_quiet ((first | (go_at_call 78; exact Calls.quiet_of_same (unhide HR _)) | exact Calls.quiet_of_same (unhide HM _)))
  go_wp2
  go_ret
  exact ⟨rfl, _, rfl⟩
end Go.Proofs.YtjhnneplknhmkahDoor
