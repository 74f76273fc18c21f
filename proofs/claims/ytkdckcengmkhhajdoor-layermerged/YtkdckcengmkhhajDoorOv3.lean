/- Pixels over pixels: the program's. -/
import Derived.Test.YtkdckcengmkhhajDoorMg7
import Derived.Deep.RegionHeld
namespace Go.Proofs.YtkdckcengmkhhajDoor
open Go.RowKit

/-- The two pixels, boxed, and the answer's cells. -/
structure O3 (w w3 : World) (tr tg tb ta ur ug ub ua : Nat) (B : Nat) : Prop where
  size : w3.heap.size = B + 3
  t0 : Q4 w3 B tr tg tb ta
  u0 : Q4 w3 (B + 1) ur ug ub ua
  z0 : Q4 w3 (B + 2) 0 0 0 0
  f0 : F4 w3 (B + 2)
  below : Below B w w3
theorem O3.start (w : World) (tr tg tb ta ur ug ub ua : Nat) : O3 w (((w.alloc (q4Obj tr tg tb ta)).alloc (q4Obj ur ug ub ua)).alloc (q4Obj 0 0 0 0)) tr tg tb ta ur ug ub ua w.heap.size := by
  have e1 : (w.alloc (q4Obj tr tg tb ta)).heap.size = w.heap.size + 1 := by simp
  have e2 : ((w.alloc (q4Obj tr tg tb ta)).alloc (q4Obj ur ug ub ua)).heap.size = w.heap.size + 2 := by simp
  have h1 := q4_new (w.alloc (q4Obj tr tg tb ta)) ur ug ub ua
  have h2 := q4_new ((w.alloc (q4Obj tr tg tb ta)).alloc (q4Obj ur ug ub ua)) 0 0 0 0
  have h3 := q4_new_f ((w.alloc (q4Obj tr tg tb ta)).alloc (q4Obj ur ug ub ua)) 0 0 0 0
  rw [e1] at h1
  rw [e2] at h2 h3
  exact ⟨by simp, ((q4_new w tr tg tb ta).alloc _).alloc _, h1.alloc _, h2, h3, (((Below.refl _ _).alloc (Nat.le_refl _) _).alloc (by simp) _).alloc (by simp; omega) _⟩
/-- .. and two numbers of its own. -/
structure O5 (w w5 : World) (tr tg tb ta ur ug ub ua : Nat) (B ka kb : Nat) : Prop where
  size : w5.heap.size = B + 5
  t0 : Q4 w5 B tr tg tb ta
  u0 : Q4 w5 (B + 1) ur ug ub ua
  z0 : Q4 w5 (B + 2) 0 0 0 0
  f0 : F4 w5 (B + 2)
  below : Below B w w5
  a : w5.cell? ⟨ka, 0, none⟩ = some (.int .i64 (ta : Int))
  b : w5.cell? ⟨kb, 0, none⟩ = some (.int .i64 (ua : Int))
theorem two_new (w : World) (x y : Value) (t : TypeId) : ((w.alloc (.cells #[x] t)).alloc (.cells #[y] t)).drew.cell? ⟨w.heap.size, 0, none⟩ = some x ∧ ((w.alloc (.cells #[x] t)).alloc (.cells #[y] t)).drew.cell? ⟨w.heap.size + 1, 0, none⟩ = some y := by
  have e : (w.alloc (.cells #[x] t)).heap.size = w.heap.size + 1 := by simp
  constructor
  · show ((w.alloc (.cells #[x] t)).alloc (.cells #[y] t)).cell? ⟨w.heap.size, 0, none⟩ = some x
    rw [World.cell?_alloc_lt _ _ ⟨w.heap.size, 0, none⟩ (by simp), World.cell?_alloc_mark]; rfl
  · show ((w.alloc (.cells #[x] t)).alloc (.cells #[y] t)).cell? ⟨w.heap.size + 1, 0, none⟩ = some y
    rw [← e, World.cell?_alloc_mark]; rfl
theorem O3.two {w w3 : World} {tr tg tb ta ur ug ub ua B : Nat} (h : O3 w w3 tr tg tb ta ur ug ub ua B) (x y : Value) (t : TypeId) :
    ((w3.alloc (.cells #[x] t)).alloc (.cells #[y] t)).drew.heap.size = B + 5 ∧ Q4 ((w3.alloc (.cells #[x] t)).alloc (.cells #[y] t)).drew B tr tg tb ta ∧ Q4 ((w3.alloc (.cells #[x] t)).alloc (.cells #[y] t)).drew (B + 1) ur ug ub ua ∧ Q4 ((w3.alloc (.cells #[x] t)).alloc (.cells #[y] t)).drew (B + 2) 0 0 0 0 ∧ F4 ((w3.alloc (.cells #[x] t)).alloc (.cells #[y] t)).drew (B + 2) ∧ Below B w ((w3.alloc (.cells #[x] t)).alloc (.cells #[y] t)).drew := by
  have hb : Below w3.heap.size w3 ((w3.alloc (.cells #[x] t)).alloc (.cells #[y] t)).drew := (((Below.refl _ _).alloc (Nat.le_refl _) _).alloc (by simp) _).drew
  have hs := h.size
  refine ⟨?_, h.t0.below hb (by omega), h.u0.below hb (by omega), h.z0.below hb (by omega), h.f0.below hb (by omega), h.below.trans (hb.mono (by omega))⟩
  show ((w3.alloc (.cells #[x] t)).alloc (.cells #[y] t)).heap.size = B + 5
  simp [hs]

set_option maxHeartbeats 8000000 in
set_option maxRecDepth 100000 in
theorem overN_none (m tr tg tb ta ur ug ub ua : Nat) (w : World) (hm : m ≤ 5) (l4 : ta ≤ 255) (l8 : ua ≤ 255) (h0 : Ov.cov ta ua = 0) :
    Calls Tryd.prog 57 #[.int .i64 (m : Int), .agg #[.int .u8 (tr : Int), .int .u8 (tg : Int), .int .u8 (tb : Int), .int .u8 (ta : Int)], .agg #[.int .u8 (ur : Int), .int .u8 (ug : Int), .int .u8 (ub : Int), .int .u8 (ua : Int)]] w fun e w' => e = .returned (.tuple #[.agg #[.int .u8 0, .int .u8 0, .int .u8 0, .int .u8 0], .nilIface]) ∧ Below w.heap.size w w' := by
  have HO := hide (O3.start w tr tg tb ta ur ug ub ua)
  unfold q4Obj at HO
  have hz0 : ((0 : Nat) : Int) = 0 := rfl
  rw [hz0] at HO
  have hmf : ∀ (fn : Fn) (first cap : Array Value) (w : World), (Instr.makeFunc fn first cap).run Tryd.prog w = .ok (.func fn first cap) w := fun _ _ _ _ => rfl
  have hcl := Ov.cov_le ta ua l4 l8
  obtain ⟨B, hB⟩ : ∃ B, B = w.heap.size := ⟨_, rfl⟩
  have dm1 : decide ((m : Int) < 0) = false := decide_eq_false (by omega)
  have dm2 : decide ((m : Int) ≥ 6) = false := decide_eq_false (by omega)
  have dm3 : decide (6 ≤ (m : Int)) = false := decide_eq_false (by omega)
  have dm4 : decide (6 ≤ m) = false := decide_eq_false (by omega)
  have wa : IntKind.i64.wrap (ta : Int) = (ta : Int) := by rw [IntKind.wrap_i64]; omega
  have wb : IntKind.i64.wrap (ua : Int) = (ua : Int) := by rw [IntKind.wrap_i64]; omega
  obtain ⟨za, zb⟩ : ta = 0 ∧ ua = 0 := by
    refine ⟨?_, ?_⟩
    · rcases Nat.eq_zero_or_pos ta with q | q
      · exact q
      · exact absurd h0 (by have := Ov.cov_pos ta ua (.inl q) l8; omega)
    · rcases Nat.eq_zero_or_pos ua with q | q
      · exact q
      · exact absurd h0 (by have := Ov.cov_pos ta ua (.inr q) l8; omega)
  have HZ : Hid (ta = 0 ∧ ua = 0) := ⟨za, zb⟩
  clear za zb h0
  go_enter Tryd.func57, Tryd.ntmps57
  go_wp2_with fail
  generalize ((w.alloc (.cells #[.int .u8 (tr : Int), .int .u8 (tg : Int), .int .u8 (tb : Int), .int .u8 (ta : Int)] 42)).alloc (.cells #[.int .u8 (ur : Int), .int .u8 (ug : Int), .int .u8 (ub : Int), .int .u8 (ua : Int)] 42)).alloc (.cells #[.int .u8 0, .int .u8 0, .int .u8 0, .int .u8 0] 42) = w3 at *
  rw [← hB] at HO ⊢
  have HBE := hide hB
  clear hB
  have HT1 := hide ((unhide HO).two (.int .i64 (ta : Int)) (.int .i64 (ua : Int)) 2)
  have HT2 := hide ((unhide HO).two (.int .i64 (ua : Int)) (.int .i64 (ta : Int)) 2)
  have HN1 := hide (two_new w3 (.int .i64 (ta : Int)) (.int .i64 (ua : Int)) 2)
  have HN2 := hide (two_new w3 (.int .i64 (ua : Int)) (.int .i64 (ta : Int)) 2)
  obtain ⟨hsz, q4, q8, y4, f4, hb3⟩ := unhide HO
  have c1 := q4.a
  have c2 := q8.a
  have n1 : B < w3.heap.size := by omega
  have n2 : B + 1 < w3.heap.size := by omega
  have HSZ := hide hsz
  clear HO hsz hb3 q4 q8 y4 f4
  go_region_held (fun w' => w'.cell? ⟨B, 3, none⟩ = some (.int .u8 (ta : Int)) ∧ w'.cell? ⟨B + 1, 3, none⟩ = some (.int .u8 (ua : Int))) (go_keep) (fail)
  · generalize ((w3.alloc (.cells #[.int .i64 (ta : Int)] 2)).alloc (.cells #[.int .i64 (ua : Int)] 2)).drew = w5 at *
    have HO5 : Hid (O5 w w5 tr tg tb ta ur ug ub ua B w3.heap.size (w3.heap.size + 1)) := ⟨(unhide HT1).1, (unhide HT1).2.1, (unhide HT1).2.2.1, (unhide HT1).2.2.2.1, (unhide HT1).2.2.2.2.1, (unhide HT1).2.2.2.2.2, (unhide HN1).1, (unhide HN1).2⟩
    have hk1 : w3.heap.size < w5.heap.size := by have := (unhide HT1).1; have := unhide HSZ; omega
    have hk2 : w3.heap.size + 1 < w5.heap.size := by have := (unhide HT1).1; have := unhide HSZ; omega
    have HK3 : Hid (w3.heap.size = B + 3) := unhide HSZ
    clear HT1 HT2 HN1 HN2 HSZ c1 c2 n1 n2
    generalize w3.heap.size = k at *
    obtain ⟨hsz, ⟨q1, q2, q3, q4⟩, ⟨q5, q6, q7, q8⟩, ⟨y1, y2, y3, y4⟩, ⟨f0, f1, f2, f3⟩, hb5, c1, c2⟩ := unhide HO5
    have n0 : B < w5.heap.size := by omega
    have n1 : B + 1 < w5.heap.size := by omega
    have n2 : B + 2 < w5.heap.size := by omega
    have HSZ := hide hsz
    have HB5 := hide hb5
    clear hsz hb5 HO5
    obtain ⟨za, zb⟩ := unhide HZ
    rw [za] at c1
    rw [zb] at c2
    clear HZ za zb
    go_wp2
    refine bodyPost_ret (v := .tuple #[.agg #[.int .u8 0, .int .u8 0, .int .u8 0, .int .u8 0], .nilIface]) ?_ rfl ⟨rfl, ?_⟩
    · rw [results_ct (p := 6) (ty := 42) (u := 7) (by kernel_rfl)]
      go_simp
    · rw [← unhide HBE]
      exact (((((unhide HB5).setCell (p := ⟨B + 1 + 1, 0, none⟩) (by show B ≤ B + 1 + 1; omega) _).setCell (p := ⟨B + 1 + 1, 1, none⟩) (by show B ≤ B + 1 + 1; omega) _).setCell (p := ⟨B + 1 + 1, 2, none⟩) (by show B ≤ B + 1 + 1; omega) _).setCell (p := ⟨B + 1 + 1, 3, none⟩) (by show B ≤ B + 1 + 1; omega) _).alloc (by have := unhide HSZ; simp; omega) _
  · generalize ((w3.alloc (.cells #[.int .i64 (ua : Int)] 2)).alloc (.cells #[.int .i64 (ta : Int)] 2)).drew = w5 at *
    have HO5 : Hid (O5 w w5 tr tg tb ta ur ug ub ua B (w3.heap.size + 1) w3.heap.size) := ⟨(unhide HT2).1, (unhide HT2).2.1, (unhide HT2).2.2.1, (unhide HT2).2.2.2.1, (unhide HT2).2.2.2.2.1, (unhide HT2).2.2.2.2.2, (unhide HN2).2, (unhide HN2).1⟩
    have hk1 : w3.heap.size < w5.heap.size := by have := (unhide HT2).1; have := unhide HSZ; omega
    have hk2 : w3.heap.size + 1 < w5.heap.size := by have := (unhide HT2).1; have := unhide HSZ; omega
    have HK3 : Hid (w3.heap.size = B + 3) := unhide HSZ
    clear HT1 HT2 HN1 HN2 HSZ c1 c2 n1 n2
    generalize w3.heap.size = k at *
    obtain ⟨hsz, ⟨q1, q2, q3, q4⟩, ⟨q5, q6, q7, q8⟩, ⟨y1, y2, y3, y4⟩, ⟨f0, f1, f2, f3⟩, hb5, c1, c2⟩ := unhide HO5
    have n0 : B < w5.heap.size := by omega
    have n1 : B + 1 < w5.heap.size := by omega
    have n2 : B + 2 < w5.heap.size := by omega
    have HSZ := hide hsz
    have HB5 := hide hb5
    clear hsz hb5 HO5
    obtain ⟨za, zb⟩ := unhide HZ
    rw [za] at c1
    rw [zb] at c2
    clear HZ za zb
    go_wp2
    refine bodyPost_ret (v := .tuple #[.agg #[.int .u8 0, .int .u8 0, .int .u8 0, .int .u8 0], .nilIface]) ?_ rfl ⟨rfl, ?_⟩
    · rw [results_ct (p := 6) (ty := 42) (u := 7) (by kernel_rfl)]
      go_simp
    · rw [← unhide HBE]
      exact (((((unhide HB5).setCell (p := ⟨B + 1 + 1, 0, none⟩) (by show B ≤ B + 1 + 1; omega) _).setCell (p := ⟨B + 1 + 1, 1, none⟩) (by show B ≤ B + 1 + 1; omega) _).setCell (p := ⟨B + 1 + 1, 2, none⟩) (by show B ≤ B + 1 + 1; omega) _).setCell (p := ⟨B + 1 + 1, 3, none⟩) (by show B ≤ B + 1 + 1; omega) _).alloc (by have := unhide HSZ; simp; omega) _

set_option maxHeartbeats 8000000 in
set_option maxRecDepth 100000 in
theorem overN_some (m tr tg tb ta ur ug ub ua : Nat) (w : World) (hm : m ≤ 5) (l1 : tr ≤ 255) (l2 : tg ≤ 255) (l3 : tb ≤ 255) (l5 : ur ≤ 255) (l6 : ug ≤ 255) (l7 : ub ≤ 255) (l4 : ta ≤ 255) (l8 : ua ≤ 255) (h0 : 0 < Ov.cov ta ua) :
    Calls Tryd.prog 57 #[.int .i64 (m : Int), .agg #[.int .u8 (tr : Int), .int .u8 (tg : Int), .int .u8 (tb : Int), .int .u8 (ta : Int)], .agg #[.int .u8 (ur : Int), .int .u8 (ug : Int), .int .u8 (ub : Int), .int .u8 (ua : Int)]] w fun e w' => e = .returned (.tuple #[.agg #[.int .u8 (Ov.col m ta ua tr ur : Int), .int .u8 (Ov.col m ta ua tg ug : Int), .int .u8 (Ov.col m ta ua tb ub : Int), .int .u8 (Ov.rnd (Ov.cov ta ua) 255 : Int)], .nilIface]) ∧ Below w.heap.size w w' := by
  have HO := hide (O3.start w tr tg tb ta ur ug ub ua)
  unfold q4Obj at HO
  have hz0 : ((0 : Nat) : Int) = 0 := rfl
  rw [hz0] at HO
  have hmf : ∀ (fn : Fn) (first cap : Array Value) (w : World), (Instr.makeFunc fn first cap).run Tryd.prog w = .ok (.func fn first cap) w := fun _ _ _ _ => rfl
  have hcl := Ov.cov_le ta ua l4 l8
  obtain ⟨B, hB⟩ : ∃ B, B = w.heap.size := ⟨_, rfl⟩
  have dm1 : decide ((m : Int) < 0) = false := decide_eq_false (by omega)
  have dm2 : decide ((m : Int) ≥ 6) = false := decide_eq_false (by omega)
  have dm3 : decide (6 ≤ (m : Int)) = false := decide_eq_false (by omega)
  have dm4 : decide (6 ≤ m) = false := decide_eq_false (by omega)
  have wa : IntKind.i64.wrap (ta : Int) = (ta : Int) := by rw [IntKind.wrap_i64]; omega
  have wb : IntKind.i64.wrap (ua : Int) = (ua : Int) := by rw [IntKind.wrap_i64]; omega
  obtain ⟨x, hx⟩ : ∃ x, x = 255 - ta := ⟨_, rfl⟩
  have zx : (255 : Int) - (ta : Int) = (x : Int) := by omega
  obtain ⟨p, hp⟩ : ∃ p, p = ua * x := ⟨_, rfl⟩
  have zp : (ua : Int) * (x : Int) = (p : Int) := by rw [hp]; simp
  obtain ⟨C, hC⟩ : ∃ C, C = Ov.cov ta ua := ⟨_, rfl⟩
  have zC : 255 * (ta : Int) + (p : Int) = (C : Int) := by rw [hC, hp, hx]; unfold Ov.cov; simp
  have hpl : p ≤ 255 * 255 := by rw [hp]; exact Nat.mul_le_mul l8 (by omega)
  have wp' : IntKind.i64.wrap (p : Int) = (p : Int) := by rw [IntKind.wrap_i64]; omega
  have wC : IntKind.i64.wrap (C : Int) = (C : Int) := by rw [IntKind.wrap_i64]; omega
  have wx : IntKind.i64.wrap (x : Int) = (x : Int) := by rw [IntKind.wrap_i64]; omega
  have C0 : ((C : Int) == 0) = false := beq_eq_false_iff_ne.2 (by omega)
  have HC1 := hide (fun ka kb km kc w a b c d => color_any m ta ua tr ur ka kb km kc w hm l4 l8 l1 l5 h0 a b c d)
  have HC2 := hide (fun ka kb km kc w a b c d => color_any m ta ua tg ug ka kb km kc w hm l4 l8 l2 l6 h0 a b c d)
  have HC3 := hide (fun ka kb km kc w a b c d => color_any m ta ua tb ub ka kb km kc w hm l4 l8 l3 l7 h0 a b c d)
  have HC4 := hide (fun w => prounded_any (Ov.cov ta ua) 255 w (by omega) (by omega) (by omega))
  generalize Ov.col m ta ua tr ur = c1 at *
  generalize Ov.col m ta ua tg ug = c2 at *
  generalize Ov.col m ta ua tb ub = c3 at *
  rw [← hC] at HC1 HC2 HC3 HC4 ⊢
  generalize Ov.rnd C 255 = c4 at *
  have hmi := mf_index m hm
  have hm6 : m < 6 := by omega
  clear hx hp hC h0 hcl
  go_enter Tryd.func57, Tryd.ntmps57
  go_wp2_with fail
  generalize ((w.alloc (.cells #[.int .u8 (tr : Int), .int .u8 (tg : Int), .int .u8 (tb : Int), .int .u8 (ta : Int)] 42)).alloc (.cells #[.int .u8 (ur : Int), .int .u8 (ug : Int), .int .u8 (ub : Int), .int .u8 (ua : Int)] 42)).alloc (.cells #[.int .u8 0, .int .u8 0, .int .u8 0, .int .u8 0] 42) = w3 at *
  rw [← hB] at HO ⊢
  have HBE := hide hB
  clear hB
  have HT1 := hide ((unhide HO).two (.int .i64 (ta : Int)) (.int .i64 (ua : Int)) 2)
  have HT2 := hide ((unhide HO).two (.int .i64 (ua : Int)) (.int .i64 (ta : Int)) 2)
  have HN1 := hide (two_new w3 (.int .i64 (ta : Int)) (.int .i64 (ua : Int)) 2)
  have HN2 := hide (two_new w3 (.int .i64 (ua : Int)) (.int .i64 (ta : Int)) 2)
  obtain ⟨hsz, q4, q8, y4, f4, hb3⟩ := unhide HO
  have c1 := q4.a
  have c2 := q8.a
  have n1 : B < w3.heap.size := by omega
  have n2 : B + 1 < w3.heap.size := by omega
  have HSZ := hide hsz
  clear HO hsz hb3 q4 q8 y4 f4
  go_region_held (fun w' => w'.cell? ⟨B, 3, none⟩ = some (.int .u8 (ta : Int)) ∧ w'.cell? ⟨B + 1, 3, none⟩ = some (.int .u8 (ua : Int))) (go_keep) (fail)
  · generalize ((w3.alloc (.cells #[.int .i64 (ta : Int)] 2)).alloc (.cells #[.int .i64 (ua : Int)] 2)).drew = w5 at *
    have HO5 : Hid (O5 w w5 tr tg tb ta ur ug ub ua B w3.heap.size (w3.heap.size + 1)) := ⟨(unhide HT1).1, (unhide HT1).2.1, (unhide HT1).2.2.1, (unhide HT1).2.2.2.1, (unhide HT1).2.2.2.2.1, (unhide HT1).2.2.2.2.2, (unhide HN1).1, (unhide HN1).2⟩
    have hk1 : w3.heap.size < w5.heap.size := by have := (unhide HT1).1; have := unhide HSZ; omega
    have hk2 : w3.heap.size + 1 < w5.heap.size := by have := (unhide HT1).1; have := unhide HSZ; omega
    have HK3 : Hid (w3.heap.size = B + 3) := unhide HSZ
    clear HT1 HT2 HN1 HN2 HSZ c1 c2 n1 n2
    generalize w3.heap.size = k at *
    obtain ⟨hsz, ⟨q1, q2, q3, q4⟩, ⟨q5, q6, q7, q8⟩, ⟨y1, y2, y3, y4⟩, ⟨f0, f1, f2, f3⟩, hb5, c1, c2⟩ := unhide HO5
    have n0 : B < w5.heap.size := by omega
    have n1 : B + 1 < w5.heap.size := by omega
    have n2 : B + 2 < w5.heap.size := by omega
    have HSZ := hide hsz
    have HB5 := hide hb5
    clear hsz hb5 HO5
    go_wp2_with fail
    refine (meetings_any _).mono ?_
    rintro e w6 ⟨rfl, hb6⟩
    have hW : Below w5.heap.size w5 (w5.alloc (.cells #[.int .i64 (C : Int)] 2)) := (Below.refl _ _).alloc (Nat.le_refl _) _
    have hall : Below w5.heap.size w5 w6 := hW.trans (hb6.mono (by simp))
    have cC : w6.cell? ⟨w5.heap.size, 0, none⟩ = some (.int .i64 (C : Int)) := (hb6.cell (p := ⟨w5.heap.size, 0, none⟩) (by simp)).trans (by simp)
    have n6 : w5.heap.size < w6.heap.size := by have := hb6.size; simp at this; omega
    have q1' := (hall.cell (p := ⟨B, 0, none⟩) (by simp only; omega)).trans q1
    have q2' := (hall.cell (p := ⟨B, 1, none⟩) (by simp only; omega)).trans q2
    have q3' := (hall.cell (p := ⟨B, 2, none⟩) (by simp only; omega)).trans q3
    have q5' := (hall.cell (p := ⟨B + 1, 0, none⟩) (by simp only; omega)).trans q5
    have q6' := (hall.cell (p := ⟨B + 1, 1, none⟩) (by simp only; omega)).trans q6
    have q7' := (hall.cell (p := ⟨B + 1, 2, none⟩) (by simp only; omega)).trans q7
    have c1' := (hall.cell (p := ⟨k, 0, none⟩) (by simp only; omega)).trans c1
    have c2' := (hall.cell (p := ⟨k + 1, 0, none⟩) (by simp only; omega)).trans c2
    have y1' := (hall.cell (p := ⟨B + 2, 0, none⟩) (by simp only; omega)).trans y1
    have y2' := (hall.cell (p := ⟨B + 2, 1, none⟩) (by simp only; omega)).trans y2
    have y3' := (hall.cell (p := ⟨B + 2, 2, none⟩) (by simp only; omega)).trans y3
    have y4' := (hall.cell (p := ⟨B + 2, 3, none⟩) (by simp only; omega)).trans y4
    have f0' := (hall.frozen (p := ⟨B + 2, 0, none⟩) (by simp only; omega)).trans f0
    have f1' := (hall.frozen (p := ⟨B + 2, 1, none⟩) (by simp only; omega)).trans f1
    have f2' := (hall.frozen (p := ⟨B + 2, 2, none⟩) (by simp only; omega)).trans f2
    have f3' := (hall.frozen (p := ⟨B + 2, 3, none⟩) (by simp only; omega)).trans f3
    have HB6 := hide ((unhide HB5).trans (hall.mono (by omega)))
    have hkc : B + 2 < w5.heap.size := n2
    have k1 : B < w6.heap.size := by omega
    have k2 : B + 1 < w6.heap.size := by omega
    have k3 : B + 2 < w6.heap.size := by omega
    have k4 : k < w6.heap.size := by omega
    have k5 : k + 1 < w6.heap.size := by omega
    have hkk : B + 2 < k := by have := unhide HK3; omega
    have HSZ6 := hide (show B ≤ w6.heap.size by omega)
    clear HB5 HSZ hall hW hb6 q1 q2 q3 q4 q5 q6 q7 q8 y1 y2 y3 y4 f0 f1 f2 f3 c1 c2 n0 n1 n2 hk1 hk2
    generalize w5.heap.size = kc at *
    go_wp2_with fail
    have hA : Below w6.heap.size w6 (w6.alloc (.cells #[.func (.func (mf m)) #[] #[]] 123)) := (Below.refl _ _).alloc (Nat.le_refl _) _
    have cM : (w6.alloc (.cells #[.func (.func (mf m)) #[] #[]] 123)).cell? ⟨w6.heap.size, 0, none⟩ = some (.func (.func (mf m)) #[] #[]) := by simp
    have r_q1 := (hA.cell (p := ⟨B, 0, none⟩) (by simp only; omega)).trans q1'
    have r_q2 := (hA.cell (p := ⟨B, 1, none⟩) (by simp only; omega)).trans q2'
    have r_q3 := (hA.cell (p := ⟨B, 2, none⟩) (by simp only; omega)).trans q3'
    have r_q5 := (hA.cell (p := ⟨B + 1, 0, none⟩) (by simp only; omega)).trans q5'
    have r_q6 := (hA.cell (p := ⟨B + 1, 1, none⟩) (by simp only; omega)).trans q6'
    have r_q7 := (hA.cell (p := ⟨B + 1, 2, none⟩) (by simp only; omega)).trans q7'
    have r_c1 := (hA.cell (p := ⟨k, 0, none⟩) (by simp only; omega)).trans c1'
    have r_c2 := (hA.cell (p := ⟨k + 1, 0, none⟩) (by simp only; omega)).trans c2'
    have r_cC := (hA.cell (p := ⟨kc, 0, none⟩) (by simp only; omega)).trans cC
    have r_y1 := (hA.cell (p := ⟨B + 2, 0, none⟩) (by simp only; omega)).trans y1'
    have r_y2 := (hA.cell (p := ⟨B + 2, 1, none⟩) (by simp only; omega)).trans y2'
    have r_y3 := (hA.cell (p := ⟨B + 2, 2, none⟩) (by simp only; omega)).trans y3'
    have r_y4 := (hA.cell (p := ⟨B + 2, 3, none⟩) (by simp only; omega)).trans y4'
    have r_f0 := (hA.frozen (p := ⟨B + 2, 0, none⟩) (by simp only; omega)).trans f0'
    have r_f1 := (hA.frozen (p := ⟨B + 2, 1, none⟩) (by simp only; omega)).trans f1'
    have r_f2 := (hA.frozen (p := ⟨B + 2, 2, none⟩) (by simp only; omega)).trans f2'
    have r_f3 := (hA.frozen (p := ⟨B + 2, 3, none⟩) (by simp only; omega)).trans f3'
    have HB7 := hide ((unhide HB6).trans (hA.mono (by omega)))
    have HL : Hid (w6.heap.size < (w6.alloc (.cells #[.func (.func (mf m)) #[] #[]] 123)).heap.size) := by show w6.heap.size < _; simp
    clear hA HB6 q1' q2' q3' q5' q6' q7' c1' c2' cC y1' y2' y3' y4' f0' f1' f2' f3'
    generalize w6.alloc (.cells #[.func (.func (mf m)) #[] #[]] 123) = w7 at *
    have x1 : B + 2 ≠ k := by omega
    have x2 : B + 2 ≠ k + 1 := by omega
    have x3 : B + 2 ≠ kc := by omega
    have x4 : B + 2 ≠ w6.heap.size := by omega
    have x5 : B + 2 ≠ B := by omega
    have x6 : B + 2 ≠ B + 1 := by omega
    have HX := hide x5
    clear k1 k2 k3 k4 k5 n6 hkk hkc x5 x6
    generalize w6.heap.size = km at *
    go_region_held (fun w' => w'.cell? ⟨B, 0, none⟩ = some (.int .u8 (tr : Int)) ∧ w'.cell? ⟨B, 1, none⟩ = some (.int .u8 (tg : Int)) ∧ w'.cell? ⟨B, 2, none⟩ = some (.int .u8 (tb : Int)) ∧ w'.cell? ⟨B + 1, 0, none⟩ = some (.int .u8 (ur : Int)) ∧ w'.cell? ⟨B + 1, 1, none⟩ = some (.int .u8 (ug : Int)) ∧ w'.cell? ⟨B + 1, 2, none⟩ = some (.int .u8 (ub : Int)) ∧ w'.cell? ⟨k, 0, none⟩ = some (.int .i64 (ta : Int)) ∧ w'.cell? ⟨k + 1, 0, none⟩ = some (.int .i64 (ua : Int)) ∧ w'.cell? ⟨km, 0, none⟩ = some (.func (.func (mf m)) #[] #[]) ∧ w'.cell? ⟨kc, 0, none⟩ = some (.int .i64 (C : Int))) (first | (go_keep; done) | (refine ⟨(far4 _ _ _ _ _ _ _ _ (by omega)).trans ?_, (far4 _ _ _ _ _ _ _ _ (by omega)).trans ?_, (far4 _ _ _ _ _ _ _ _ (by omega)).trans ?_, (far4 _ _ _ _ _ _ _ _ (by omega)).trans ?_, (far4 _ _ _ _ _ _ _ _ (by omega)).trans ?_, (far4 _ _ _ _ _ _ _ _ (by omega)).trans ?_, (far4 _ _ _ _ _ _ _ _ (by omega)).trans ?_, (far4 _ _ _ _ _ _ _ _ (by omega)).trans ?_, (far4 _ _ _ _ _ _ _ _ (by omega)).trans ?_, (far4 _ _ _ _ _ _ _ _ (by omega)).trans ?_⟩ <;> simp [*])) (first
      | (go_at_call 80; refine (unhide HC4 _).mono ?_; rintro e w8 ⟨rfl, rfl⟩)
      | (go_at_call_of 79 tr; refine (unhide HC1 (k) (k + 1) km kc _ (by simp [*]) (by simp [*]) (by simp [*]) (by simp [*])).mono ?_; rintro e w8 ⟨rfl, n8, rfl⟩)
      | (go_at_call_of 79 tg; refine (unhide HC2 (k) (k + 1) km kc _ (by simp [*]) (by simp [*]) (by simp [*]) (by simp [*])).mono ?_; rintro e w8 ⟨rfl, n8, rfl⟩)
      | (go_at_call_of 79 tb; refine (unhide HC3 (k) (k + 1) km kc _ (by simp [*]) (by simp [*]) (by simp [*]) (by simp [*])).mono ?_; rintro e w8 ⟨rfl, n8, rfl⟩))
    go_wp2
    refine bodyPost_ret (v := .tuple #[.agg #[.int .u8 (c1 : Int), .int .u8 (c2 : Int), .int .u8 (c3 : Int), .int .u8 (c4 : Int)], .nilIface]) ?_ rfl ⟨rfl, ?_⟩
    · rw [results_ct (p := 6) (ty := 42) (u := 7) (by kernel_rfl)]
      go_simp
    · rw [← unhide HBE]
      exact ((((belowD (unhide HB7)).setCell (p := ⟨B + 1 + 1, 0, none⟩) (by show B ≤ B + 1 + 1; omega) _).setCell (p := ⟨B + 1 + 1, 1, none⟩) (by show B ≤ B + 1 + 1; omega) _).setCell (p := ⟨B + 1 + 1, 2, none⟩) (by show B ≤ B + 1 + 1; omega) _).setCell (p := ⟨B + 1 + 1, 3, none⟩) (by show B ≤ B + 1 + 1; omega) _
  · generalize ((w3.alloc (.cells #[.int .i64 (ua : Int)] 2)).alloc (.cells #[.int .i64 (ta : Int)] 2)).drew = w5 at *
    have HO5 : Hid (O5 w w5 tr tg tb ta ur ug ub ua B (w3.heap.size + 1) w3.heap.size) := ⟨(unhide HT2).1, (unhide HT2).2.1, (unhide HT2).2.2.1, (unhide HT2).2.2.2.1, (unhide HT2).2.2.2.2.1, (unhide HT2).2.2.2.2.2, (unhide HN2).2, (unhide HN2).1⟩
    have hk1 : w3.heap.size < w5.heap.size := by have := (unhide HT2).1; have := unhide HSZ; omega
    have hk2 : w3.heap.size + 1 < w5.heap.size := by have := (unhide HT2).1; have := unhide HSZ; omega
    have HK3 : Hid (w3.heap.size = B + 3) := unhide HSZ
    clear HT1 HT2 HN1 HN2 HSZ c1 c2 n1 n2
    generalize w3.heap.size = k at *
    obtain ⟨hsz, ⟨q1, q2, q3, q4⟩, ⟨q5, q6, q7, q8⟩, ⟨y1, y2, y3, y4⟩, ⟨f0, f1, f2, f3⟩, hb5, c1, c2⟩ := unhide HO5
    have n0 : B < w5.heap.size := by omega
    have n1 : B + 1 < w5.heap.size := by omega
    have n2 : B + 2 < w5.heap.size := by omega
    have HSZ := hide hsz
    have HB5 := hide hb5
    clear hsz hb5 HO5
    go_wp2_with fail
    refine (meetings_any _).mono ?_
    rintro e w6 ⟨rfl, hb6⟩
    have hW : Below w5.heap.size w5 (w5.alloc (.cells #[.int .i64 (C : Int)] 2)) := (Below.refl _ _).alloc (Nat.le_refl _) _
    have hall : Below w5.heap.size w5 w6 := hW.trans (hb6.mono (by simp))
    have cC : w6.cell? ⟨w5.heap.size, 0, none⟩ = some (.int .i64 (C : Int)) := (hb6.cell (p := ⟨w5.heap.size, 0, none⟩) (by simp)).trans (by simp)
    have n6 : w5.heap.size < w6.heap.size := by have := hb6.size; simp at this; omega
    have q1' := (hall.cell (p := ⟨B, 0, none⟩) (by simp only; omega)).trans q1
    have q2' := (hall.cell (p := ⟨B, 1, none⟩) (by simp only; omega)).trans q2
    have q3' := (hall.cell (p := ⟨B, 2, none⟩) (by simp only; omega)).trans q3
    have q5' := (hall.cell (p := ⟨B + 1, 0, none⟩) (by simp only; omega)).trans q5
    have q6' := (hall.cell (p := ⟨B + 1, 1, none⟩) (by simp only; omega)).trans q6
    have q7' := (hall.cell (p := ⟨B + 1, 2, none⟩) (by simp only; omega)).trans q7
    have c1' := (hall.cell (p := ⟨k + 1, 0, none⟩) (by simp only; omega)).trans c1
    have c2' := (hall.cell (p := ⟨k, 0, none⟩) (by simp only; omega)).trans c2
    have y1' := (hall.cell (p := ⟨B + 2, 0, none⟩) (by simp only; omega)).trans y1
    have y2' := (hall.cell (p := ⟨B + 2, 1, none⟩) (by simp only; omega)).trans y2
    have y3' := (hall.cell (p := ⟨B + 2, 2, none⟩) (by simp only; omega)).trans y3
    have y4' := (hall.cell (p := ⟨B + 2, 3, none⟩) (by simp only; omega)).trans y4
    have f0' := (hall.frozen (p := ⟨B + 2, 0, none⟩) (by simp only; omega)).trans f0
    have f1' := (hall.frozen (p := ⟨B + 2, 1, none⟩) (by simp only; omega)).trans f1
    have f2' := (hall.frozen (p := ⟨B + 2, 2, none⟩) (by simp only; omega)).trans f2
    have f3' := (hall.frozen (p := ⟨B + 2, 3, none⟩) (by simp only; omega)).trans f3
    have HB6 := hide ((unhide HB5).trans (hall.mono (by omega)))
    have hkc : B + 2 < w5.heap.size := n2
    have k1 : B < w6.heap.size := by omega
    have k2 : B + 1 < w6.heap.size := by omega
    have k3 : B + 2 < w6.heap.size := by omega
    have k4 : k < w6.heap.size := by omega
    have k5 : k + 1 < w6.heap.size := by omega
    have hkk : B + 2 < k := by have := unhide HK3; omega
    have HSZ6 := hide (show B ≤ w6.heap.size by omega)
    clear HB5 HSZ hall hW hb6 q1 q2 q3 q4 q5 q6 q7 q8 y1 y2 y3 y4 f0 f1 f2 f3 c1 c2 n0 n1 n2 hk1 hk2
    generalize w5.heap.size = kc at *
    go_wp2_with fail
    have hA : Below w6.heap.size w6 (w6.alloc (.cells #[.func (.func (mf m)) #[] #[]] 123)) := (Below.refl _ _).alloc (Nat.le_refl _) _
    have cM : (w6.alloc (.cells #[.func (.func (mf m)) #[] #[]] 123)).cell? ⟨w6.heap.size, 0, none⟩ = some (.func (.func (mf m)) #[] #[]) := by simp
    have r_q1 := (hA.cell (p := ⟨B, 0, none⟩) (by simp only; omega)).trans q1'
    have r_q2 := (hA.cell (p := ⟨B, 1, none⟩) (by simp only; omega)).trans q2'
    have r_q3 := (hA.cell (p := ⟨B, 2, none⟩) (by simp only; omega)).trans q3'
    have r_q5 := (hA.cell (p := ⟨B + 1, 0, none⟩) (by simp only; omega)).trans q5'
    have r_q6 := (hA.cell (p := ⟨B + 1, 1, none⟩) (by simp only; omega)).trans q6'
    have r_q7 := (hA.cell (p := ⟨B + 1, 2, none⟩) (by simp only; omega)).trans q7'
    have r_c1 := (hA.cell (p := ⟨k + 1, 0, none⟩) (by simp only; omega)).trans c1'
    have r_c2 := (hA.cell (p := ⟨k, 0, none⟩) (by simp only; omega)).trans c2'
    have r_cC := (hA.cell (p := ⟨kc, 0, none⟩) (by simp only; omega)).trans cC
    have r_y1 := (hA.cell (p := ⟨B + 2, 0, none⟩) (by simp only; omega)).trans y1'
    have r_y2 := (hA.cell (p := ⟨B + 2, 1, none⟩) (by simp only; omega)).trans y2'
    have r_y3 := (hA.cell (p := ⟨B + 2, 2, none⟩) (by simp only; omega)).trans y3'
    have r_y4 := (hA.cell (p := ⟨B + 2, 3, none⟩) (by simp only; omega)).trans y4'
    have r_f0 := (hA.frozen (p := ⟨B + 2, 0, none⟩) (by simp only; omega)).trans f0'
    have r_f1 := (hA.frozen (p := ⟨B + 2, 1, none⟩) (by simp only; omega)).trans f1'
    have r_f2 := (hA.frozen (p := ⟨B + 2, 2, none⟩) (by simp only; omega)).trans f2'
    have r_f3 := (hA.frozen (p := ⟨B + 2, 3, none⟩) (by simp only; omega)).trans f3'
    have HB7 := hide ((unhide HB6).trans (hA.mono (by omega)))
    have HL : Hid (w6.heap.size < (w6.alloc (.cells #[.func (.func (mf m)) #[] #[]] 123)).heap.size) := by show w6.heap.size < _; simp
    clear hA HB6 q1' q2' q3' q5' q6' q7' c1' c2' cC y1' y2' y3' y4' f0' f1' f2' f3'
    generalize w6.alloc (.cells #[.func (.func (mf m)) #[] #[]] 123) = w7 at *
    have x1 : B + 2 ≠ k := by omega
    have x2 : B + 2 ≠ k + 1 := by omega
    have x3 : B + 2 ≠ kc := by omega
    have x4 : B + 2 ≠ w6.heap.size := by omega
    have x5 : B + 2 ≠ B := by omega
    have x6 : B + 2 ≠ B + 1 := by omega
    have HX := hide x5
    clear k1 k2 k3 k4 k5 n6 hkk hkc x5 x6
    generalize w6.heap.size = km at *
    go_region_held (fun w' => w'.cell? ⟨B, 0, none⟩ = some (.int .u8 (tr : Int)) ∧ w'.cell? ⟨B, 1, none⟩ = some (.int .u8 (tg : Int)) ∧ w'.cell? ⟨B, 2, none⟩ = some (.int .u8 (tb : Int)) ∧ w'.cell? ⟨B + 1, 0, none⟩ = some (.int .u8 (ur : Int)) ∧ w'.cell? ⟨B + 1, 1, none⟩ = some (.int .u8 (ug : Int)) ∧ w'.cell? ⟨B + 1, 2, none⟩ = some (.int .u8 (ub : Int)) ∧ w'.cell? ⟨k + 1, 0, none⟩ = some (.int .i64 (ta : Int)) ∧ w'.cell? ⟨k, 0, none⟩ = some (.int .i64 (ua : Int)) ∧ w'.cell? ⟨km, 0, none⟩ = some (.func (.func (mf m)) #[] #[]) ∧ w'.cell? ⟨kc, 0, none⟩ = some (.int .i64 (C : Int))) (first | (go_keep; done) | (refine ⟨(far4 _ _ _ _ _ _ _ _ (by omega)).trans ?_, (far4 _ _ _ _ _ _ _ _ (by omega)).trans ?_, (far4 _ _ _ _ _ _ _ _ (by omega)).trans ?_, (far4 _ _ _ _ _ _ _ _ (by omega)).trans ?_, (far4 _ _ _ _ _ _ _ _ (by omega)).trans ?_, (far4 _ _ _ _ _ _ _ _ (by omega)).trans ?_, (far4 _ _ _ _ _ _ _ _ (by omega)).trans ?_, (far4 _ _ _ _ _ _ _ _ (by omega)).trans ?_, (far4 _ _ _ _ _ _ _ _ (by omega)).trans ?_, (far4 _ _ _ _ _ _ _ _ (by omega)).trans ?_⟩ <;> simp [*])) (first
      | (go_at_call 80; refine (unhide HC4 _).mono ?_; rintro e w8 ⟨rfl, rfl⟩)
      | (go_at_call_of 79 tr; refine (unhide HC1 (k + 1) (k) km kc _ (by simp [*]) (by simp [*]) (by simp [*]) (by simp [*])).mono ?_; rintro e w8 ⟨rfl, n8, rfl⟩)
      | (go_at_call_of 79 tg; refine (unhide HC2 (k + 1) (k) km kc _ (by simp [*]) (by simp [*]) (by simp [*]) (by simp [*])).mono ?_; rintro e w8 ⟨rfl, n8, rfl⟩)
      | (go_at_call_of 79 tb; refine (unhide HC3 (k + 1) (k) km kc _ (by simp [*]) (by simp [*]) (by simp [*]) (by simp [*])).mono ?_; rintro e w8 ⟨rfl, n8, rfl⟩))
    go_wp2
    refine bodyPost_ret (v := .tuple #[.agg #[.int .u8 (c1 : Int), .int .u8 (c2 : Int), .int .u8 (c3 : Int), .int .u8 (c4 : Int)], .nilIface]) ?_ rfl ⟨rfl, ?_⟩
    · rw [results_ct (p := 6) (ty := 42) (u := 7) (by kernel_rfl)]
      go_simp
    · rw [← unhide HBE]
      exact ((((belowD (unhide HB7)).setCell (p := ⟨B + 1 + 1, 0, none⟩) (by show B ≤ B + 1 + 1; omega) _).setCell (p := ⟨B + 1 + 1, 1, none⟩) (by show B ≤ B + 1 + 1; omega) _).setCell (p := ⟨B + 1 + 1, 2, none⟩) (by show B ≤ B + 1 + 1; omega) _).setCell (p := ⟨B + 1 + 1, 3, none⟩) (by show B ≤ B + 1 + 1; omega) _

end Go.Proofs.YtkdckcengmkhhajDoor
