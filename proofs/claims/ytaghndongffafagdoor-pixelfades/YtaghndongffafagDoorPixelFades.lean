/- The statement on pixels that are faded, mixed, and told as texts: the walk. -/
import Derived.Test.YtaghndongffafagDoorFd1
import Derived.Test.YtaghndongffafagDoorMi3
import Derived.Test.YtaghndongffafagDoorHt6
import Derived.Test.YtaghndongffafagDoorPxa
import Derived.Test.YtaghndongffafagDoorCoded2
namespace Go.Proofs.YtaghndongffafagDoor
open Go.RowKit

theorem q4_laid (w : World) (r g b a : Nat) : Q4 (w.alloc (q4Obj r g b a)) w.heap.size r g b a ∧ Below w.heap.size w (w.alloc (q4Obj r g b a)) ∧ w.heap.size < (w.alloc (q4Obj r g b a)).heap.size := ⟨q4_new w r g b a, (Below.refl _ _).alloc (Nat.le_refl _) _, by simp⟩
theorem bool_refl_text (u : ByteArray) : (u.toList == u.toList) = true := by simp
theorem bool_refl_text' (u : ByteArray) : (u.toList != u.toList) = false := by simp

set_option maxHeartbeats 16000000 in
set_option maxRecDepth 100000 in
theorem fades_ig (pr pg pb pa mr mg mb ma xr xg xb xa sr sg sb sa : Nat) (z : Int) (a : Option Addr) (n c : Nat) (q : Nat → Px) (s t : ByteArray) (w : World) (hn : n ≤ 100) (hP : IsPx w a n q) (d1 : decide (z < 0) = false) (d2 : decide (z > 255) = false)
    (HH : Hid (∀ w', Calls Tryd.prog 7 #[] w' fun e w'' => e = .returned (.bool true) ∧ Below w'.heap.size w' w''))
    (HF : Hid (∀ w', Below w.heap.size w w' → Calls Tryd.prog 12 #[.agg #[.int .u8 (pr : Int), .int .u8 (pg : Int), .int .u8 (pb : Int), .int .u8 (pa : Int)], .int .i64 z] w' fun e w'' => e = .returned (.tuple #[.agg #[.int .u8 (xr : Int), .int .u8 (xg : Int), .int .u8 (xb : Int), .int .u8 (xa : Int)], .nilIface]) ∧ Below w'.heap.size w' w''))
    (HFO : Hid (∀ w', Calls Tryd.prog 13 #[.agg #[.int .u8 (pr : Int), .int .u8 (pg : Int), .int .u8 (pb : Int), .int .u8 (pa : Int)], .int .i64 z] w' fun e w'' => e = .returned (.agg #[.int .u8 (xr : Int), .int .u8 (xg : Int), .int .u8 (xb : Int), .int .u8 (xa : Int)]) ∧ Below w'.heap.size w' w''))
    (HMo : Hid (∀ (a' : Option Addr) (c' : Nat) (w' : World), IsPx w' a' n q → Calls Tryd.prog 14 #[.slice a' n c'] w' fun e w'' => e = .returned (.agg #[.int .u8 (mr : Int), .int .u8 (mg : Int), .int .u8 (mb : Int), .int .u8 (ma : Int)]) ∧ Below w'.heap.size w' w''))
    (HM : Hid (∀ w', Below w.heap.size w w' → Calls Tryd.prog 15 #[.slice a n c] w' fun e w'' => e = .returned (.agg #[.int .u8 (mr : Int), .int .u8 (mg : Int), .int .u8 (mb : Int), .int .u8 (ma : Int)]) ∧ Below w'.heap.size w' w''))
    (HT : Hid (∀ w', Calls Tryd.prog 16 #[.agg #[.int .u8 (pr : Int), .int .u8 (pg : Int), .int .u8 (pb : Int), .int .u8 (pa : Int)]] w' fun e w'' => e = .returned (.string t) ∧ Below w'.heap.size w' w''))
    (HPT : Hid (∀ w', Calls Tryd.prog 17 #[.agg #[.int .u8 (pr : Int), .int .u8 (pg : Int), .int .u8 (pb : Int), .int .u8 (pa : Int)]] w' fun e w'' => e = .returned (.string t) ∧ Below w'.heap.size w' w''))
    (HR : Hid (∀ w', Below w.heap.size w w' → Calls Tryd.prog 18 #[.string t] w' fun e w'' => e = .returned (.tuple #[.agg #[.int .u8 (pr : Int), .int .u8 (pg : Int), .int .u8 (pb : Int), .int .u8 (pa : Int)], .nilIface]) ∧ Below w'.heap.size w' w''))
    (HRs : Hid (∀ w', Below w.heap.size w w' → Calls Tryd.prog 18 #[.string s] w' fun e w'' => e = .returned (.tuple #[.agg #[.int .u8 (sr : Int), .int .u8 (sg : Int), .int .u8 (sb : Int), .int .u8 (sa : Int)], .nilIface]) ∧ Below w'.heap.size w' w''))
    (HPO : Hid (∀ w', Calls Tryd.prog 19 #[.string s] w' fun e w'' => e = .returned (.tuple #[.agg #[.int .u8 (sr : Int), .int .u8 (sg : Int), .int .u8 (sb : Int), .int .u8 (sa : Int)], .bool true]) ∧ Below w'.heap.size w' w''))
    : Calls Tryd.prog 6 #[.agg #[.int .u8 (pr : Int), .int .u8 (pg : Int), .int .u8 (pb : Int), .int .u8 (pa : Int)], .int .i64 z, .slice a n c, .string s] w fun e w' => e = .returned (.bool true) ∧ Below w.heap.size w w' := by
  have g1 : decide ((n : Int) > 100) = false := decide_eq_false (by omega)
  have g1' : decide ((100 : Int) < (n : Int)) = false := g1
  have g1n : decide (100 < n) = false := decide_eq_false (by omega)
  have d2' : decide ((255 : Int) < z) = false := d2
  have rt := bool_refl_text t
  have rt' := bool_refl_text' t
  have hz0 : ((0 : Nat) : Int) = 0 := rfl
  have HP := hide hP
  clear hP
  obtain ⟨B, hB⟩ : ∃ B, B = w.heap.size := ⟨_, rfl⟩
  have T := hide (q4_laid w pr pg pb pa)
  unfold q4Obj at T
  go_enter Tryd.func6, Tryd.ntmps6
  go_wp2_with fail
  generalize w.alloc (.cells #[.int .u8 (pr : Int), .int .u8 (pg : Int), .int .u8 (pb : Int), .int .u8 (pa : Int)] 23) = w1 at *
  rw [← hB] at T HF HM HR HRs ⊢
  have HBE := hide hB
  obtain ⟨QA, hb1, hz1⟩ := unhide T
  have QA := hide QA
  have HB := hide hb1
  have hz : B < w1.heap.size := hz1
  clear T hb1 hz1 hB
  refine (unhide HH _).mono ?_
  rintro e w2 ⟨rfl, hb⟩
  have QA := hide ((unhide QA).below hb (unhide QA).lt)
  have HB := hide ((unhide HB).trans (hb.mono (by omega)))
  have hz : B < w2.heap.size := by have := hb.size; omega
  clear hb
  obtain ⟨c0_0, c0_1, c0_2, c0_3⟩ := unhide QA
  have l0 := (unhide QA).lt
  go_wp2_with fail
  refine (unhide HF _ (unhide HB)).mono ?_
  rintro e w3 ⟨rfl, hb⟩
  clear c0_0 c0_1 c0_2 c0_3 l0
  have QA := hide ((unhide QA).below hb (unhide QA).lt)
  have HB := hide ((unhide HB).trans (hb.mono (by omega)))
  have hz : B < w3.heap.size := by have := hb.size; omega
  clear hb
  obtain ⟨c0_0, c0_1, c0_2, c0_3⟩ := unhide QA
  have l0 := (unhide QA).lt
  go_wp2_with fail
  clear c0_0 c0_1 c0_2 c0_3 l0
  have T := hide (q4_laid w3 xr xg xb xa)
  unfold q4Obj at T
  generalize w3.alloc (.cells #[.int .u8 (xr : Int), .int .u8 (xg : Int), .int .u8 (xb : Int), .int .u8 (xa : Int)] 23) = w4 at *
  obtain ⟨QF, hA, hzA⟩ := unhide T
  have QA := hide ((unhide QA).below hA (unhide QA).lt)
  have QF := hide QF
  have HB := hide ((unhide HB).trans (hA.mono (by omega)))
  have hz : B < w4.heap.size := by omega
  clear T hA hzA
  obtain ⟨c0_0, c0_1, c0_2, c0_3⟩ := unhide QA
  have l0 := (unhide QA).lt
  obtain ⟨c1_0, c1_1, c1_2, c1_3⟩ := unhide QF
  have l1 := (unhide QF).lt
  go_region_held (fun w' => w'.cell? ⟨B, 0, none⟩ = some (.int .u8 (pr : Int)) ∧ w'.cell? ⟨B, 1, none⟩ = some (.int .u8 (pg : Int)) ∧ w'.cell? ⟨B, 2, none⟩ = some (.int .u8 (pb : Int)) ∧ w'.cell? ⟨B, 3, none⟩ = some (.int .u8 (pa : Int)) ∧ w'.cell? ⟨w3.heap.size, 0, none⟩ = some (.int .u8 (xr : Int)) ∧ w'.cell? ⟨w3.heap.size, 1, none⟩ = some (.int .u8 (xg : Int)) ∧ w'.cell? ⟨w3.heap.size, 2, none⟩ = some (.int .u8 (xb : Int)) ∧ w'.cell? ⟨w3.heap.size, 3, none⟩ = some (.int .u8 (xa : Int))) (go_keep) (first | (go_at_call 13; refine (unhide HFO _).mono ?_; rintro e w5 ⟨rfl, hb⟩; have hk := fun (k o : Nat) (h : k < w4.heap.size) => hb.cell (p := ⟨k, o, none⟩) h))
  clear c0_0 c0_1 c0_2 c0_3 l0
  clear c1_0 c1_1 c1_2 c1_3 l1
  have hb : Below w4.heap.size w4 w5 := (Below.refl _ _).drew.trans hb
  clear hk
  have QA := hide ((unhide QA).below hb (unhide QA).lt)
  have QF := hide ((unhide QF).below hb (unhide QF).lt)
  have HB := hide ((unhide HB).trans (hb.mono (by omega)))
  have hz : B < w5.heap.size := by have := hb.size; omega
  clear hb
  obtain ⟨c0_0, c0_1, c0_2, c0_3⟩ := unhide QA
  have l0 := (unhide QA).lt
  obtain ⟨c1_0, c1_1, c1_2, c1_3⟩ := unhide QF
  have l1 := (unhide QF).lt
  have HP5 := hide ((unhide HP).under (unhide HB) (fun x hx h0 => by have := (unhide HP).lt x hx h0; have := unhide HBE; omega))
  go_wp2_with (at_builtin; refine wpList_appPx _ rfl (.tmp 55) (.tmp 56) rfl rfl a n c q rfl rfl (unhide HP5) (by omega) ?_)
  intro a' c' w6 hP6 hb
  have HP6 := hide (hP6.below (Below.refl _ _).drew)
  clear hP6 HP5
  clear c0_0 c0_1 c0_2 c0_3 l0
  clear c1_0 c1_1 c1_2 c1_3 l1
  have QA := hide ((unhide QA).below hb (unhide QA).lt)
  have QF := hide ((unhide QF).below hb (unhide QF).lt)
  have HB := hide ((unhide HB).trans (hb.mono (by omega)))
  have hz : B < w6.heap.size := by have := hb.size; omega
  clear hb
  obtain ⟨c0_0, c0_1, c0_2, c0_3⟩ := unhide QA
  have l0 := (unhide QA).lt
  obtain ⟨c1_0, c1_1, c1_2, c1_3⟩ := unhide QF
  have l1 := (unhide QF).lt
  go_wp2_with fail
  go_region_held (fun w' => w'.cell? ⟨B, 0, none⟩ = some (.int .u8 (pr : Int)) ∧ w'.cell? ⟨B, 1, none⟩ = some (.int .u8 (pg : Int)) ∧ w'.cell? ⟨B, 2, none⟩ = some (.int .u8 (pb : Int)) ∧ w'.cell? ⟨B, 3, none⟩ = some (.int .u8 (pa : Int))) (go_keep) (first | (go_at_call 14; refine (unhide HMo a' c' w6.drew (unhide HP6)).mono ?_; rintro e w7 ⟨rfl, hb7⟩; have hk7 := fun (k o : Nat) (h : k < w6.heap.size) => hb7.cell (p := ⟨k, o, none⟩) h; have hz7 : B < w7.heap.size := Nat.lt_of_lt_of_le hz hb7.size) | (go_at_call 15; refine (unhide HM _ ((unhide HB).drew.trans (hb7.mono (Nat.le_of_lt hz)))).mono ?_; rintro e w8 ⟨rfl, hb8⟩; have hk8 := fun (k o : Nat) (h : k < w7.heap.size) => hb8.cell (p := ⟨k, o, none⟩) h; have hz8 : B < w8.heap.size := Nat.lt_of_lt_of_le hz7 hb8.size) | (go_at_call 16; refine (unhide HT _).mono ?_; rintro e w9 ⟨rfl, hb9⟩; have hk9 := fun (k o : Nat) (h : k < w8.heap.size) => hb9.cell (p := ⟨k, o, none⟩) h; have hz9 : B < w9.heap.size := Nat.lt_of_lt_of_le hz8 hb9.size) | (go_at_call 17; refine (unhide HPT _).mono ?_; rintro e w10 ⟨rfl, hb10⟩; have hk10 := fun (k o : Nat) (h : k < w9.heap.size) => hb10.cell (p := ⟨k, o, none⟩) h; have hz10 : B < w10.heap.size := Nat.lt_of_lt_of_le hz9 hb10.size))
  clear c0_0 c0_1 c0_2 c0_3 l0
  clear c1_0 c1_1 c1_2 c1_3 l1
  have hb : Below w6.heap.size w6 w10 := ((((Below.refl _ _).drew.trans hb7).trans (hb8.mono hb7.size)).trans (hb9.mono (Nat.le_trans hb7.size hb8.size))).trans (hb10.mono (Nat.le_trans hb7.size (Nat.le_trans hb8.size hb9.size)))
  clear hk7 hk8 hk9 hk10 hz7 hz8 hz9 hz10 hb7 hb8 hb9 hb10
  have QA := hide ((unhide QA).below hb (unhide QA).lt)
  have QF := hide ((unhide QF).below hb (unhide QF).lt)
  have HB := hide ((unhide HB).trans (hb.mono (by omega)))
  have hz : B < w10.heap.size := by have := hb.size; omega
  clear hb
  clear HP6
  obtain ⟨c0_0, c0_1, c0_2, c0_3⟩ := unhide QA
  have l0 := (unhide QA).lt
  obtain ⟨c1_0, c1_1, c1_2, c1_3⟩ := unhide QF
  have l1 := (unhide QF).lt
  go_wp2_with fail
  refine (unhide HT _).mono ?_
  rintro e w11 ⟨rfl, hb⟩
  clear c0_0 c0_1 c0_2 c0_3 l0
  clear c1_0 c1_1 c1_2 c1_3 l1
  have QA := hide ((unhide QA).below hb (unhide QA).lt)
  have QF := hide ((unhide QF).below hb (unhide QF).lt)
  have HB := hide ((unhide HB).trans (hb.mono (by omega)))
  have hz : B < w11.heap.size := by have := hb.size; omega
  clear hb
  obtain ⟨c0_0, c0_1, c0_2, c0_3⟩ := unhide QA
  have l0 := (unhide QA).lt
  obtain ⟨c1_0, c1_1, c1_2, c1_3⟩ := unhide QF
  have l1 := (unhide QF).lt
  go_wp2_with fail
  refine (unhide HR _ (unhide HB)).mono ?_
  rintro e w12 ⟨rfl, hb⟩
  clear c0_0 c0_1 c0_2 c0_3 l0
  clear c1_0 c1_1 c1_2 c1_3 l1
  have QA := hide ((unhide QA).below hb (unhide QA).lt)
  have QF := hide ((unhide QF).below hb (unhide QF).lt)
  have HB := hide ((unhide HB).trans (hb.mono (by omega)))
  have hz : B < w12.heap.size := by have := hb.size; omega
  clear hb
  obtain ⟨c0_0, c0_1, c0_2, c0_3⟩ := unhide QA
  have l0 := (unhide QA).lt
  obtain ⟨c1_0, c1_1, c1_2, c1_3⟩ := unhide QF
  have l1 := (unhide QF).lt
  go_wp2_with fail
  clear c0_0 c0_1 c0_2 c0_3 l0
  clear c1_0 c1_1 c1_2 c1_3 l1
  have T := hide (q4_laid w12 pr pg pb pa)
  unfold q4Obj at T
  generalize w12.alloc (.cells #[.int .u8 (pr : Int), .int .u8 (pg : Int), .int .u8 (pb : Int), .int .u8 (pa : Int)] 23) = w13 at *
  obtain ⟨QR, hA, hzA⟩ := unhide T
  have QA := hide ((unhide QA).below hA (unhide QA).lt)
  have QF := hide ((unhide QF).below hA (unhide QF).lt)
  have QR := hide QR
  have HB := hide ((unhide HB).trans (hA.mono (by omega)))
  have hz : B < w13.heap.size := by omega
  clear T hA hzA
  refine (unhide HRs _ (unhide HB)).mono ?_
  rintro e w14 ⟨rfl, hb⟩
  have QA := hide ((unhide QA).below hb (unhide QA).lt)
  have QF := hide ((unhide QF).below hb (unhide QF).lt)
  have QR := hide ((unhide QR).below hb (unhide QR).lt)
  have HB := hide ((unhide HB).trans (hb.mono (by omega)))
  have hz : B < w14.heap.size := by have := hb.size; omega
  clear hb
  obtain ⟨c0_0, c0_1, c0_2, c0_3⟩ := unhide QA
  have l0 := (unhide QA).lt
  obtain ⟨c1_0, c1_1, c1_2, c1_3⟩ := unhide QF
  have l1 := (unhide QF).lt
  obtain ⟨c2_0, c2_1, c2_2, c2_3⟩ := unhide QR
  have l2 := (unhide QR).lt
  go_wp2_with fail
  clear c0_0 c0_1 c0_2 c0_3 l0
  clear c1_0 c1_1 c1_2 c1_3 l1
  clear c2_0 c2_1 c2_2 c2_3 l2
  have T := hide (q4_laid w14 sr sg sb sa)
  unfold q4Obj at T
  generalize w14.alloc (.cells #[.int .u8 (sr : Int), .int .u8 (sg : Int), .int .u8 (sb : Int), .int .u8 (sa : Int)] 23) = w15 at *
  obtain ⟨QS, hA, hzA⟩ := unhide T
  have QA := hide ((unhide QA).below hA (unhide QA).lt)
  have QF := hide ((unhide QF).below hA (unhide QF).lt)
  have QR := hide ((unhide QR).below hA (unhide QR).lt)
  have QS := hide QS
  have HB := hide ((unhide HB).trans (hA.mono (by omega)))
  have hz : B < w15.heap.size := by omega
  clear T hA hzA
  refine (unhide HPO _).mono ?_
  rintro e w16 ⟨rfl, hb⟩
  have QA := hide ((unhide QA).below hb (unhide QA).lt)
  have QF := hide ((unhide QF).below hb (unhide QF).lt)
  have QR := hide ((unhide QR).below hb (unhide QR).lt)
  have QS := hide ((unhide QS).below hb (unhide QS).lt)
  have HB := hide ((unhide HB).trans (hb.mono (by omega)))
  have hz : B < w16.heap.size := by have := hb.size; omega
  clear hb
  obtain ⟨c0_0, c0_1, c0_2, c0_3⟩ := unhide QA
  have l0 := (unhide QA).lt
  obtain ⟨c1_0, c1_1, c1_2, c1_3⟩ := unhide QF
  have l1 := (unhide QF).lt
  obtain ⟨c2_0, c2_1, c2_2, c2_3⟩ := unhide QR
  have l2 := (unhide QR).lt
  obtain ⟨c3_0, c3_1, c3_2, c3_3⟩ := unhide QS
  have l3 := (unhide QS).lt
  go_wp2
  go_ret
  exact ⟨rfl, by rw [← unhide HBE]; exact (unhide HB).alloc (by omega) _⟩

set_option maxHeartbeats 16000000 in
set_option maxRecDepth 100000 in
theorem fades_ib (pr pg pb pa mr mg mb ma xr xg xb xa : Nat) (z : Int) (a : Option Addr) (n c : Nat) (q : Nat → Px) (s t : ByteArray) (w : World) (hn : n ≤ 100) (hP : IsPx w a n q) (d1 : decide (z < 0) = false) (d2 : decide (z > 255) = false)
    (HH : Hid (∀ w', Calls Tryd.prog 7 #[] w' fun e w'' => e = .returned (.bool true) ∧ Below w'.heap.size w' w''))
    (HF : Hid (∀ w', Below w.heap.size w w' → Calls Tryd.prog 12 #[.agg #[.int .u8 (pr : Int), .int .u8 (pg : Int), .int .u8 (pb : Int), .int .u8 (pa : Int)], .int .i64 z] w' fun e w'' => e = .returned (.tuple #[.agg #[.int .u8 (xr : Int), .int .u8 (xg : Int), .int .u8 (xb : Int), .int .u8 (xa : Int)], .nilIface]) ∧ Below w'.heap.size w' w''))
    (HFO : Hid (∀ w', Calls Tryd.prog 13 #[.agg #[.int .u8 (pr : Int), .int .u8 (pg : Int), .int .u8 (pb : Int), .int .u8 (pa : Int)], .int .i64 z] w' fun e w'' => e = .returned (.agg #[.int .u8 (xr : Int), .int .u8 (xg : Int), .int .u8 (xb : Int), .int .u8 (xa : Int)]) ∧ Below w'.heap.size w' w''))
    (HMo : Hid (∀ (a' : Option Addr) (c' : Nat) (w' : World), IsPx w' a' n q → Calls Tryd.prog 14 #[.slice a' n c'] w' fun e w'' => e = .returned (.agg #[.int .u8 (mr : Int), .int .u8 (mg : Int), .int .u8 (mb : Int), .int .u8 (ma : Int)]) ∧ Below w'.heap.size w' w''))
    (HM : Hid (∀ w', Below w.heap.size w w' → Calls Tryd.prog 15 #[.slice a n c] w' fun e w'' => e = .returned (.agg #[.int .u8 (mr : Int), .int .u8 (mg : Int), .int .u8 (mb : Int), .int .u8 (ma : Int)]) ∧ Below w'.heap.size w' w''))
    (HT : Hid (∀ w', Calls Tryd.prog 16 #[.agg #[.int .u8 (pr : Int), .int .u8 (pg : Int), .int .u8 (pb : Int), .int .u8 (pa : Int)]] w' fun e w'' => e = .returned (.string t) ∧ Below w'.heap.size w' w''))
    (HPT : Hid (∀ w', Calls Tryd.prog 17 #[.agg #[.int .u8 (pr : Int), .int .u8 (pg : Int), .int .u8 (pb : Int), .int .u8 (pa : Int)]] w' fun e w'' => e = .returned (.string t) ∧ Below w'.heap.size w' w''))
    (HR : Hid (∀ w', Below w.heap.size w w' → Calls Tryd.prog 18 #[.string t] w' fun e w'' => e = .returned (.tuple #[.agg #[.int .u8 (pr : Int), .int .u8 (pg : Int), .int .u8 (pb : Int), .int .u8 (pa : Int)], .nilIface]) ∧ Below w'.heap.size w' w''))
    (et : Value) (HRs : Hid (∀ w', Below w.heap.size w w' → Calls Tryd.prog 18 #[.string s] w' fun e w'' => e = .returned (.tuple #[.agg #[.int .u8 0, .int .u8 0, .int .u8 0, .int .u8 0], et]) ∧ Below w'.heap.size w' w''))
    (HPO : Hid (∀ w', Calls Tryd.prog 19 #[.string s] w' fun e w'' => e = .returned (.tuple #[.agg #[.int .u8 0, .int .u8 0, .int .u8 0, .int .u8 0], .bool false]) ∧ Below w'.heap.size w' w''))
    (HCt : Hid (∀ w', Below w.heap.size w w' → Calls Tryd.prog 10 #[et, .int .i64 1] w' fun e w'' => e = .returned (.bool true) ∧ Below w'.heap.size w' w''))
    : Calls Tryd.prog 6 #[.agg #[.int .u8 (pr : Int), .int .u8 (pg : Int), .int .u8 (pb : Int), .int .u8 (pa : Int)], .int .i64 z, .slice a n c, .string s] w fun e w' => e = .returned (.bool true) ∧ Below w.heap.size w w' := by
  have g1 : decide ((n : Int) > 100) = false := decide_eq_false (by omega)
  have g1' : decide ((100 : Int) < (n : Int)) = false := g1
  have g1n : decide (100 < n) = false := decide_eq_false (by omega)
  have d2' : decide ((255 : Int) < z) = false := d2
  have rt := bool_refl_text t
  have rt' := bool_refl_text' t
  have hz0 : ((0 : Nat) : Int) = 0 := rfl
  have HP := hide hP
  clear hP
  obtain ⟨B, hB⟩ : ∃ B, B = w.heap.size := ⟨_, rfl⟩
  have T := hide (q4_laid w pr pg pb pa)
  unfold q4Obj at T
  go_enter Tryd.func6, Tryd.ntmps6
  go_wp2_with fail
  generalize w.alloc (.cells #[.int .u8 (pr : Int), .int .u8 (pg : Int), .int .u8 (pb : Int), .int .u8 (pa : Int)] 23) = w1 at *
  rw [← hB] at T HF HM HR HRs HCt ⊢
  have HBE := hide hB
  obtain ⟨QA, hb1, hz1⟩ := unhide T
  have QA := hide QA
  have HB := hide hb1
  have hz : B < w1.heap.size := hz1
  clear T hb1 hz1 hB
  refine (unhide HH _).mono ?_
  rintro e w2 ⟨rfl, hb⟩
  have QA := hide ((unhide QA).below hb (unhide QA).lt)
  have HB := hide ((unhide HB).trans (hb.mono (by omega)))
  have hz : B < w2.heap.size := by have := hb.size; omega
  clear hb
  obtain ⟨c0_0, c0_1, c0_2, c0_3⟩ := unhide QA
  have l0 := (unhide QA).lt
  go_wp2_with fail
  refine (unhide HF _ (unhide HB)).mono ?_
  rintro e w3 ⟨rfl, hb⟩
  clear c0_0 c0_1 c0_2 c0_3 l0
  have QA := hide ((unhide QA).below hb (unhide QA).lt)
  have HB := hide ((unhide HB).trans (hb.mono (by omega)))
  have hz : B < w3.heap.size := by have := hb.size; omega
  clear hb
  obtain ⟨c0_0, c0_1, c0_2, c0_3⟩ := unhide QA
  have l0 := (unhide QA).lt
  go_wp2_with fail
  clear c0_0 c0_1 c0_2 c0_3 l0
  have T := hide (q4_laid w3 xr xg xb xa)
  unfold q4Obj at T
  generalize w3.alloc (.cells #[.int .u8 (xr : Int), .int .u8 (xg : Int), .int .u8 (xb : Int), .int .u8 (xa : Int)] 23) = w4 at *
  obtain ⟨QF, hA, hzA⟩ := unhide T
  have QA := hide ((unhide QA).below hA (unhide QA).lt)
  have QF := hide QF
  have HB := hide ((unhide HB).trans (hA.mono (by omega)))
  have hz : B < w4.heap.size := by omega
  clear T hA hzA
  obtain ⟨c0_0, c0_1, c0_2, c0_3⟩ := unhide QA
  have l0 := (unhide QA).lt
  obtain ⟨c1_0, c1_1, c1_2, c1_3⟩ := unhide QF
  have l1 := (unhide QF).lt
  go_region_held (fun w' => w'.cell? ⟨B, 0, none⟩ = some (.int .u8 (pr : Int)) ∧ w'.cell? ⟨B, 1, none⟩ = some (.int .u8 (pg : Int)) ∧ w'.cell? ⟨B, 2, none⟩ = some (.int .u8 (pb : Int)) ∧ w'.cell? ⟨B, 3, none⟩ = some (.int .u8 (pa : Int)) ∧ w'.cell? ⟨w3.heap.size, 0, none⟩ = some (.int .u8 (xr : Int)) ∧ w'.cell? ⟨w3.heap.size, 1, none⟩ = some (.int .u8 (xg : Int)) ∧ w'.cell? ⟨w3.heap.size, 2, none⟩ = some (.int .u8 (xb : Int)) ∧ w'.cell? ⟨w3.heap.size, 3, none⟩ = some (.int .u8 (xa : Int))) (go_keep) (first | (go_at_call 13; refine (unhide HFO _).mono ?_; rintro e w5 ⟨rfl, hb⟩; have hk := fun (k o : Nat) (h : k < w4.heap.size) => hb.cell (p := ⟨k, o, none⟩) h))
  clear c0_0 c0_1 c0_2 c0_3 l0
  clear c1_0 c1_1 c1_2 c1_3 l1
  have hb : Below w4.heap.size w4 w5 := (Below.refl _ _).drew.trans hb
  clear hk
  have QA := hide ((unhide QA).below hb (unhide QA).lt)
  have QF := hide ((unhide QF).below hb (unhide QF).lt)
  have HB := hide ((unhide HB).trans (hb.mono (by omega)))
  have hz : B < w5.heap.size := by have := hb.size; omega
  clear hb
  obtain ⟨c0_0, c0_1, c0_2, c0_3⟩ := unhide QA
  have l0 := (unhide QA).lt
  obtain ⟨c1_0, c1_1, c1_2, c1_3⟩ := unhide QF
  have l1 := (unhide QF).lt
  have HP5 := hide ((unhide HP).under (unhide HB) (fun x hx h0 => by have := (unhide HP).lt x hx h0; have := unhide HBE; omega))
  go_wp2_with (at_builtin; refine wpList_appPx _ rfl (.tmp 55) (.tmp 56) rfl rfl a n c q rfl rfl (unhide HP5) (by omega) ?_)
  intro a' c' w6 hP6 hb
  have HP6 := hide (hP6.below (Below.refl _ _).drew)
  clear hP6 HP5
  clear c0_0 c0_1 c0_2 c0_3 l0
  clear c1_0 c1_1 c1_2 c1_3 l1
  have QA := hide ((unhide QA).below hb (unhide QA).lt)
  have QF := hide ((unhide QF).below hb (unhide QF).lt)
  have HB := hide ((unhide HB).trans (hb.mono (by omega)))
  have hz : B < w6.heap.size := by have := hb.size; omega
  clear hb
  obtain ⟨c0_0, c0_1, c0_2, c0_3⟩ := unhide QA
  have l0 := (unhide QA).lt
  obtain ⟨c1_0, c1_1, c1_2, c1_3⟩ := unhide QF
  have l1 := (unhide QF).lt
  go_wp2_with fail
  go_region_held (fun w' => w'.cell? ⟨B, 0, none⟩ = some (.int .u8 (pr : Int)) ∧ w'.cell? ⟨B, 1, none⟩ = some (.int .u8 (pg : Int)) ∧ w'.cell? ⟨B, 2, none⟩ = some (.int .u8 (pb : Int)) ∧ w'.cell? ⟨B, 3, none⟩ = some (.int .u8 (pa : Int))) (go_keep) (first | (go_at_call 14; refine (unhide HMo a' c' w6.drew (unhide HP6)).mono ?_; rintro e w7 ⟨rfl, hb7⟩; have hk7 := fun (k o : Nat) (h : k < w6.heap.size) => hb7.cell (p := ⟨k, o, none⟩) h; have hz7 : B < w7.heap.size := Nat.lt_of_lt_of_le hz hb7.size) | (go_at_call 15; refine (unhide HM _ ((unhide HB).drew.trans (hb7.mono (Nat.le_of_lt hz)))).mono ?_; rintro e w8 ⟨rfl, hb8⟩; have hk8 := fun (k o : Nat) (h : k < w7.heap.size) => hb8.cell (p := ⟨k, o, none⟩) h; have hz8 : B < w8.heap.size := Nat.lt_of_lt_of_le hz7 hb8.size) | (go_at_call 16; refine (unhide HT _).mono ?_; rintro e w9 ⟨rfl, hb9⟩; have hk9 := fun (k o : Nat) (h : k < w8.heap.size) => hb9.cell (p := ⟨k, o, none⟩) h; have hz9 : B < w9.heap.size := Nat.lt_of_lt_of_le hz8 hb9.size) | (go_at_call 17; refine (unhide HPT _).mono ?_; rintro e w10 ⟨rfl, hb10⟩; have hk10 := fun (k o : Nat) (h : k < w9.heap.size) => hb10.cell (p := ⟨k, o, none⟩) h; have hz10 : B < w10.heap.size := Nat.lt_of_lt_of_le hz9 hb10.size))
  clear c0_0 c0_1 c0_2 c0_3 l0
  clear c1_0 c1_1 c1_2 c1_3 l1
  have hb : Below w6.heap.size w6 w10 := ((((Below.refl _ _).drew.trans hb7).trans (hb8.mono hb7.size)).trans (hb9.mono (Nat.le_trans hb7.size hb8.size))).trans (hb10.mono (Nat.le_trans hb7.size (Nat.le_trans hb8.size hb9.size)))
  clear hk7 hk8 hk9 hk10 hz7 hz8 hz9 hz10 hb7 hb8 hb9 hb10
  have QA := hide ((unhide QA).below hb (unhide QA).lt)
  have QF := hide ((unhide QF).below hb (unhide QF).lt)
  have HB := hide ((unhide HB).trans (hb.mono (by omega)))
  have hz : B < w10.heap.size := by have := hb.size; omega
  clear hb
  clear HP6
  obtain ⟨c0_0, c0_1, c0_2, c0_3⟩ := unhide QA
  have l0 := (unhide QA).lt
  obtain ⟨c1_0, c1_1, c1_2, c1_3⟩ := unhide QF
  have l1 := (unhide QF).lt
  go_wp2_with fail
  refine (unhide HT _).mono ?_
  rintro e w11 ⟨rfl, hb⟩
  clear c0_0 c0_1 c0_2 c0_3 l0
  clear c1_0 c1_1 c1_2 c1_3 l1
  have QA := hide ((unhide QA).below hb (unhide QA).lt)
  have QF := hide ((unhide QF).below hb (unhide QF).lt)
  have HB := hide ((unhide HB).trans (hb.mono (by omega)))
  have hz : B < w11.heap.size := by have := hb.size; omega
  clear hb
  obtain ⟨c0_0, c0_1, c0_2, c0_3⟩ := unhide QA
  have l0 := (unhide QA).lt
  obtain ⟨c1_0, c1_1, c1_2, c1_3⟩ := unhide QF
  have l1 := (unhide QF).lt
  go_wp2_with fail
  refine (unhide HR _ (unhide HB)).mono ?_
  rintro e w12 ⟨rfl, hb⟩
  clear c0_0 c0_1 c0_2 c0_3 l0
  clear c1_0 c1_1 c1_2 c1_3 l1
  have QA := hide ((unhide QA).below hb (unhide QA).lt)
  have QF := hide ((unhide QF).below hb (unhide QF).lt)
  have HB := hide ((unhide HB).trans (hb.mono (by omega)))
  have hz : B < w12.heap.size := by have := hb.size; omega
  clear hb
  obtain ⟨c0_0, c0_1, c0_2, c0_3⟩ := unhide QA
  have l0 := (unhide QA).lt
  obtain ⟨c1_0, c1_1, c1_2, c1_3⟩ := unhide QF
  have l1 := (unhide QF).lt
  go_wp2_with fail
  clear c0_0 c0_1 c0_2 c0_3 l0
  clear c1_0 c1_1 c1_2 c1_3 l1
  have T := hide (q4_laid w12 pr pg pb pa)
  unfold q4Obj at T
  generalize w12.alloc (.cells #[.int .u8 (pr : Int), .int .u8 (pg : Int), .int .u8 (pb : Int), .int .u8 (pa : Int)] 23) = w13 at *
  obtain ⟨QR, hA, hzA⟩ := unhide T
  have QA := hide ((unhide QA).below hA (unhide QA).lt)
  have QF := hide ((unhide QF).below hA (unhide QF).lt)
  have QR := hide QR
  have HB := hide ((unhide HB).trans (hA.mono (by omega)))
  have hz : B < w13.heap.size := by omega
  clear T hA hzA
  refine (unhide HRs _ (unhide HB)).mono ?_
  rintro e w14 ⟨rfl, hb⟩
  have QA := hide ((unhide QA).below hb (unhide QA).lt)
  have QF := hide ((unhide QF).below hb (unhide QF).lt)
  have QR := hide ((unhide QR).below hb (unhide QR).lt)
  have HB := hide ((unhide HB).trans (hb.mono (by omega)))
  have hz : B < w14.heap.size := by have := hb.size; omega
  clear hb
  obtain ⟨c0_0, c0_1, c0_2, c0_3⟩ := unhide QA
  have l0 := (unhide QA).lt
  obtain ⟨c1_0, c1_1, c1_2, c1_3⟩ := unhide QF
  have l1 := (unhide QF).lt
  obtain ⟨c2_0, c2_1, c2_2, c2_3⟩ := unhide QR
  have l2 := (unhide QR).lt
  go_wp2_with fail
  clear c0_0 c0_1 c0_2 c0_3 l0
  clear c1_0 c1_1 c1_2 c1_3 l1
  clear c2_0 c2_1 c2_2 c2_3 l2
  have T := hide (q4_laid w14 0 0 0 0)
  unfold q4Obj at T
  rw [hz0] at T
  generalize w14.alloc (.cells #[.int .u8 0, .int .u8 0, .int .u8 0, .int .u8 0] 23) = w15 at *
  obtain ⟨QS, hA, hzA⟩ := unhide T
  have QA := hide ((unhide QA).below hA (unhide QA).lt)
  have QF := hide ((unhide QF).below hA (unhide QF).lt)
  have QR := hide ((unhide QR).below hA (unhide QR).lt)
  have QS := hide QS
  have HB := hide ((unhide HB).trans (hA.mono (by omega)))
  have hz : B < w15.heap.size := by omega
  clear T hA hzA
  refine (unhide HPO _).mono ?_
  rintro e w16 ⟨rfl, hb⟩
  have QA := hide ((unhide QA).below hb (unhide QA).lt)
  have QF := hide ((unhide QF).below hb (unhide QF).lt)
  have QR := hide ((unhide QR).below hb (unhide QR).lt)
  have QS := hide ((unhide QS).below hb (unhide QS).lt)
  have HB := hide ((unhide HB).trans (hb.mono (by omega)))
  have hz : B < w16.heap.size := by have := hb.size; omega
  clear hb
  obtain ⟨c0_0, c0_1, c0_2, c0_3⟩ := unhide QA
  have l0 := (unhide QA).lt
  obtain ⟨c1_0, c1_1, c1_2, c1_3⟩ := unhide QF
  have l1 := (unhide QF).lt
  obtain ⟨c2_0, c2_1, c2_2, c2_3⟩ := unhide QR
  have l2 := (unhide QR).lt
  obtain ⟨c3_0, c3_1, c3_2, c3_3⟩ := unhide QS
  have l3 := (unhide QS).lt
  go_wp2_with fail
  clear c0_0 c0_1 c0_2 c0_3 l0
  clear c1_0 c1_1 c1_2 c1_3 l1
  clear c2_0 c2_1 c2_2 c2_3 l2
  clear c3_0 c3_1 c3_2 c3_3 l3
  have T := hide (q4_laid w16 0 0 0 0)
  unfold q4Obj at T
  rw [hz0] at T
  generalize w16.alloc (.cells #[.int .u8 0, .int .u8 0, .int .u8 0, .int .u8 0] 23) = w17 at *
  obtain ⟨QT, hA, hzA⟩ := unhide T
  have QA := hide ((unhide QA).below hA (unhide QA).lt)
  have QF := hide ((unhide QF).below hA (unhide QF).lt)
  have QR := hide ((unhide QR).below hA (unhide QR).lt)
  have QS := hide ((unhide QS).below hA (unhide QS).lt)
  have QT := hide QT
  have HB := hide ((unhide HB).trans (hA.mono (by omega)))
  have hz : B < w17.heap.size := by omega
  clear T hA hzA
  refine (unhide HCt _ (unhide HB)).mono ?_
  rintro e w18 ⟨rfl, hb⟩
  have QA := hide ((unhide QA).below hb (unhide QA).lt)
  have QF := hide ((unhide QF).below hb (unhide QF).lt)
  have QR := hide ((unhide QR).below hb (unhide QR).lt)
  have QS := hide ((unhide QS).below hb (unhide QS).lt)
  have QT := hide ((unhide QT).below hb (unhide QT).lt)
  have HB := hide ((unhide HB).trans (hb.mono (by omega)))
  have hz : B < w18.heap.size := by have := hb.size; omega
  clear hb
  obtain ⟨c0_0, c0_1, c0_2, c0_3⟩ := unhide QA
  have l0 := (unhide QA).lt
  obtain ⟨c1_0, c1_1, c1_2, c1_3⟩ := unhide QF
  have l1 := (unhide QF).lt
  obtain ⟨c2_0, c2_1, c2_2, c2_3⟩ := unhide QR
  have l2 := (unhide QR).lt
  obtain ⟨c3_0, c3_1, c3_2, c3_3⟩ := unhide QS
  have l3 := (unhide QS).lt
  obtain ⟨c4_0, c4_1, c4_2, c4_3⟩ := unhide QT
  have l4 := (unhide QT).lt
  go_wp2
  go_ret
  exact ⟨rfl, by rw [← unhide HBE]; exact unhide HB⟩

set_option maxHeartbeats 16000000 in
set_option maxRecDepth 100000 in
theorem fades_og (pr pg pb pa mr mg mb ma sr sg sb sa : Nat) (z : Int) (a : Option Addr) (n c : Nat) (q : Nat → Px) (s t : ByteArray) (w : World) (hn : n ≤ 100) (hP : IsPx w a n q) (ev : Value) (d12 : decide (z < 0) = true ∨ (decide (z < 0) = false ∧ decide (z > 255) = true))
    (HH : Hid (∀ w', Calls Tryd.prog 7 #[] w' fun e w'' => e = .returned (.bool true) ∧ Below w'.heap.size w' w''))
    (HF : Hid (∀ w', Below w.heap.size w w' → Calls Tryd.prog 12 #[.agg #[.int .u8 (pr : Int), .int .u8 (pg : Int), .int .u8 (pb : Int), .int .u8 (pa : Int)], .int .i64 z] w' fun e w'' => e = .returned (.tuple #[.agg #[.int .u8 0, .int .u8 0, .int .u8 0, .int .u8 0], ev]) ∧ Below w'.heap.size w' w''))
    (HC : Hid (∀ w', Below w.heap.size w w' → Calls Tryd.prog 10 #[ev, .int .i64 2] w' fun e w'' => e = .returned (.bool true) ∧ Below w'.heap.size w' w''))
    (HMo : Hid (∀ (a' : Option Addr) (c' : Nat) (w' : World), IsPx w' a' n q → Calls Tryd.prog 14 #[.slice a' n c'] w' fun e w'' => e = .returned (.agg #[.int .u8 (mr : Int), .int .u8 (mg : Int), .int .u8 (mb : Int), .int .u8 (ma : Int)]) ∧ Below w'.heap.size w' w''))
    (HM : Hid (∀ w', Below w.heap.size w w' → Calls Tryd.prog 15 #[.slice a n c] w' fun e w'' => e = .returned (.agg #[.int .u8 (mr : Int), .int .u8 (mg : Int), .int .u8 (mb : Int), .int .u8 (ma : Int)]) ∧ Below w'.heap.size w' w''))
    (HT : Hid (∀ w', Calls Tryd.prog 16 #[.agg #[.int .u8 (pr : Int), .int .u8 (pg : Int), .int .u8 (pb : Int), .int .u8 (pa : Int)]] w' fun e w'' => e = .returned (.string t) ∧ Below w'.heap.size w' w''))
    (HPT : Hid (∀ w', Calls Tryd.prog 17 #[.agg #[.int .u8 (pr : Int), .int .u8 (pg : Int), .int .u8 (pb : Int), .int .u8 (pa : Int)]] w' fun e w'' => e = .returned (.string t) ∧ Below w'.heap.size w' w''))
    (HR : Hid (∀ w', Below w.heap.size w w' → Calls Tryd.prog 18 #[.string t] w' fun e w'' => e = .returned (.tuple #[.agg #[.int .u8 (pr : Int), .int .u8 (pg : Int), .int .u8 (pb : Int), .int .u8 (pa : Int)], .nilIface]) ∧ Below w'.heap.size w' w''))
    (HRs : Hid (∀ w', Below w.heap.size w w' → Calls Tryd.prog 18 #[.string s] w' fun e w'' => e = .returned (.tuple #[.agg #[.int .u8 (sr : Int), .int .u8 (sg : Int), .int .u8 (sb : Int), .int .u8 (sa : Int)], .nilIface]) ∧ Below w'.heap.size w' w''))
    (HPO : Hid (∀ w', Calls Tryd.prog 19 #[.string s] w' fun e w'' => e = .returned (.tuple #[.agg #[.int .u8 (sr : Int), .int .u8 (sg : Int), .int .u8 (sb : Int), .int .u8 (sa : Int)], .bool true]) ∧ Below w'.heap.size w' w''))
    : Calls Tryd.prog 6 #[.agg #[.int .u8 (pr : Int), .int .u8 (pg : Int), .int .u8 (pb : Int), .int .u8 (pa : Int)], .int .i64 z, .slice a n c, .string s] w fun e w' => e = .returned (.bool true) ∧ Below w.heap.size w w' := by
  have g1 : decide ((n : Int) > 100) = false := decide_eq_false (by omega)
  have g1' : decide ((100 : Int) < (n : Int)) = false := g1
  have g1n : decide (100 < n) = false := decide_eq_false (by omega)
  have rt := bool_refl_text t
  have rt' := bool_refl_text' t
  have hz0 : ((0 : Nat) : Int) = 0 := rfl
  have HP := hide hP
  clear hP
  obtain ⟨B, hB⟩ : ∃ B, B = w.heap.size := ⟨_, rfl⟩
  have T := hide (q4_laid w pr pg pb pa)
  unfold q4Obj at T
  rcases d12 with d1 | ⟨d1, d2⟩
  all_goals
    try have d2' : decide ((255 : Int) < z) = true := d2
    go_enter Tryd.func6, Tryd.ntmps6
    go_wp2_with fail
    generalize w.alloc (.cells #[.int .u8 (pr : Int), .int .u8 (pg : Int), .int .u8 (pb : Int), .int .u8 (pa : Int)] 23) = w1 at *
    rw [← hB] at T HF HM HR HRs HC ⊢
    have HBE := hide hB
    obtain ⟨QA, hb1, hz1⟩ := unhide T
    have QA := hide QA
    have HB := hide hb1
    have hz : B < w1.heap.size := hz1
    clear T hb1 hz1 hB
    refine (unhide HH _).mono ?_
    rintro e w2 ⟨rfl, hb⟩
    have QA := hide ((unhide QA).below hb (unhide QA).lt)
    have HB := hide ((unhide HB).trans (hb.mono (by omega)))
    have hz : B < w2.heap.size := by have := hb.size; omega
    clear hb
    obtain ⟨c0_0, c0_1, c0_2, c0_3⟩ := unhide QA
    have l0 := (unhide QA).lt
    go_wp2_with fail
    refine (unhide HF _ (unhide HB)).mono ?_
    rintro e w3 ⟨rfl, hb⟩
    clear c0_0 c0_1 c0_2 c0_3 l0
    have QA := hide ((unhide QA).below hb (unhide QA).lt)
    have HB := hide ((unhide HB).trans (hb.mono (by omega)))
    have hz : B < w3.heap.size := by have := hb.size; omega
    clear hb
    obtain ⟨c0_0, c0_1, c0_2, c0_3⟩ := unhide QA
    have l0 := (unhide QA).lt
    go_wp2_with fail
    clear c0_0 c0_1 c0_2 c0_3 l0
    have T := hide (q4_laid w3 0 0 0 0)
    unfold q4Obj at T
    rw [hz0] at T
    generalize w3.alloc (.cells #[.int .u8 0, .int .u8 0, .int .u8 0, .int .u8 0] 23) = w4 at *
    obtain ⟨QF, hA, hzA⟩ := unhide T
    have QA := hide ((unhide QA).below hA (unhide QA).lt)
    have QF := hide QF
    have HB := hide ((unhide HB).trans (hA.mono (by omega)))
    have hz : B < w4.heap.size := by omega
    clear T hA hzA
    refine (unhide HC _ (unhide HB)).mono ?_
    rintro e w5 ⟨rfl, hb⟩
    have QA := hide ((unhide QA).below hb (unhide QA).lt)
    have QF := hide ((unhide QF).below hb (unhide QF).lt)
    have HB := hide ((unhide HB).trans (hb.mono (by omega)))
    have hz : B < w5.heap.size := by have := hb.size; omega
    clear hb
    obtain ⟨c0_0, c0_1, c0_2, c0_3⟩ := unhide QA
    have l0 := (unhide QA).lt
    obtain ⟨c1_0, c1_1, c1_2, c1_3⟩ := unhide QF
    have l1 := (unhide QF).lt
    have HP5 := hide ((unhide HP).under (unhide HB) (fun x hx h0 => by have := (unhide HP).lt x hx h0; have := unhide HBE; omega))
    go_wp2_with (at_builtin; refine wpList_appPx _ rfl (.tmp 55) (.tmp 56) rfl rfl a n c q rfl rfl (unhide HP5) (by omega) ?_)
    intro a' c' w6 hP6 hb
    have HP6 := hide (hP6.below (Below.refl _ _).drew)
    clear hP6 HP5
    clear c0_0 c0_1 c0_2 c0_3 l0
    clear c1_0 c1_1 c1_2 c1_3 l1
    have QA := hide ((unhide QA).below hb (unhide QA).lt)
    have QF := hide ((unhide QF).below hb (unhide QF).lt)
    have HB := hide ((unhide HB).trans (hb.mono (by omega)))
    have hz : B < w6.heap.size := by have := hb.size; omega
    clear hb
    obtain ⟨c0_0, c0_1, c0_2, c0_3⟩ := unhide QA
    have l0 := (unhide QA).lt
    obtain ⟨c1_0, c1_1, c1_2, c1_3⟩ := unhide QF
    have l1 := (unhide QF).lt
    go_wp2_with fail
    go_region_held (fun w' => w'.cell? ⟨B, 0, none⟩ = some (.int .u8 (pr : Int)) ∧ w'.cell? ⟨B, 1, none⟩ = some (.int .u8 (pg : Int)) ∧ w'.cell? ⟨B, 2, none⟩ = some (.int .u8 (pb : Int)) ∧ w'.cell? ⟨B, 3, none⟩ = some (.int .u8 (pa : Int))) (go_keep) (first | (go_at_call 14; refine (unhide HMo a' c' w6.drew (unhide HP6)).mono ?_; rintro e w7 ⟨rfl, hb7⟩; have hk7 := fun (k o : Nat) (h : k < w6.heap.size) => hb7.cell (p := ⟨k, o, none⟩) h; have hz7 : B < w7.heap.size := Nat.lt_of_lt_of_le hz hb7.size) | (go_at_call 15; refine (unhide HM _ ((unhide HB).drew.trans (hb7.mono (Nat.le_of_lt hz)))).mono ?_; rintro e w8 ⟨rfl, hb8⟩; have hk8 := fun (k o : Nat) (h : k < w7.heap.size) => hb8.cell (p := ⟨k, o, none⟩) h; have hz8 : B < w8.heap.size := Nat.lt_of_lt_of_le hz7 hb8.size) | (go_at_call 16; refine (unhide HT _).mono ?_; rintro e w9 ⟨rfl, hb9⟩; have hk9 := fun (k o : Nat) (h : k < w8.heap.size) => hb9.cell (p := ⟨k, o, none⟩) h; have hz9 : B < w9.heap.size := Nat.lt_of_lt_of_le hz8 hb9.size) | (go_at_call 17; refine (unhide HPT _).mono ?_; rintro e w10 ⟨rfl, hb10⟩; have hk10 := fun (k o : Nat) (h : k < w9.heap.size) => hb10.cell (p := ⟨k, o, none⟩) h; have hz10 : B < w10.heap.size := Nat.lt_of_lt_of_le hz9 hb10.size))
    clear c0_0 c0_1 c0_2 c0_3 l0
    clear c1_0 c1_1 c1_2 c1_3 l1
    have hb : Below w6.heap.size w6 w10 := ((((Below.refl _ _).drew.trans hb7).trans (hb8.mono hb7.size)).trans (hb9.mono (Nat.le_trans hb7.size hb8.size))).trans (hb10.mono (Nat.le_trans hb7.size (Nat.le_trans hb8.size hb9.size)))
    clear hk7 hk8 hk9 hk10 hz7 hz8 hz9 hz10 hb7 hb8 hb9 hb10
    have QA := hide ((unhide QA).below hb (unhide QA).lt)
    have QF := hide ((unhide QF).below hb (unhide QF).lt)
    have HB := hide ((unhide HB).trans (hb.mono (by omega)))
    have hz : B < w10.heap.size := by have := hb.size; omega
    clear hb
    clear HP6
    obtain ⟨c0_0, c0_1, c0_2, c0_3⟩ := unhide QA
    have l0 := (unhide QA).lt
    obtain ⟨c1_0, c1_1, c1_2, c1_3⟩ := unhide QF
    have l1 := (unhide QF).lt
    go_wp2_with fail
    refine (unhide HT _).mono ?_
    rintro e w11 ⟨rfl, hb⟩
    clear c0_0 c0_1 c0_2 c0_3 l0
    clear c1_0 c1_1 c1_2 c1_3 l1
    have QA := hide ((unhide QA).below hb (unhide QA).lt)
    have QF := hide ((unhide QF).below hb (unhide QF).lt)
    have HB := hide ((unhide HB).trans (hb.mono (by omega)))
    have hz : B < w11.heap.size := by have := hb.size; omega
    clear hb
    obtain ⟨c0_0, c0_1, c0_2, c0_3⟩ := unhide QA
    have l0 := (unhide QA).lt
    obtain ⟨c1_0, c1_1, c1_2, c1_3⟩ := unhide QF
    have l1 := (unhide QF).lt
    go_wp2_with fail
    refine (unhide HR _ (unhide HB)).mono ?_
    rintro e w12 ⟨rfl, hb⟩
    clear c0_0 c0_1 c0_2 c0_3 l0
    clear c1_0 c1_1 c1_2 c1_3 l1
    have QA := hide ((unhide QA).below hb (unhide QA).lt)
    have QF := hide ((unhide QF).below hb (unhide QF).lt)
    have HB := hide ((unhide HB).trans (hb.mono (by omega)))
    have hz : B < w12.heap.size := by have := hb.size; omega
    clear hb
    obtain ⟨c0_0, c0_1, c0_2, c0_3⟩ := unhide QA
    have l0 := (unhide QA).lt
    obtain ⟨c1_0, c1_1, c1_2, c1_3⟩ := unhide QF
    have l1 := (unhide QF).lt
    go_wp2_with fail
    clear c0_0 c0_1 c0_2 c0_3 l0
    clear c1_0 c1_1 c1_2 c1_3 l1
    have T := hide (q4_laid w12 pr pg pb pa)
    unfold q4Obj at T
    generalize w12.alloc (.cells #[.int .u8 (pr : Int), .int .u8 (pg : Int), .int .u8 (pb : Int), .int .u8 (pa : Int)] 23) = w13 at *
    obtain ⟨QR, hA, hzA⟩ := unhide T
    have QA := hide ((unhide QA).below hA (unhide QA).lt)
    have QF := hide ((unhide QF).below hA (unhide QF).lt)
    have QR := hide QR
    have HB := hide ((unhide HB).trans (hA.mono (by omega)))
    have hz : B < w13.heap.size := by omega
    clear T hA hzA
    refine (unhide HRs _ (unhide HB)).mono ?_
    rintro e w14 ⟨rfl, hb⟩
    have QA := hide ((unhide QA).below hb (unhide QA).lt)
    have QF := hide ((unhide QF).below hb (unhide QF).lt)
    have QR := hide ((unhide QR).below hb (unhide QR).lt)
    have HB := hide ((unhide HB).trans (hb.mono (by omega)))
    have hz : B < w14.heap.size := by have := hb.size; omega
    clear hb
    obtain ⟨c0_0, c0_1, c0_2, c0_3⟩ := unhide QA
    have l0 := (unhide QA).lt
    obtain ⟨c1_0, c1_1, c1_2, c1_3⟩ := unhide QF
    have l1 := (unhide QF).lt
    obtain ⟨c2_0, c2_1, c2_2, c2_3⟩ := unhide QR
    have l2 := (unhide QR).lt
    go_wp2_with fail
    clear c0_0 c0_1 c0_2 c0_3 l0
    clear c1_0 c1_1 c1_2 c1_3 l1
    clear c2_0 c2_1 c2_2 c2_3 l2
    have T := hide (q4_laid w14 sr sg sb sa)
    unfold q4Obj at T
    generalize w14.alloc (.cells #[.int .u8 (sr : Int), .int .u8 (sg : Int), .int .u8 (sb : Int), .int .u8 (sa : Int)] 23) = w15 at *
    obtain ⟨QS, hA, hzA⟩ := unhide T
    have QA := hide ((unhide QA).below hA (unhide QA).lt)
    have QF := hide ((unhide QF).below hA (unhide QF).lt)
    have QR := hide ((unhide QR).below hA (unhide QR).lt)
    have QS := hide QS
    have HB := hide ((unhide HB).trans (hA.mono (by omega)))
    have hz : B < w15.heap.size := by omega
    clear T hA hzA
    refine (unhide HPO _).mono ?_
    rintro e w16 ⟨rfl, hb⟩
    have QA := hide ((unhide QA).below hb (unhide QA).lt)
    have QF := hide ((unhide QF).below hb (unhide QF).lt)
    have QR := hide ((unhide QR).below hb (unhide QR).lt)
    have QS := hide ((unhide QS).below hb (unhide QS).lt)
    have HB := hide ((unhide HB).trans (hb.mono (by omega)))
    have hz : B < w16.heap.size := by have := hb.size; omega
    clear hb
    obtain ⟨c0_0, c0_1, c0_2, c0_3⟩ := unhide QA
    have l0 := (unhide QA).lt
    obtain ⟨c1_0, c1_1, c1_2, c1_3⟩ := unhide QF
    have l1 := (unhide QF).lt
    obtain ⟨c2_0, c2_1, c2_2, c2_3⟩ := unhide QR
    have l2 := (unhide QR).lt
    obtain ⟨c3_0, c3_1, c3_2, c3_3⟩ := unhide QS
    have l3 := (unhide QS).lt
    go_wp2
    go_ret
    exact ⟨rfl, by rw [← unhide HBE]; exact (unhide HB).alloc (by omega) _⟩

set_option maxHeartbeats 16000000 in
set_option maxRecDepth 100000 in
theorem fades_ob (pr pg pb pa mr mg mb ma : Nat) (z : Int) (a : Option Addr) (n c : Nat) (q : Nat → Px) (s t : ByteArray) (w : World) (hn : n ≤ 100) (hP : IsPx w a n q) (ev : Value) (d12 : decide (z < 0) = true ∨ (decide (z < 0) = false ∧ decide (z > 255) = true))
    (HH : Hid (∀ w', Calls Tryd.prog 7 #[] w' fun e w'' => e = .returned (.bool true) ∧ Below w'.heap.size w' w''))
    (HF : Hid (∀ w', Below w.heap.size w w' → Calls Tryd.prog 12 #[.agg #[.int .u8 (pr : Int), .int .u8 (pg : Int), .int .u8 (pb : Int), .int .u8 (pa : Int)], .int .i64 z] w' fun e w'' => e = .returned (.tuple #[.agg #[.int .u8 0, .int .u8 0, .int .u8 0, .int .u8 0], ev]) ∧ Below w'.heap.size w' w''))
    (HC : Hid (∀ w', Below w.heap.size w w' → Calls Tryd.prog 10 #[ev, .int .i64 2] w' fun e w'' => e = .returned (.bool true) ∧ Below w'.heap.size w' w''))
    (HMo : Hid (∀ (a' : Option Addr) (c' : Nat) (w' : World), IsPx w' a' n q → Calls Tryd.prog 14 #[.slice a' n c'] w' fun e w'' => e = .returned (.agg #[.int .u8 (mr : Int), .int .u8 (mg : Int), .int .u8 (mb : Int), .int .u8 (ma : Int)]) ∧ Below w'.heap.size w' w''))
    (HM : Hid (∀ w', Below w.heap.size w w' → Calls Tryd.prog 15 #[.slice a n c] w' fun e w'' => e = .returned (.agg #[.int .u8 (mr : Int), .int .u8 (mg : Int), .int .u8 (mb : Int), .int .u8 (ma : Int)]) ∧ Below w'.heap.size w' w''))
    (HT : Hid (∀ w', Calls Tryd.prog 16 #[.agg #[.int .u8 (pr : Int), .int .u8 (pg : Int), .int .u8 (pb : Int), .int .u8 (pa : Int)]] w' fun e w'' => e = .returned (.string t) ∧ Below w'.heap.size w' w''))
    (HPT : Hid (∀ w', Calls Tryd.prog 17 #[.agg #[.int .u8 (pr : Int), .int .u8 (pg : Int), .int .u8 (pb : Int), .int .u8 (pa : Int)]] w' fun e w'' => e = .returned (.string t) ∧ Below w'.heap.size w' w''))
    (HR : Hid (∀ w', Below w.heap.size w w' → Calls Tryd.prog 18 #[.string t] w' fun e w'' => e = .returned (.tuple #[.agg #[.int .u8 (pr : Int), .int .u8 (pg : Int), .int .u8 (pb : Int), .int .u8 (pa : Int)], .nilIface]) ∧ Below w'.heap.size w' w''))
    (et : Value) (HRs : Hid (∀ w', Below w.heap.size w w' → Calls Tryd.prog 18 #[.string s] w' fun e w'' => e = .returned (.tuple #[.agg #[.int .u8 0, .int .u8 0, .int .u8 0, .int .u8 0], et]) ∧ Below w'.heap.size w' w''))
    (HPO : Hid (∀ w', Calls Tryd.prog 19 #[.string s] w' fun e w'' => e = .returned (.tuple #[.agg #[.int .u8 0, .int .u8 0, .int .u8 0, .int .u8 0], .bool false]) ∧ Below w'.heap.size w' w''))
    (HCt : Hid (∀ w', Below w.heap.size w w' → Calls Tryd.prog 10 #[et, .int .i64 1] w' fun e w'' => e = .returned (.bool true) ∧ Below w'.heap.size w' w''))
    : Calls Tryd.prog 6 #[.agg #[.int .u8 (pr : Int), .int .u8 (pg : Int), .int .u8 (pb : Int), .int .u8 (pa : Int)], .int .i64 z, .slice a n c, .string s] w fun e w' => e = .returned (.bool true) ∧ Below w.heap.size w w' := by
  have g1 : decide ((n : Int) > 100) = false := decide_eq_false (by omega)
  have g1' : decide ((100 : Int) < (n : Int)) = false := g1
  have g1n : decide (100 < n) = false := decide_eq_false (by omega)
  have rt := bool_refl_text t
  have rt' := bool_refl_text' t
  have hz0 : ((0 : Nat) : Int) = 0 := rfl
  have HP := hide hP
  clear hP
  obtain ⟨B, hB⟩ : ∃ B, B = w.heap.size := ⟨_, rfl⟩
  have T := hide (q4_laid w pr pg pb pa)
  unfold q4Obj at T
  rcases d12 with d1 | ⟨d1, d2⟩
  all_goals
    try have d2' : decide ((255 : Int) < z) = true := d2
    go_enter Tryd.func6, Tryd.ntmps6
    go_wp2_with fail
    generalize w.alloc (.cells #[.int .u8 (pr : Int), .int .u8 (pg : Int), .int .u8 (pb : Int), .int .u8 (pa : Int)] 23) = w1 at *
    rw [← hB] at T HF HM HR HRs HC HCt ⊢
    have HBE := hide hB
    obtain ⟨QA, hb1, hz1⟩ := unhide T
    have QA := hide QA
    have HB := hide hb1
    have hz : B < w1.heap.size := hz1
    clear T hb1 hz1 hB
    refine (unhide HH _).mono ?_
    rintro e w2 ⟨rfl, hb⟩
    have QA := hide ((unhide QA).below hb (unhide QA).lt)
    have HB := hide ((unhide HB).trans (hb.mono (by omega)))
    have hz : B < w2.heap.size := by have := hb.size; omega
    clear hb
    obtain ⟨c0_0, c0_1, c0_2, c0_3⟩ := unhide QA
    have l0 := (unhide QA).lt
    go_wp2_with fail
    refine (unhide HF _ (unhide HB)).mono ?_
    rintro e w3 ⟨rfl, hb⟩
    clear c0_0 c0_1 c0_2 c0_3 l0
    have QA := hide ((unhide QA).below hb (unhide QA).lt)
    have HB := hide ((unhide HB).trans (hb.mono (by omega)))
    have hz : B < w3.heap.size := by have := hb.size; omega
    clear hb
    obtain ⟨c0_0, c0_1, c0_2, c0_3⟩ := unhide QA
    have l0 := (unhide QA).lt
    go_wp2_with fail
    clear c0_0 c0_1 c0_2 c0_3 l0
    have T := hide (q4_laid w3 0 0 0 0)
    unfold q4Obj at T
    rw [hz0] at T
    generalize w3.alloc (.cells #[.int .u8 0, .int .u8 0, .int .u8 0, .int .u8 0] 23) = w4 at *
    obtain ⟨QF, hA, hzA⟩ := unhide T
    have QA := hide ((unhide QA).below hA (unhide QA).lt)
    have QF := hide QF
    have HB := hide ((unhide HB).trans (hA.mono (by omega)))
    have hz : B < w4.heap.size := by omega
    clear T hA hzA
    refine (unhide HC _ (unhide HB)).mono ?_
    rintro e w5 ⟨rfl, hb⟩
    have QA := hide ((unhide QA).below hb (unhide QA).lt)
    have QF := hide ((unhide QF).below hb (unhide QF).lt)
    have HB := hide ((unhide HB).trans (hb.mono (by omega)))
    have hz : B < w5.heap.size := by have := hb.size; omega
    clear hb
    obtain ⟨c0_0, c0_1, c0_2, c0_3⟩ := unhide QA
    have l0 := (unhide QA).lt
    obtain ⟨c1_0, c1_1, c1_2, c1_3⟩ := unhide QF
    have l1 := (unhide QF).lt
    have HP5 := hide ((unhide HP).under (unhide HB) (fun x hx h0 => by have := (unhide HP).lt x hx h0; have := unhide HBE; omega))
    go_wp2_with (at_builtin; refine wpList_appPx _ rfl (.tmp 55) (.tmp 56) rfl rfl a n c q rfl rfl (unhide HP5) (by omega) ?_)
    intro a' c' w6 hP6 hb
    have HP6 := hide (hP6.below (Below.refl _ _).drew)
    clear hP6 HP5
    clear c0_0 c0_1 c0_2 c0_3 l0
    clear c1_0 c1_1 c1_2 c1_3 l1
    have QA := hide ((unhide QA).below hb (unhide QA).lt)
    have QF := hide ((unhide QF).below hb (unhide QF).lt)
    have HB := hide ((unhide HB).trans (hb.mono (by omega)))
    have hz : B < w6.heap.size := by have := hb.size; omega
    clear hb
    obtain ⟨c0_0, c0_1, c0_2, c0_3⟩ := unhide QA
    have l0 := (unhide QA).lt
    obtain ⟨c1_0, c1_1, c1_2, c1_3⟩ := unhide QF
    have l1 := (unhide QF).lt
    go_wp2_with fail
    go_region_held (fun w' => w'.cell? ⟨B, 0, none⟩ = some (.int .u8 (pr : Int)) ∧ w'.cell? ⟨B, 1, none⟩ = some (.int .u8 (pg : Int)) ∧ w'.cell? ⟨B, 2, none⟩ = some (.int .u8 (pb : Int)) ∧ w'.cell? ⟨B, 3, none⟩ = some (.int .u8 (pa : Int))) (go_keep) (first | (go_at_call 14; refine (unhide HMo a' c' w6.drew (unhide HP6)).mono ?_; rintro e w7 ⟨rfl, hb7⟩; have hk7 := fun (k o : Nat) (h : k < w6.heap.size) => hb7.cell (p := ⟨k, o, none⟩) h; have hz7 : B < w7.heap.size := Nat.lt_of_lt_of_le hz hb7.size) | (go_at_call 15; refine (unhide HM _ ((unhide HB).drew.trans (hb7.mono (Nat.le_of_lt hz)))).mono ?_; rintro e w8 ⟨rfl, hb8⟩; have hk8 := fun (k o : Nat) (h : k < w7.heap.size) => hb8.cell (p := ⟨k, o, none⟩) h; have hz8 : B < w8.heap.size := Nat.lt_of_lt_of_le hz7 hb8.size) | (go_at_call 16; refine (unhide HT _).mono ?_; rintro e w9 ⟨rfl, hb9⟩; have hk9 := fun (k o : Nat) (h : k < w8.heap.size) => hb9.cell (p := ⟨k, o, none⟩) h; have hz9 : B < w9.heap.size := Nat.lt_of_lt_of_le hz8 hb9.size) | (go_at_call 17; refine (unhide HPT _).mono ?_; rintro e w10 ⟨rfl, hb10⟩; have hk10 := fun (k o : Nat) (h : k < w9.heap.size) => hb10.cell (p := ⟨k, o, none⟩) h; have hz10 : B < w10.heap.size := Nat.lt_of_lt_of_le hz9 hb10.size))
    clear c0_0 c0_1 c0_2 c0_3 l0
    clear c1_0 c1_1 c1_2 c1_3 l1
    have hb : Below w6.heap.size w6 w10 := ((((Below.refl _ _).drew.trans hb7).trans (hb8.mono hb7.size)).trans (hb9.mono (Nat.le_trans hb7.size hb8.size))).trans (hb10.mono (Nat.le_trans hb7.size (Nat.le_trans hb8.size hb9.size)))
    clear hk7 hk8 hk9 hk10 hz7 hz8 hz9 hz10 hb7 hb8 hb9 hb10
    have QA := hide ((unhide QA).below hb (unhide QA).lt)
    have QF := hide ((unhide QF).below hb (unhide QF).lt)
    have HB := hide ((unhide HB).trans (hb.mono (by omega)))
    have hz : B < w10.heap.size := by have := hb.size; omega
    clear hb
    clear HP6
    obtain ⟨c0_0, c0_1, c0_2, c0_3⟩ := unhide QA
    have l0 := (unhide QA).lt
    obtain ⟨c1_0, c1_1, c1_2, c1_3⟩ := unhide QF
    have l1 := (unhide QF).lt
    go_wp2_with fail
    refine (unhide HT _).mono ?_
    rintro e w11 ⟨rfl, hb⟩
    clear c0_0 c0_1 c0_2 c0_3 l0
    clear c1_0 c1_1 c1_2 c1_3 l1
    have QA := hide ((unhide QA).below hb (unhide QA).lt)
    have QF := hide ((unhide QF).below hb (unhide QF).lt)
    have HB := hide ((unhide HB).trans (hb.mono (by omega)))
    have hz : B < w11.heap.size := by have := hb.size; omega
    clear hb
    obtain ⟨c0_0, c0_1, c0_2, c0_3⟩ := unhide QA
    have l0 := (unhide QA).lt
    obtain ⟨c1_0, c1_1, c1_2, c1_3⟩ := unhide QF
    have l1 := (unhide QF).lt
    go_wp2_with fail
    refine (unhide HR _ (unhide HB)).mono ?_
    rintro e w12 ⟨rfl, hb⟩
    clear c0_0 c0_1 c0_2 c0_3 l0
    clear c1_0 c1_1 c1_2 c1_3 l1
    have QA := hide ((unhide QA).below hb (unhide QA).lt)
    have QF := hide ((unhide QF).below hb (unhide QF).lt)
    have HB := hide ((unhide HB).trans (hb.mono (by omega)))
    have hz : B < w12.heap.size := by have := hb.size; omega
    clear hb
    obtain ⟨c0_0, c0_1, c0_2, c0_3⟩ := unhide QA
    have l0 := (unhide QA).lt
    obtain ⟨c1_0, c1_1, c1_2, c1_3⟩ := unhide QF
    have l1 := (unhide QF).lt
    go_wp2_with fail
    clear c0_0 c0_1 c0_2 c0_3 l0
    clear c1_0 c1_1 c1_2 c1_3 l1
    have T := hide (q4_laid w12 pr pg pb pa)
    unfold q4Obj at T
    generalize w12.alloc (.cells #[.int .u8 (pr : Int), .int .u8 (pg : Int), .int .u8 (pb : Int), .int .u8 (pa : Int)] 23) = w13 at *
    obtain ⟨QR, hA, hzA⟩ := unhide T
    have QA := hide ((unhide QA).below hA (unhide QA).lt)
    have QF := hide ((unhide QF).below hA (unhide QF).lt)
    have QR := hide QR
    have HB := hide ((unhide HB).trans (hA.mono (by omega)))
    have hz : B < w13.heap.size := by omega
    clear T hA hzA
    refine (unhide HRs _ (unhide HB)).mono ?_
    rintro e w14 ⟨rfl, hb⟩
    have QA := hide ((unhide QA).below hb (unhide QA).lt)
    have QF := hide ((unhide QF).below hb (unhide QF).lt)
    have QR := hide ((unhide QR).below hb (unhide QR).lt)
    have HB := hide ((unhide HB).trans (hb.mono (by omega)))
    have hz : B < w14.heap.size := by have := hb.size; omega
    clear hb
    obtain ⟨c0_0, c0_1, c0_2, c0_3⟩ := unhide QA
    have l0 := (unhide QA).lt
    obtain ⟨c1_0, c1_1, c1_2, c1_3⟩ := unhide QF
    have l1 := (unhide QF).lt
    obtain ⟨c2_0, c2_1, c2_2, c2_3⟩ := unhide QR
    have l2 := (unhide QR).lt
    go_wp2_with fail
    clear c0_0 c0_1 c0_2 c0_3 l0
    clear c1_0 c1_1 c1_2 c1_3 l1
    clear c2_0 c2_1 c2_2 c2_3 l2
    have T := hide (q4_laid w14 0 0 0 0)
    unfold q4Obj at T
    rw [hz0] at T
    generalize w14.alloc (.cells #[.int .u8 0, .int .u8 0, .int .u8 0, .int .u8 0] 23) = w15 at *
    obtain ⟨QS, hA, hzA⟩ := unhide T
    have QA := hide ((unhide QA).below hA (unhide QA).lt)
    have QF := hide ((unhide QF).below hA (unhide QF).lt)
    have QR := hide ((unhide QR).below hA (unhide QR).lt)
    have QS := hide QS
    have HB := hide ((unhide HB).trans (hA.mono (by omega)))
    have hz : B < w15.heap.size := by omega
    clear T hA hzA
    refine (unhide HPO _).mono ?_
    rintro e w16 ⟨rfl, hb⟩
    have QA := hide ((unhide QA).below hb (unhide QA).lt)
    have QF := hide ((unhide QF).below hb (unhide QF).lt)
    have QR := hide ((unhide QR).below hb (unhide QR).lt)
    have QS := hide ((unhide QS).below hb (unhide QS).lt)
    have HB := hide ((unhide HB).trans (hb.mono (by omega)))
    have hz : B < w16.heap.size := by have := hb.size; omega
    clear hb
    obtain ⟨c0_0, c0_1, c0_2, c0_3⟩ := unhide QA
    have l0 := (unhide QA).lt
    obtain ⟨c1_0, c1_1, c1_2, c1_3⟩ := unhide QF
    have l1 := (unhide QF).lt
    obtain ⟨c2_0, c2_1, c2_2, c2_3⟩ := unhide QR
    have l2 := (unhide QR).lt
    obtain ⟨c3_0, c3_1, c3_2, c3_3⟩ := unhide QS
    have l3 := (unhide QS).lt
    go_wp2_with fail
    clear c0_0 c0_1 c0_2 c0_3 l0
    clear c1_0 c1_1 c1_2 c1_3 l1
    clear c2_0 c2_1 c2_2 c2_3 l2
    clear c3_0 c3_1 c3_2 c3_3 l3
    have T := hide (q4_laid w16 0 0 0 0)
    unfold q4Obj at T
    rw [hz0] at T
    generalize w16.alloc (.cells #[.int .u8 0, .int .u8 0, .int .u8 0, .int .u8 0] 23) = w17 at *
    obtain ⟨QT, hA, hzA⟩ := unhide T
    have QA := hide ((unhide QA).below hA (unhide QA).lt)
    have QF := hide ((unhide QF).below hA (unhide QF).lt)
    have QR := hide ((unhide QR).below hA (unhide QR).lt)
    have QS := hide ((unhide QS).below hA (unhide QS).lt)
    have QT := hide QT
    have HB := hide ((unhide HB).trans (hA.mono (by omega)))
    have hz : B < w17.heap.size := by omega
    clear T hA hzA
    refine (unhide HCt _ (unhide HB)).mono ?_
    rintro e w18 ⟨rfl, hb⟩
    have QA := hide ((unhide QA).below hb (unhide QA).lt)
    have QF := hide ((unhide QF).below hb (unhide QF).lt)
    have QR := hide ((unhide QR).below hb (unhide QR).lt)
    have QS := hide ((unhide QS).below hb (unhide QS).lt)
    have QT := hide ((unhide QT).below hb (unhide QT).lt)
    have HB := hide ((unhide HB).trans (hb.mono (by omega)))
    have hz : B < w18.heap.size := by have := hb.size; omega
    clear hb
    obtain ⟨c0_0, c0_1, c0_2, c0_3⟩ := unhide QA
    have l0 := (unhide QA).lt
    obtain ⟨c1_0, c1_1, c1_2, c1_3⟩ := unhide QF
    have l1 := (unhide QF).lt
    obtain ⟨c2_0, c2_1, c2_2, c2_3⟩ := unhide QR
    have l2 := (unhide QR).lt
    obtain ⟨c3_0, c3_1, c3_2, c3_3⟩ := unhide QS
    have l3 := (unhide QS).lt
    obtain ⟨c4_0, c4_1, c4_2, c4_3⟩ := unhide QT
    have l4 := (unhide QT).lt
    go_wp2
    go_ret
    exact ⟨rfl, by rw [← unhide HBE]; exact unhide HB⟩

set_option maxHeartbeats 4000000 in
set_option maxRecDepth 100000 in
theorem pixelFades_any (p : Px) (z : Int) (ao : Option Addr) (n c : Nat) (q : Nat → Px) (s : ByteArray) (w : World) (a : Nat → Addr) (hS : Sent w a) (hP : IsPx w ao n q) (hs : s.size ≤ maxLen) :
    Calls Tryd.prog 6 #[p.val, .int .i64 z, .slice ao n c, .string s] w fun e w' => e = .returned (.bool true) ∧ Below w.heap.size w w' := by
  have HH : Hid (∀ w, Calls Tryd.prog 7 #[] w fun e w' => e = .returned (.bool true) ∧ Below w.heap.size w w') := half_any
  by_cases hn : n ≤ 100
  rotate_left
  · have g1 : decide ((n : Int) > 100) = true := decide_eq_true (by omega)
    have g1' : decide ((100 : Int) < (n : Int)) = true := g1
    have g1n : decide (100 < n) = true := decide_eq_true (by omega)
    have hb1 : ∀ x t, Below w.heap.size w (w.alloc (.cells x t)) := fun x t => (Below.refl _ _).alloc (Nat.le_refl _) _
    have HB1 := hide hb1
    unfold Px.val
    clear hS hP hb1 hs
    go_enter Tryd.func6, Tryd.ntmps6
    go_wp2_with fail
    refine (unhide HH _).mono ?_
    rintro e w3 ⟨rfl, hb3⟩
    have HB3 := hide ((unhide HB1 _ _).trans (hb3.mono (by simp)))
    clear hb3
    go_wp2
    go_ret
    exact ⟨rfl, unhide HB3⟩
  have HMo : Hid (∀ (a' : Option Addr) (c' : Nat) (w' : World), IsPx w' a' n q → Calls Tryd.prog 14 #[.slice a' n c'] w' fun e w'' => e = .returned (mixP q n).val ∧ Below w'.heap.size w' w'') := fun a' c' w' h => mix_any a' n c' q w' h (by omega)
  have HM : Hid (∀ w', Below w.heap.size w w' → Calls Tryd.prog 15 #[.slice ao n c] w' fun e w'' => e = .returned (mixP q n).val ∧ Below w'.heap.size w' w'') := fun w' hb => mixOf_any ao n c q w' (hP.below hb) (by omega)
  have HT : Hid (∀ w', Calls Tryd.prog 16 #[p.val] w' fun e w'' => e = .returned (.string (pxT p)) ∧ Below w'.heap.size w' w'') := fun w' => text_any p w'
  have HPT : Hid (∀ w', Calls Tryd.prog 17 #[p.val] w' fun e w'' => e = .returned (.string (pxT p)) ∧ Below w'.heap.size w' w'') := fun w' => pixelText_any p w'
  have HR : Hid (∀ w', Below w.heap.size w w' → Calls Tryd.prog 18 #[.string (pxT p)] w' fun e w'' => e = .returned (.tuple #[p.val, .nilIface]) ∧ Below w'.heap.size w' w'') := fun w' hb => by
    have := pread_any (pxT p) w' _ _ (by rw [pxT_size]; unfold maxLen; omega) ((hS.below hb).cell 0 (by omega))
    rw [if_pos (pxT_good p), pxT_read] at this
    exact this
  have HRs := fun w' (hb : Below w.heap.size w w') => pread_any s w' _ _ hs ((hS.below hb).cell 0 (by omega))
  have HPO := fun w' => pixelOf_any s w' hs
  have hu : ∀ p : Px, p.val = .agg #[.int .u8 (p.r.toNat : Int), .int .u8 (p.g.toNat : Int), .int .u8 (p.b.toNat : Int), .int .u8 (p.a.toNat : Int)] := fun _ => rfl
  by_cases hz : 0 ≤ z ∧ z ≤ 255
  · obtain ⟨z0, z1⟩ := hz
    have d1 : decide (z < 0) = false := decide_eq_false (by omega)
    have d2 : decide (z > 255) = false := decide_eq_false (by omega)
    obtain ⟨o, rfl⟩ := Int.eq_ofNat_of_zero_le z0
    have HF : Hid (∀ w', Below w.heap.size w w' → Calls Tryd.prog 12 #[p.val, .int .i64 (o : Int)] w' fun e w'' => e = .returned (.tuple #[(fadeP p o).val, .nilIface]) ∧ Below w'.heap.size w' w'') := fun w' _ => fade_any p o w' (by omega)
    have HFO : Hid (∀ w', Calls Tryd.prog 13 #[p.val, .int .i64 (o : Int)] w' fun e w'' => e = .returned (fadeP p o).val ∧ Below w'.heap.size w' w'') := fun w' => fadeOf_any p o w' (by omega)
    by_cases hg : GoodT s
    · rw [if_pos hg] at HRs HPO
      simp only [hu] at *
      exact fades_ig _ _ _ _ _ _ _ _ _ _ _ _ _ _ _ _ _ ao n c q s (pxT p) w hn hP d1 d2 HH HF HFO HMo HM HT HPT HR HRs HPO
    · rw [if_neg hg] at HRs HPO
      have HCt : Hid (∀ w', Below w.heap.size w w' → Calls Tryd.prog 10 #[sentV a 0, .int .i64 1] w' fun e w'' => e = .returned (.bool true) ∧ Below w'.heap.size w' w'') := fun w' hb => coded2_sent 0 1 w' a (hS.below hb) (by omega) rfl
      simp only [hu] at *
      exact fades_ib _ _ _ _ _ _ _ _ _ _ _ _ _ ao n c q s (pxT p) w hn hP d1 d2 HH HF HFO HMo HM HT HPT HR _ HRs HPO HCt
  · have d12 : decide (z < 0) = true ∨ (decide (z < 0) = false ∧ decide (z > 255) = true) := by
      simp only [decide_eq_true_eq, decide_eq_false_iff_not]
      omega
    have HF : Hid (∀ w', Below w.heap.size w w' → Calls Tryd.prog 12 #[p.val, .int .i64 z] w' fun e w'' => e = .returned (.tuple #[.agg #[.int .u8 0, .int .u8 0, .int .u8 0, .int .u8 0], sentV a 1]) ∧ Below w'.heap.size w' w'') := fun w' hb => fade_bad p z w' _ _ (by omega) ((hS.below hb).cell 1 (by omega))
    have HC : Hid (∀ w', Below w.heap.size w w' → Calls Tryd.prog 10 #[sentV a 1, .int .i64 2] w' fun e w'' => e = .returned (.bool true) ∧ Below w'.heap.size w' w'') := fun w' hb => coded2_sent 1 2 w' a (hS.below hb) (by omega) rfl
    by_cases hg : GoodT s
    · rw [if_pos hg] at HRs HPO
      simp only [hu] at *
      exact fades_og _ _ _ _ _ _ _ _ _ _ _ _ z ao n c q s (pxT p) w hn hP _ d12 HH HF HC HMo HM HT HPT HR HRs HPO
    · rw [if_neg hg] at HRs HPO
      have HCt : Hid (∀ w', Below w.heap.size w w' → Calls Tryd.prog 10 #[sentV a 0, .int .i64 1] w' fun e w'' => e = .returned (.bool true) ∧ Below w'.heap.size w' w'') := fun w' hb => coded2_sent 0 1 w' a (hS.below hb) (by omega) rfl
      simp only [hu] at *
      exact fades_ob _ _ _ _ _ _ _ _ z ao n c q s (pxT p) w hn hP _ d12 HH HF HC HMo HM HT HPT HR _ HRs HPO HCt

end Go.Proofs.YtaghndongffafagDoor
