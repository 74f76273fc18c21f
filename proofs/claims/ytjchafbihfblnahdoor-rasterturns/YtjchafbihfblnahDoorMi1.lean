/- Pixels, mixed: the program's. -/
import Derived.Test.YtjchafbihfblnahDoorOv3
namespace Go.Proofs.YtjchafbihfblnahDoor
open Go.RowKit

/-- A sum over the first pixels. -/
def sumP (f : Px → Nat) (q : Nat → Px) : Nat → Nat
  | 0 => 0
  | i + 1 => sumP f q i + f (q i)
theorem sumP_le {f g : Px → Nat} {c : Nat} (q : Nat → Px) (h : ∀ p, f p ≤ c * g p) (n : Nat) : sumP f q n ≤ c * sumP g q n := by
  induction n with
  | zero => simp [sumP]
  | succ n ih => unfold sumP; rw [Nat.mul_add]; exact Nat.add_le_add ih (h (q n))
theorem sumP_bd {f : Px → Nat} {c : Nat} (q : Nat → Px) (h : ∀ p, f p ≤ c) (n : Nat) : sumP f q n ≤ c * n := by
  induction n with
  | zero => simp [sumP]
  | succ n ih => unfold sumP; rw [Nat.mul_add, Nat.mul_one]; exact Nat.add_le_add ih (h (q n))
theorem sumP_congr {f : Px → Nat} {q q' : Nat → Px} (n : Nat) (h : ∀ i, i < n → q i = q' i) : sumP f q n = sumP f q' n := by
  induction n with
  | zero => rfl
  | succ n ih => unfold sumP; rw [ih (fun i hi => h i (by omega)), h n (by omega)]
def fA (p : Px) : Nat := p.a.toNat
def fR (p : Px) : Nat := p.a.toNat * p.r.toNat
def fG (p : Px) : Nat := p.a.toNat * p.g.toNat
def fB (p : Px) : Nat := p.a.toNat * p.b.toNat
theorem fR_le (p : Px) : fR p ≤ 255 * fA p := by unfold fR fA; rw [Nat.mul_comm]; exact Nat.mul_le_mul_right _ (u8_le _)
theorem fG_le (p : Px) : fG p ≤ 255 * fA p := by unfold fG fA; rw [Nat.mul_comm]; exact Nat.mul_le_mul_right _ (u8_le _)
theorem fB_le (p : Px) : fB p ≤ 255 * fA p := by unfold fB fA; rw [Nat.mul_comm]; exact Nat.mul_le_mul_right _ (u8_le _)
theorem fA_le (p : Px) : fA p ≤ 255 := u8_le _
/-- Pixels, mixed. -/
def mixP (q : Nat → Px) (n : Nat) : Px := if sumP fA q n = 0 then ⟨0, 0, 0, 0⟩ else ⟨UInt8.ofNat (Ov.rnd (sumP fR q n) (sumP fA q n)), UInt8.ofNat (Ov.rnd (sumP fG q n) (sumP fA q n)), UInt8.ofNat (Ov.rnd (sumP fB q n) (sumP fA q n)), UInt8.ofNat (Ov.rnd (sumP fA q n) n)⟩
theorem mixP_congr {q q' : Nat → Px} (n : Nat) (h : ∀ i, i < n → q i = q' i) : mixP q n = mixP q' n := by unfold mixP; rw [sumP_congr n h, sumP_congr n h, sumP_congr n h, sumP_congr n h]
/-- All the bounds, for at most some pixels. -/
structure SB5 (q : Nat → Px) (n : Nat) : Prop where
  a : sumP fA q n ≤ 255 * n
  r : sumP fR q n ≤ 255 * sumP fA q n
  g : sumP fG q n ≤ 255 * sumP fA q n
  b : sumP fB q n ≤ 255 * sumP fA q n
theorem sums (q : Nat → Px) (n : Nat) : SB5 q n := ⟨sumP_bd q fA_le n, sumP_le q fR_le n, sumP_le q fG_le n, sumP_le q fB_le n⟩

set_option maxHeartbeats 4000000 in
set_option maxRecDepth 100000 in
theorem mix_any (a : Option Addr) (n c : Nat) (q : Nat → Px) (w : World) (hP : IsPx w a n q) (hn : n ≤ 100000) :
    Calls Tryd.prog 63 #[.slice a n c] w fun e w' => e = .returned (mixP q n).val ∧ Below w.heap.size w w' := by
  obtain ⟨sa, sr, sg, sb⟩ := sums q n
  have hq := q4_new w 0 0 0 0
  have hf := q4_new_f w 0 0 0 0
  unfold q4Obj at hq hf
  have hz0 : ((0 : Nat) : Int) = 0 := rfl
  rw [hz0] at hq hf
  have hW : Below w.heap.size w (w.alloc (.cells #[.int .u8 0, .int .u8 0, .int .u8 0, .int .u8 0] 23)) := (Below.refl _ _).alloc (Nat.le_refl _) _
  have hz : w.heap.size < (w.alloc (.cells #[.int .u8 0, .int .u8 0, .int .u8 0, .int .u8 0] 23)).heap.size := by simp
  have HQ := hide hq
  have HF := hide hf
  have HW := hide hW
  have HZ := hide hz
  have HP := hide hP
  obtain ⟨B, hB⟩ : ∃ B, B = w.heap.size := ⟨_, rfl⟩
  obtain ⟨V, hV⟩ : ∃ V, V = (mixP q n).val := ⟨_, rfl⟩
  rw [← hV]
  have HV := hide hV
  have HS : Hid (SB5 q n) := ⟨sa, sr, sg, sb⟩
  clear hq hf hW hz hP hV sa sr sg sb
  go_enter Tryd.func63, Tryd.ntmps63
  go_wp2
  generalize w.alloc (.cells #[.int .u8 0, .int .u8 0, .int .u8 0, .int .u8 0] 23) = w1 at *
  rw [← hB] at HQ HF HW HZ ⊢
  have HBE := hide hB
  clear hB
  go_loopw [12, 3, 4, 5, 6] (fun iv rv gv bv av wr => ∃ i : Nat, i ≤ n ∧ iv = .int .i64 (i : Int) ∧ rv = .int .i64 (sumP fR q i : Int) ∧ gv = .int .i64 (sumP fG q i : Int) ∧ bv = .int .i64 (sumP fB q i : Int) ∧ av = .int .i64 (sumP fA q i : Int) ∧ Hid (Below B w wr) ∧ B < wr.heap.size ∧ Hid (Q4 wr B 0 0 0 0) ∧ Hid (F4 wr B)) (fun iv _ _ _ _ _ => n - (intOf iv).toNat)
  case atStart => exact ⟨0, by omega, rfl, rfl, rfl, rfl, rfl, HW, unhide HZ, HQ, HF⟩
  case round =>
    clear HW HQ HF HZ
    obtain ⟨i, hi, rfl, rfl, rfl, rfl, rfl, HB, hz, HQ, HF⟩ := hrel
    obtain ⟨ia, ir, ig, ib⟩ := sums q i
    by_cases hlt : i < n
    · have g1 : decide ((i : Int) < (n : Int)) = true := decide_eq_true (by omega)
      have g1n : decide (i < n) = true := decide_eq_true hlt
      obtain ⟨bP, oP, rfl, hm, hc⟩ := (unhide HP).resolve_left (by omega)
      obtain ⟨c0, c1, c2, c3⟩ := (hc i hlt).below (B := B) (unhide HB) (by have := (hc i hlt).lt; have := unhide HBE; omega)
      have hii : (i : Int) < (n : Int) := by omega
      have HNa : Hid (sumP fA q (i + 1) = sumP fA q i + (q i).a.toNat) := rfl
      have HNr : Hid (sumP fR q (i + 1) = sumP fR q i + (q i).a.toNat * (q i).r.toNat) := rfl
      have HNg : Hid (sumP fG q (i + 1) = sumP fG q i + (q i).a.toNat * (q i).g.toNat) := rfl
      have HNb : Hid (sumP fB q (i + 1) = sumP fB q i + (q i).a.toNat * (q i).b.toNat) := rfl
      have la := u8_le (q i).a
      have lr := u8_le (q i).r
      have lg := u8_le (q i).g
      have lb := u8_le (q i).b
      generalize (q i).r.toNat = r at *
      generalize (q i).g.toNat = g at *
      generalize (q i).b.toNat = b at *
      generalize (q i).a.toNat = x at *
      obtain ⟨pr, er⟩ : ∃ p, p = x * r := ⟨_, rfl⟩
      obtain ⟨pg, eg⟩ : ∃ p, p = x * g := ⟨_, rfl⟩
      obtain ⟨pb, eb⟩ : ∃ p, p = x * b := ⟨_, rfl⟩
      have zr : (x : Int) * (r : Int) = (pr : Int) := by rw [er]; simp
      have zg : (x : Int) * (g : Int) = (pg : Int) := by rw [eg]; simp
      have zb : (x : Int) * (b : Int) = (pb : Int) := by rw [eb]; simp
      have kr : pr ≤ 255 * 255 := by rw [er]; exact Nat.mul_le_mul la lr
      have kg : pg ≤ 255 * 255 := by rw [eg]; exact Nat.mul_le_mul la lg
      have kb : pb ≤ 255 * 255 := by rw [eb]; exact Nat.mul_le_mul la lb
      rw [← er] at HNr
      rw [← eg] at HNg
      rw [← eb] at HNb
      have hba : Below wr.heap.size wr (wr.alloc (.cells #[.int .u8 (r : Int), .int .u8 (g : Int), .int .u8 (b : Int), .int .u8 (x : Int)] 23)) := (Below.refl _ _).alloc (Nat.le_refl _) _
      have HBA := hide ((unhide HB).trans (hba.mono (by omega)))
      have HQA := hide ((unhide HQ).below hba hz)
      have HFA := hide ((unhide HF).below hba hz)
      have hzA : B < (wr.alloc (.cells #[.int .u8 (r : Int), .int .u8 (g : Int), .int .u8 (b : Int), .int .u8 (x : Int)] 23)).heap.size := by simp; omega
      have HZA := hide hzA
      have wr1 : IntKind.i64.wrap (pr : Int) = (pr : Int) := by rw [IntKind.wrap_i64]; omega
      have wg1 : IntKind.i64.wrap (pg : Int) = (pg : Int) := by rw [IntKind.wrap_i64]; omega
      have wb1 : IntKind.i64.wrap (pb : Int) = (pb : Int) := by rw [IntKind.wrap_i64]; omega
      have sA : sumP fA q i ≤ 25500000 := by omega
      have sR : sumP fR q i ≤ 6502500000 := by omega
      have sG : sumP fG q i ≤ 6502500000 := by omega
      have sB : sumP fB q i ≤ 6502500000 := by omega
      clear hba hzA er eg eb hc HQ HF HB ia ir ig ib HS HV
      go_wp2
      go_roundw
      case rel => exact ⟨i + 1, by omega, by go_num, by rw [unhide HNr]; simp, by rw [unhide HNg]; simp, by rw [unhide HNb]; simp, by rw [unhide HNa]; simp, HBA, unhide HZA, HQA, HFA⟩
      case measure => simp [intOf]; omega
    · obtain rfl : i = n := by omega
      have g1 : decide ((i : Int) < (i : Int)) = false := by simp
      obtain ⟨y1, y2, y3, y4⟩ := unhide HQ
      obtain ⟨f0, f1, f2, f3⟩ := unhide HF
      by_cases h0 : sumP fA q i = 0
      · have e0 : ((sumP fA q i : Int) == 0) = true := by rw [h0]; rfl
        have HK : Hid (V = .agg #[.int .u8 0, .int .u8 0, .int .u8 0, .int .u8 0]) := by show V = _; rw [unhide HV]; unfold mixP; rw [if_pos h0]; rfl
        clear h0 HV HS HP ia ir ig ib HQ HF
        go_wp2
        refine bodyPost_ret (v := .agg #[.int .u8 0, .int .u8 0, .int .u8 0, .int .u8 0]) ?_ rfl ⟨by rw [unhide HK], ?_⟩
        · rw [results_c (p := 2) (ty := 23) (by kernel_rfl)]
          go_simp
        · rw [← unhide HBE]
          exact ((((unhide HB).setCell (p := ⟨B, 0, none⟩) (Nat.le_refl _) _).setCell (p := ⟨B, 1, none⟩) (Nat.le_refl _) _).setCell (p := ⟨B, 2, none⟩) (Nat.le_refl _) _).setCell (p := ⟨B, 3, none⟩) (Nat.le_refl _) _
      · have e0 : ((sumP fA q i : Int) == 0) = false := beq_eq_false_iff_ne.2 (by omega)
        have hi0 : 0 < i := by rcases Nat.eq_zero_or_pos i with e | e; exact absurd (by rw [e]; rfl) h0; exact e
        have HR1 := hide (fun w => prounded_any (sumP fR q i) (sumP fA q i) w (by omega) (by omega) ir)
        have HR2 := hide (fun w => prounded_any (sumP fG q i) (sumP fA q i) w (by omega) (by omega) ig)
        have HR3 := hide (fun w => prounded_any (sumP fB q i) (sumP fA q i) w (by omega) (by omega) ib)
        have HR4 := hide (fun w => prounded_any (sumP fA q i) i w (by omega) (by omega) ia)
        have HK : Hid (V = .agg #[.int .u8 (Ov.rnd (sumP fR q i) (sumP fA q i) : Int), .int .u8 (Ov.rnd (sumP fG q i) (sumP fA q i) : Int), .int .u8 (Ov.rnd (sumP fB q i) (sumP fA q i) : Int), .int .u8 (Ov.rnd (sumP fA q i) i : Int)]) := by
          show V = _
          rw [unhide HV]
          unfold mixP
          rw [if_neg h0]
          unfold Px.val
          dsimp only
          rw [u8_of (Ov.rnd_le ir (by omega)), u8_of (Ov.rnd_le ig (by omega)), u8_of (Ov.rnd_le ib (by omega)), u8_of (Ov.rnd_le ia hi0)]
        generalize Ov.rnd (sumP fR q i) (sumP fA q i) = k1 at *
        generalize Ov.rnd (sumP fG q i) (sumP fA q i) = k2 at *
        generalize Ov.rnd (sumP fB q i) (sumP fA q i) = k3 at *
        generalize Ov.rnd (sumP fA q i) i = k4 at *
        have HS1 : Hid (True) := trivial
        generalize sumP fR q i = tR at *
        generalize sumP fG q i = tG at *
        generalize sumP fB q i = tB at *
        clear HV HS HP ia ir ig ib HQ HF h0
        generalize sumP fA q i = tA at *
        go_wp2_with (first
          | (go_at_call_of 78 tR; refine (unhide HR1 _).mono ?_; rintro e w7 ⟨rfl, rfl⟩)
          | (go_at_call_of 78 tG; refine (unhide HR2 _).mono ?_; rintro e w7 ⟨rfl, rfl⟩)
          | (go_at_call_of 78 tB; refine (unhide HR3 _).mono ?_; rintro e w7 ⟨rfl, rfl⟩)
          | (go_at_call_of 78 i; refine (unhide HR4 _).mono ?_; rintro e w7 ⟨rfl, rfl⟩))
        refine bodyPost_ret (v := .agg #[.int .u8 (k1 : Int), .int .u8 (k2 : Int), .int .u8 (k3 : Int), .int .u8 (k4 : Int)]) ?_ rfl ⟨by rw [unhide HK], ?_⟩
        · rw [results_c (p := 2) (ty := 23) (by kernel_rfl)]
          go_simp
        · rw [← unhide HBE]
          exact ((((unhide HB).setCell (p := ⟨B, 0, none⟩) (Nat.le_refl _) _).setCell (p := ⟨B, 1, none⟩) (Nat.le_refl _) _).setCell (p := ⟨B, 2, none⟩) (Nat.le_refl _) _).setCell (p := ⟨B, 3, none⟩) (Nat.le_refl _) _
end Go.Proofs.YtjchafbihfblnahDoor
