/- Moving pictures: the program's reader: a frame. Written by gengr4.py. -/
import Derived.Test.YtjcoahahponabaaGreatDoorMh16
import Derived.Test.YtjcoahahponabaaGreatDoorMh9
import Derived.Test.YtjcoahahponabaaGreatDoorMh10
namespace Go.Proofs.YtjcoahahponabaaGreatDoor
open Go.RowKit Lz

/-- A frame as it is read. -/
structure Rf where
  d : Nat
  P : List Px
def clrU (cv cl : Nat) (U : List Px) : List Px := if cv = 9 ∧ cl < U.length then U.set cl pz else U
def frH (W H cv d cl : Nat) (U : List Px) (l : List UInt8) : Option (Rf × List UInt8) := (pixR (clrU cv cl U) (W * H) l).map fun x => (⟨d, x.1⟩, x.2)
def frG (W H cv d cl : Nat) (l : List UInt8) : Option (Rf × List UInt8) := match colsR l with
  | none => none
  | some x => frH W H cv d cl x.1 x.2
def picL (W H : Nat) : List UInt8 := [0, 44, 0, 0, 0, 0] ++ (pairL W ++ pairL H)
def frF (W H cv d cl : Nat) (l : List UInt8) : Option (Rf × List UInt8) := match pfx (picL W H) l with
  | none => none
  | some r => frG W H cv d cl r
def frD (W H cv d : Nat) : List UInt8 → Option (Rf × List UInt8)
  | [] => none
  | cl :: r => frF W H cv d cl.toNat r
def frC (W H cv : Nat) (l : List UInt8) : Option (Rf × List UInt8) := match pairR l with
  | none => none
  | some x => frD W H cv x.1 x.2
def frB (W H : Nat) : List UInt8 → Option (Rf × List UInt8)
  | [] => none
  | cv :: r => frC W H cv.toNat r
def frA (W H : Nat) (l : List UInt8) : Option (Rf × List UInt8) := match pfx [33, 249, 4] l with
  | none => none
  | some r => frB W H r

theorem pfx_le {t l r : List UInt8} (h : pfx t l = some r) : r.length ≤ l.length := by
  unfold pfx at h
  split at h
  · simp only [Option.some.injEq] at h
    rw [← h, List.length_drop]
    omega
  · simp at h
theorem pairR_le {l r : List UInt8} {n : Nat} (h : pairR l = some (n, r)) : r.length ≤ l.length := by
  match l, h with
  | a :: b :: t, h =>
    simp only [pairR, Option.some.injEq, Prod.mk.injEq] at h
    rw [← h.2]
    simp only [List.length_cons]
    omega
theorem colN_le : ∀ (k : Nat) (l r : List UInt8) (U : List Px), colN k l = some (U, r) → r.length ≤ l.length
  | 0, l, r, U, h => by
    simp only [colN, Option.some.injEq, Prod.mk.injEq] at h
    rw [h.2]
    omega
  | k + 1, l, r, U, h => by
    by_cases h3 : l.length < 3
    · rw [colN_short k l h3] at h; simp at h
    · obtain ⟨x, y, z, t, rfl⟩ := three_at l (by omega)
      rw [colN_step] at h
      cases hq : colN k t with
      | none => rw [hq] at h; simp at h
      | some q =>
        rw [hq] at h
        simp only [Option.map_some, Option.some.injEq, Prod.mk.injEq] at h
        have := colN_le k t r q.1 (by rw [hq, ← h.2])
        simp only [List.length_cons]
        omega
theorem colsR_le {l r : List UInt8} {U : List Px} (h : colsR l = some (U, r)) : r.length ≤ l.length := by
  match l, h with
  | z :: t, h =>
    have h : (if 128 ≤ z.toNat ∧ z.toNat ≤ 135 then colN (2 * 2 ^ (z.toNat - 128)) t else none) = some (U, r) := h
    split at h
    · have := colN_le _ _ _ _ h
      simp only [List.length_cons]
      omega
    · simp at h
theorem clrU_len (cv cl : Nat) (U : List Px) : (clrU cv cl U).length = U.length := by unfold clrU; split <;> simp
theorem set_updP (U : List Px) (cl : Nat) (h : cl < U.length) (i : Nat) : (U.set cl pz).getD i default = updP (fun i => U.getD i default) cl pz i := by
  unfold updP
  rw [List.getD_eq_getElem?_getD, List.getElem?_set]
  by_cases e : i = cl
  · subst e
    simp [h]
  · rw [if_neg (fun q => e q.symm), if_neg e]
    exact (List.getD_eq_getElem?_getD).symm

section
variable {R : Nat} {s : ByteArray} {tE tB : TypeId} {xE xB : Value}
set_option maxHeartbeats 8000000 in
set_option maxRecDepth 100000 in
theorem rframe_any (W H : Nat) (w : World) (h : GR w R s) (hG : GT w tE xE) (hB : w.cell? ⟨0, 0, none⟩ = some (.iface tB xB)) (hne : 1 ≠ R) (hne2 : 0 ≠ R) (hs : s.size ≤ 300000) (hW : 1 ≤ W ∧ W ≤ 256) (hH : 1 ≤ H ∧ H ≤ 256) :
    Calls Tryz.prog 104 #[.pointer (some ⟨R, 0, none⟩), .int .i64 (W : Int), .int .i64 (H : Int)] w fun e w' => ((∃ f a c s', frA W H (bl s) = some (f, bl s') ∧ f.P.length ≤ W * H ∧ f.d < 65536 ∧ s'.size ≤ s.size ∧ e = .returned (.agg #[.int .i64 (W : Int), .int .i64 (H : Int), .slice a f.P.length c, .int .i64 (f.d : Int)]) ∧ w'.ownsRow w.heap.size 78 4 (.slice a f.P.length c) f.P.length (pxL f.P) ∧ GR w' R s') ∨ (frA W H (bl s) = none ∧ e = .panicked (gthr tE xE))) ∧ But (· = R) w w' := by
  have HG := hide (fun wr (hb : But (· = R) w wr) => hG.but hb hne)
  have HGB := hide (fun wr (hb : But (· = R) w wr) => ((hb.cell (p := ⟨0, 0, none⟩) (World.block_lt_of_cell? _ _ hB) hne2).trans hB))
  have hRl := h.lt
  have hHA := hide (al1 w (.cells #[.int .i64 0, .int .i64 0, .slice none 0 0, .int .i64 0] 92))
  have HR0 : Hid (GR (w.alloc (.cells #[.int .i64 0, .int .i64 0, .slice none 0 0, .int .i64 0] 92)) R s) := blk_alloc h _
  have HPW := hide (fun w => gpair_any W w (by omega))
  have HPH := hide (fun w => gpair_any H w (by omega))
  have hMb : W * H ≤ 65536 := Nat.mul_le_mul hW.2 hH.2
  obtain ⟨M, hM⟩ : ∃ M, M = W * H := ⟨_, rfl⟩
  have zM : (W : Int) * (H : Int) = (M : Int) := by rw [hM]; simp
  obtain ⟨p1, hp1⟩ : ∃ p : ByteArray, p = ⟨(pairL W).toArray⟩ := ⟨_, rfl⟩
  obtain ⟨p2, hp2⟩ : ∃ p : ByteArray, p = ⟨(pairL H).toArray⟩ := ⟨_, rfl⟩
  have l1 : p1.size = 2 := by rw [hp1]; rfl
  have l2 : p2.size = 2 := by rw [hp2]; rfl
  rw [← hp1] at HPW
  rw [← hp2] at HPH
  have n1 : ¬ (9223372036854775807 < 6 + p1.size) := by omega
  obtain ⟨pc, hpc⟩ : ∃ p : ByteArray, p = (⟨#[0, 44, 0, 0, 0, 0]⟩ ++ p1) ++ p2 := ⟨_, rfl⟩
  have HPC : Hid (bl pc = picL W H) := by
    show pc.data.toList = _
    rw [hpc, hp1, hp2]
    simp only [ByteArray.data_append, Array.toList_append]
    simp [picL]
  have n2 : ¬ (9223372036854775807 < (⟨#[0, 44, 0, 0, 0, 0]⟩ ++ p1 : ByteArray).size + p2.size) := by rw [ByteArray.size_append]; show ¬ (_ < 6 + p1.size + _); omega
  have HFA : Hid (frA W H (bl s) = match pfx [33, 249, 4] (bl s) with | none => none | some r => frB W H r) := rfl
  have HMM := hide hM
  obtain ⟨B, hBB⟩ : ∃ B, B = w.heap.size := ⟨_, rfl⟩
  clear h hG hB hp1 hp2 hM
  go_enter Tryz.func104, Tryz.ntmps104
  go_wp2_with fail
  generalize w.alloc (.cells #[.int .i64 0, .int .i64 0, .slice none 0 0, .int .i64 0] 92) = w0 at *
  rw [← hBB] at hHA ⊢
  obtain ⟨hs0, k0, hb0⟩ := unhide hHA
  have HBE := hide hBB
  have K := hide k0
  have HB := hide ((But.refl (· = R) w).of_below hb0 (fun k h1 h2 => by omega))
  have HR := HR0
  have hRB : R < B := by omega
  have hz : B + 1 ≤ w0.heap.size := by omega
  clear hHA hb0 hs0 k0 hBB HR0
  have HC := hide (gpass_any ⟨#[33, 249, 4]⟩ w0 (unhide HR) (unhide HG _ (unhide HB)) hne)
  go_wp2_with fail
  refine (unhide HC).mono ?_
  rintro e w1 ⟨hq, hb⟩
  have HH := hide hq
  have HBx := hide ((unhide HB).trans hb)
  have Kx := hide ((hb.block B (by omega) (by omega)).trans (unhide K))
  have hzx : B + 1 ≤ w1.heap.size := by have := hb.size; omega
  clear hq hb HC HB K HR hz
  rcases unhide HH with ⟨s1, h1, rfl, hr⟩ | ⟨h1, rfl⟩
  rotate_left
  · have HE : Hid (frA W H (bl s) = none) := by show _ = _; rw [unhide HFA]; rw [show pfx [33, 249, 4] (bl s) = none from h1]
    clear HH h1
    go_wp2
    exact ⟨rfl, .inr ⟨unhide HE, rfl⟩, unhide HBx⟩
  have HFA : Hid (frA W H (bl s) = frB W H (bl s1)) := by show _ = _; rw [unhide HFA]; rw [show pfx [33, 249, 4] (bl s) = some (bl s1) from h1]
  have hle : s1.size ≤ s.size := by have := pfx_le h1; rw [bl_len, bl_len] at this; exact this
  have HR := hide hr
  have HB := HBx
  have K := Kx
  have hz := hzx
  clear h1 hr HH HBx Kx hzx
  have HC := hide (gbyte_any w1 (unhide HR) (unhide HG _ (unhide HB)))
  go_wp2_with fail
  refine (unhide HC).mono ?_
  rintro e w2 ⟨hq, hb⟩
  have HH := hide hq
  have HBx := hide ((unhide HB).trans hb)
  have Kx := hide ((hb.block B (by omega) (by omega)).trans (unhide K))
  have hzx : B + 1 ≤ w2.heap.size := by have := hb.size; omega
  clear hq hb HC HB K HR hz
  rcases unhide HH with ⟨cv, s2, h1, rfl, hr⟩ | ⟨h1, rfl⟩
  rotate_left
  · have HE : Hid (frA W H (bl s) = none) := by show _ = _; rw [unhide HFA]; rw [h1]; rfl
    clear HH h1
    go_wp2
    exact ⟨rfl, .inr ⟨unhide HE, rfl⟩, unhide HBx⟩
  have HFA : Hid (frA W H (bl s) = frC W H cv.toNat (bl s2)) := by show _ = _; rw [unhide HFA]; rw [h1]; rfl
  have hle : s2.size ≤ s.size := by have h2 := bl_len s1; rw [h1, List.length_cons, bl_len] at h2; omega
  have HR := hide hr
  have HB := HBx
  have K := Kx
  have hz := hzx
  clear h1 hr HH HBx Kx hzx
  have HC := hide (rpair_any w2 (unhide HR) (unhide HG _ (unhide HB)) hne)
  go_wp2_with fail
  refine (unhide HC).mono ?_
  rintro e w3 ⟨hq, hb⟩
  have HH := hide hq
  have HBx := hide ((unhide HB).trans hb)
  have Kx := hide ((hb.block B (by omega) (by omega)).trans (unhide K))
  have hzx : B + 1 ≤ w3.heap.size := by have := hb.size; omega
  clear hq hb HC HB K HR hz
  rcases unhide HH with ⟨d, s3, h1, hd, rfl, hr⟩ | ⟨h1, rfl⟩
  rotate_left
  · have HE : Hid (frA W H (bl s) = none) := by show _ = _; rw [unhide HFA]; unfold frC; rw [h1]
    clear HH h1
    go_wp2
    exact ⟨rfl, .inr ⟨unhide HE, rfl⟩, unhide HBx⟩
  have HFA : Hid (frA W H (bl s) = frD W H cv.toNat d (bl s3)) := by show _ = _; rw [unhide HFA]; unfold frC; rw [h1]
  have hle : s3.size ≤ s.size := by have h2 := pairR_le h1; rw [bl_len, bl_len] at h2; omega
  have HR := hide hr
  have HB := HBx
  have K := Kx
  have hz := hzx
  clear h1 hr HH HBx Kx hzx
  have HC := hide (gbyte_any w3 (unhide HR) (unhide HG _ (unhide HB)))
  go_wp2_with fail
  refine (unhide HC).mono ?_
  rintro e w4 ⟨hq, hb⟩
  have HH := hide hq
  have HBx := hide ((unhide HB).trans hb)
  have Kx := hide ((hb.block B (by omega) (by omega)).trans (unhide K))
  have hzx : B + 1 ≤ w4.heap.size := by have := hb.size; omega
  clear hq hb HC HB K HR hz
  rcases unhide HH with ⟨cl, s4, h1, rfl, hr⟩ | ⟨h1, rfl⟩
  rotate_left
  · have HE : Hid (frA W H (bl s) = none) := by show _ = _; rw [unhide HFA]; rw [h1]; rfl
    clear HH h1
    go_wp2
    exact ⟨rfl, .inr ⟨unhide HE, rfl⟩, unhide HBx⟩
  have HFA : Hid (frA W H (bl s) = frF W H cv.toNat d cl.toNat (bl s4)) := by show _ = _; rw [unhide HFA]; rw [h1]; rfl
  have hle : s4.size ≤ s.size := by have h2 := bl_len s3; rw [h1, List.length_cons, bl_len] at h2; omega
  have HR := hide hr
  have HB := HBx
  have K := Kx
  have hz := hzx
  clear h1 hr HH HBx Kx hzx
  go_wp2_with fail
  refine (unhide HPW _).mono ?_
  rintro e w5 ⟨rfl, hb⟩
  have HB2 := hide ((unhide HB).of_below hb (fun k h1 h2 => by have := (unhide HB).size; omega))
  have K2 := hide (blk_below (unhide K) hb (blk_lt (unhide K)))
  have HR2 := hide ((unhide HR).below hb (unhide HR).lt)
  have hz2 : B + 1 ≤ w5.heap.size := by have := hb.size; omega
  clear HB K HR hz hb
  have HB := HB2
  have K := K2
  have HR := HR2
  have hz := hz2
  clear HB2 K2 HR2 hz2
  go_wp2_with fail
  refine (unhide HPH _).mono ?_
  rintro e w6 ⟨rfl, hb⟩
  have HB2 := hide ((unhide HB).of_below hb (fun k h1 h2 => by have := (unhide HB).size; omega))
  have K2 := hide (blk_below (unhide K) hb (blk_lt (unhide K)))
  have HR2 := hide ((unhide HR).below hb (unhide HR).lt)
  have hz2 : B + 1 ≤ w6.heap.size := by have := hb.size; omega
  clear HB K HR hz hb
  have HB := HB2
  have K := K2
  have HR := HR2
  have hz := hz2
  clear HB2 K2 HR2 hz2
  have HCp := hide (gpass_any pc w6 (unhide HR) (unhide HG _ (unhide HB)) hne)
  rw [hpc] at HCp
  have HC := hide (unhide HCp)
  go_wp2_with fail
  refine (unhide HC).mono ?_
  rintro e w7 ⟨hq, hb⟩
  have HH := hide hq
  have HBx := hide ((unhide HB).trans hb)
  have Kx := hide ((hb.block B (by omega) (by omega)).trans (unhide K))
  have hzx : B + 1 ≤ w7.heap.size := by have := hb.size; omega
  clear hq hb HC HB K HR hz
  rcases unhide HH with ⟨s5, h1, rfl, hr⟩ | ⟨h1, rfl⟩
  rotate_left
  · have HE : Hid (frA W H (bl s) = none) := by show _ = _; rw [unhide HFA]; unfold frF; rw [← unhide HPC, hpc, h1]
    clear HH h1
    go_wp2
    exact ⟨rfl, .inr ⟨unhide HE, rfl⟩, unhide HBx⟩
  have HFA : Hid (frA W H (bl s) = frG W H cv.toNat d cl.toNat (bl s5)) := by show _ = _; rw [unhide HFA]; unfold frF; rw [← unhide HPC, hpc, h1]
  have hle : s5.size ≤ s.size := by have h2 := pfx_le h1; rw [bl_len, bl_len] at h2; omega
  have HR := hide hr
  have HB := HBx
  have K := Kx
  have hz := hzx
  clear h1 hr HH HBx Kx hzx
  clear HCp hpc HPC HPW HPH n1 n2
  have HC := hide (rcolors_any w7 (unhide HR) (unhide HG _ (unhide HB)) hne)
  go_wp2_with fail
  refine (unhide HC).mono ?_
  rintro e w8 ⟨hq, hb⟩
  have HH := hide hq
  have HBx := hide ((unhide HB).trans hb)
  have Kx := hide ((hb.block B (by omega) (by omega)).trans (unhide K))
  have hzx : B + 1 ≤ w8.heap.size := by have := hb.size; omega
  clear hq hb HC HB K HR
  rcases unhide HH with ⟨U, ua, uc, s6, h1, hU2, hU1, rfl, ho, hr⟩ | ⟨h1, rfl⟩
  rotate_left
  · have HE : Hid (frA W H (bl s) = none) := by show _ = _; rw [unhide HFA]; unfold frG; rw [h1]
    clear HH h1
    go_wp2
    exact ⟨rfl, .inr ⟨unhide HE, rfl⟩, unhide HBx⟩
  have HFA : Hid (frA W H (bl s) = frH W H cv.toNat d cl.toNat U (bl s6)) := by show _ = _; rw [unhide HFA]; unfold frG; rw [h1]
  have hle : s6.size ≤ s.size := by have h2 := colsR_le h1; rw [bl_len, bl_len] at h2; omega
  rw [pxL_vals] at ho
  obtain ⟨g, rfl, hgB, hpr⟩ := own_PR ho hU1
  have HR := hide hr
  have HB := HBx
  have K := Kx
  have HPR := hide hpr
  have hgz : B + 1 ≤ g := by omega
  clear h1 hr HH HBx Kx ho hpr hgB hz
  have hz := hzx
  clear hzx
  have hcv := cv.toNat_lt
  have hcl := cl.toNat_lt
  generalize cv.toNat = x at *
  generalize cl.toNat = y at *
  have hgR : g ≠ R := by omega
  have hgw := (unhide HPR).lt
  by_cases hcl9 : x = 9 ∧ y < U.length
  · obtain ⟨rfl, hyU⟩ := hcl9
    have g9 : (((9 : Nat) : Int) == 9) = true := rfl
    have gy : decide ((y : Int) < (U.length : Int)) = true := decide_eq_true (by omega)
    have gyn : decide (y < U.length) = true := decide_eq_true hyU
    have hyi : (y : Int) < (U.length : Int) := by omega
    obtain ⟨t0, t1, t2, t3⟩ := (unhide HPR).px y hyU
    have f0 := (unhide HPR).fr (y * 4)
    have f1 := (unhide HPR).fr (y * 4 + 1)
    have f2 := (unhide HPR).fr (y * 4 + 2)
    have f3 := (unhide HPR).fr (y * 4 + 3)
    have HBs := hide (unhide HBE)
    have HB9 : Hid (But (· = R) w (put4 w8 g (y * 4) pz)) := by have hq := unhide HBE; exact ((((unhide HB).setNew (p := ⟨g, y * 4, none⟩) (by show _ ≤ g; omega) _).setNew (p := ⟨g, y * 4 + 1, none⟩) (by show _ ≤ g; omega) _).setNew (p := ⟨g, y * 4 + 2, none⟩) (by show _ ≤ g; omega) _).setNew (p := ⟨g, y * 4 + 3, none⟩) (by show _ ≤ g; omega) _
    have K9 := hide ((put4_far w8 g (y * 4) B pz (by omega)).trans (unhide K))
    have HR9 : Hid (GR (put4 w8 g (y * 4) pz) R s6) := (put4_far w8 g (y * 4) R pz (by omega)).trans (unhide HR)
    have HU9 : Hid (IsPx (put4 w8 g (y * 4) pz) (some ⟨g, 0, none⟩) (clrU 9 y U).length (fun i => (clrU 9 y U).getD i default)) := by
      have hcu : clrU 9 y U = U.set y pz := by unfold clrU; rw [if_pos ⟨rfl, hyU⟩]
      show IsPx _ _ _ _
      rw [hcu, List.length_set]
      exact (((unhide HPR).put hyU pz).congr (fun i _ => (set_updP U y hyU i).symm)).isPx (by omega)
    have hzs : (put4 w8 g (y * 4) pz).heap.size = w8.heap.size := put4_size _ _ _ _
    have HCp := hide (rpixels_any (some ⟨g, 0, none⟩) uc (clrU 9 y U) M (put4 w8 g (y * 4) pz) (unhide HR9) (unhide HG _ (unhide HB9)) (unhide HGB _ (unhide HB9)) hne hne2 (by omega) (by omega) (unhide HU9))
    rw [clrU_len] at HCp
    have hz9 := hz
    clear HU9 HR9 HB K HR HPR HG HGB
    go_wp2_with fail
    refine (unhide HCp).mono ?_
    rintro e wz ⟨hq, hb⟩
    have HH := hide hq
    have HBz := hide ((unhide HB9).trans hb)
    have Kz := hide ((hb.block B (by have := blk_lt (unhide K9); omega) (by omega)).trans (unhide K9))
    clear hq hb HCp HB9 K9
    rcases unhide HH with ⟨P, pa, pc2, s7, h1, hP, hs7, rfl, ho, hr⟩ | ⟨h1, rfl⟩
    rotate_left
    · have HE : Hid (frA W H (bl s) = none) := by show _ = _; rw [unhide HFA]; unfold frH; rw [← unhide HMM, h1]; rfl
      clear HH h1
      go_wp2
      exact ⟨rfl, .inr ⟨unhide HE, rfl⟩, unhide HBz⟩
    have HE : Hid (frA W H (bl s) = some (⟨d, P⟩, bl s7)) := by show _ = _; rw [unhide HFA]; unfold frH; rw [← unhide HMM, h1]; rfl
    have HO := hide (own_rebase ho (show B ≤ (put4 w8 g (y * 4) pz).heap.size by omega))
    have HOx := hide (own_rebase ho (show B + 1 ≤ (put4 w8 g (y * 4) pz).heap.size by omega))
    have HR7 := hide hr
    have HPm := hide hP
    have hs7' : s7.size ≤ s.size := by omega
    have r0 := blk_frozen (unhide Kz) 0
    have r1 := blk_frozen (unhide Kz) 1
    have r2 := blk_frozen (unhide Kz) 2
    have r3 := blk_frozen (unhide Kz) 3
    have q0 : wz.cell? ⟨B, 0, none⟩ = some (.int .i64 0) := blk_cell (unhide Kz) 0
    have q1 : wz.cell? ⟨B, 1, none⟩ = some (.int .i64 0) := blk_cell (unhide Kz) 1
    have q2 : wz.cell? ⟨B, 2, none⟩ = some (.slice none 0 0) := blk_cell (unhide Kz) 2
    have q3 : wz.cell? ⟨B, 3, none⟩ = some (.int .i64 0) := blk_cell (unhide Kz) 3
    have hlB : B < wz.heap.size := blk_lt (unhide Kz)
    clear h1 ho hr HH HFA hP
    go_wp2
    refine bodyPost_ret (v := .agg #[.int .i64 (W : Int), .int .i64 (H : Int), .slice pa P.length pc2, .int .i64 (d : Int)]) ?_ rfl ⟨.inl ⟨⟨d, P⟩, pa, pc2, s7, unhide HE, by show P.length ≤ _; rw [← unhide HMM]; exact unhide HPm, hd, hs7', rfl, ?_, ?_⟩, ?_⟩
    · rw [results_cellP (p := 6) (ty := 92) (by kernel_rfl)]
      go_simp
    · rw [← unhide HBE]
      exact own_rebase (ownsRow_setCell_below (ownsRow_setCell_below (ownsRow_setCell_below (ownsRow_setCell_below (unhide HOx) (by show B < B + 1; omega) _) (by show B < B + 1; omega) _) (by show B < B + 1; omega) _) (by show B < B + 1; omega) _) (by omega)
    · unfold GR
      rw [Below.heap_setCell _ _ _ _ (by show R ≠ B; omega), Below.heap_setCell _ _ _ _ (by show R ≠ B; omega), Below.heap_setCell _ _ _ _ (by show R ≠ B; omega), Below.heap_setCell _ _ _ _ (by show R ≠ B; omega)]
      exact unhide HR7
    · have hBz := unhide HBE
      exact ((((unhide HBz).setNew (p := ⟨B, 0, none⟩) (by show _ ≤ B; omega) _).setNew (p := ⟨B, 1, none⟩) (by show _ ≤ B; omega) _).setNew (p := ⟨B, 2, none⟩) (by show _ ≤ B; omega) _).setNew (p := ⟨B, 3, none⟩) (by show _ ≤ B; omega) _
  · have hcu : clrU x y U = U := by unfold clrU; rw [if_neg hcl9]
    have HB9 := HB
    have K9 := K
    have hzs : w8.heap.size = w8.heap.size := rfl
    clear hzs
    have HU9 : Hid (IsPx w8 (some ⟨g, 0, none⟩) (clrU x y U).length (fun i => (clrU x y U).getD i default)) := by
      show IsPx _ _ _ _
      rw [hcu]
      exact (unhide HPR).isPx (by omega)
    have HCp := hide (rpixels_any (some ⟨g, 0, none⟩) uc (clrU x y U) M w8 (unhide HR) (unhide HG _ (unhide HB9)) (unhide HGB _ (unhide HB9)) hne hne2 (by omega) (by omega) (unhide HU9))
    rw [clrU_len] at HCp
    clear hcu HU9 HB K HR HPR HG HGB
    rcases (show ((x : Int) == 9) = false ∨ (((x : Int) == 9) = true ∧ decide ((y : Int) < (U.length : Int)) = false) by
      by_cases hx : x = 9
      · right
        exact ⟨by rw [beq_iff_eq]; omega, decide_eq_false (fun q => hcl9 ⟨hx, by omega⟩)⟩
      · left
        rw [beq_eq_false_iff_ne]
        omega) with g9 | ⟨g9, gy⟩
    · clear hcl9
      go_wp2_with fail
      refine (unhide HCp).mono ?_
      rintro e wz ⟨hq, hb⟩
      have HH := hide hq
      have HBz := hide ((unhide HB9).trans hb)
      have Kz := hide ((hb.block B (by have := blk_lt (unhide K9); omega) (by omega)).trans (unhide K9))
      clear hq hb HCp HB9 K9
      rcases unhide HH with ⟨P, pa, pc2, s7, h1, hP, hs7, rfl, ho, hr⟩ | ⟨h1, rfl⟩
      rotate_left
      · have HE : Hid (frA W H (bl s) = none) := by show _ = _; rw [unhide HFA]; unfold frH; rw [← unhide HMM, h1]; rfl
        clear HH h1
        go_wp2
        exact ⟨rfl, .inr ⟨unhide HE, rfl⟩, unhide HBz⟩
      have HE : Hid (frA W H (bl s) = some (⟨d, P⟩, bl s7)) := by show _ = _; rw [unhide HFA]; unfold frH; rw [← unhide HMM, h1]; rfl
      have HO := hide (own_rebase ho (show B ≤ w8.heap.size by omega))
      have HOx := hide (own_rebase ho (show B + 1 ≤ w8.heap.size by omega))
      have HR7 := hide hr
      have HPm := hide hP
      have hs7' : s7.size ≤ s.size := by omega
      have r0 := blk_frozen (unhide Kz) 0
      have r1 := blk_frozen (unhide Kz) 1
      have r2 := blk_frozen (unhide Kz) 2
      have r3 := blk_frozen (unhide Kz) 3
      have q0 : wz.cell? ⟨B, 0, none⟩ = some (.int .i64 0) := blk_cell (unhide Kz) 0
      have q1 : wz.cell? ⟨B, 1, none⟩ = some (.int .i64 0) := blk_cell (unhide Kz) 1
      have q2 : wz.cell? ⟨B, 2, none⟩ = some (.slice none 0 0) := blk_cell (unhide Kz) 2
      have q3 : wz.cell? ⟨B, 3, none⟩ = some (.int .i64 0) := blk_cell (unhide Kz) 3
      have hlB : B < wz.heap.size := blk_lt (unhide Kz)
      clear h1 ho hr HH HFA hP
      go_wp2
      refine bodyPost_ret (v := .agg #[.int .i64 (W : Int), .int .i64 (H : Int), .slice pa P.length pc2, .int .i64 (d : Int)]) ?_ rfl ⟨.inl ⟨⟨d, P⟩, pa, pc2, s7, unhide HE, by show P.length ≤ _; rw [← unhide HMM]; exact unhide HPm, hd, hs7', rfl, ?_, ?_⟩, ?_⟩
      · rw [results_cellP (p := 6) (ty := 92) (by kernel_rfl)]
        go_simp
      · rw [← unhide HBE]
        exact own_rebase (ownsRow_setCell_below (ownsRow_setCell_below (ownsRow_setCell_below (ownsRow_setCell_below (unhide HOx) (by show B < B + 1; omega) _) (by show B < B + 1; omega) _) (by show B < B + 1; omega) _) (by show B < B + 1; omega) _) (by omega)
      · unfold GR
        rw [Below.heap_setCell _ _ _ _ (by show R ≠ B; omega), Below.heap_setCell _ _ _ _ (by show R ≠ B; omega), Below.heap_setCell _ _ _ _ (by show R ≠ B; omega), Below.heap_setCell _ _ _ _ (by show R ≠ B; omega)]
        exact unhide HR7
      · have hBz := unhide HBE
        exact ((((unhide HBz).setNew (p := ⟨B, 0, none⟩) (by show _ ≤ B; omega) _).setNew (p := ⟨B, 1, none⟩) (by show _ ≤ B; omega) _).setNew (p := ⟨B, 2, none⟩) (by show _ ≤ B; omega) _).setNew (p := ⟨B, 3, none⟩) (by show _ ≤ B; omega) _
    · have gyn : decide (y < U.length) = false := decide_eq_false (by have := of_decide_eq_false gy; omega)
      clear hcl9
      go_wp2_with fail
      refine (unhide HCp).mono ?_
      rintro e wz ⟨hq, hb⟩
      have HH := hide hq
      have HBz := hide ((unhide HB9).trans hb)
      have Kz := hide ((hb.block B (by have := blk_lt (unhide K9); omega) (by omega)).trans (unhide K9))
      clear hq hb HCp HB9 K9
      rcases unhide HH with ⟨P, pa, pc2, s7, h1, hP, hs7, rfl, ho, hr⟩ | ⟨h1, rfl⟩
      rotate_left
      · have HE : Hid (frA W H (bl s) = none) := by show _ = _; rw [unhide HFA]; unfold frH; rw [← unhide HMM, h1]; rfl
        clear HH h1
        go_wp2
        exact ⟨rfl, .inr ⟨unhide HE, rfl⟩, unhide HBz⟩
      have HE : Hid (frA W H (bl s) = some (⟨d, P⟩, bl s7)) := by show _ = _; rw [unhide HFA]; unfold frH; rw [← unhide HMM, h1]; rfl
      have HO := hide (own_rebase ho (show B ≤ w8.heap.size by omega))
      have HOx := hide (own_rebase ho (show B + 1 ≤ w8.heap.size by omega))
      have HR7 := hide hr
      have HPm := hide hP
      have hs7' : s7.size ≤ s.size := by omega
      have r0 := blk_frozen (unhide Kz) 0
      have r1 := blk_frozen (unhide Kz) 1
      have r2 := blk_frozen (unhide Kz) 2
      have r3 := blk_frozen (unhide Kz) 3
      have q0 : wz.cell? ⟨B, 0, none⟩ = some (.int .i64 0) := blk_cell (unhide Kz) 0
      have q1 : wz.cell? ⟨B, 1, none⟩ = some (.int .i64 0) := blk_cell (unhide Kz) 1
      have q2 : wz.cell? ⟨B, 2, none⟩ = some (.slice none 0 0) := blk_cell (unhide Kz) 2
      have q3 : wz.cell? ⟨B, 3, none⟩ = some (.int .i64 0) := blk_cell (unhide Kz) 3
      have hlB : B < wz.heap.size := blk_lt (unhide Kz)
      clear h1 ho hr HH HFA hP
      go_wp2
      refine bodyPost_ret (v := .agg #[.int .i64 (W : Int), .int .i64 (H : Int), .slice pa P.length pc2, .int .i64 (d : Int)]) ?_ rfl ⟨.inl ⟨⟨d, P⟩, pa, pc2, s7, unhide HE, by show P.length ≤ _; rw [← unhide HMM]; exact unhide HPm, hd, hs7', rfl, ?_, ?_⟩, ?_⟩
      · rw [results_cellP (p := 6) (ty := 92) (by kernel_rfl)]
        go_simp
      · rw [← unhide HBE]
        exact own_rebase (ownsRow_setCell_below (ownsRow_setCell_below (ownsRow_setCell_below (ownsRow_setCell_below (unhide HOx) (by show B < B + 1; omega) _) (by show B < B + 1; omega) _) (by show B < B + 1; omega) _) (by show B < B + 1; omega) _) (by omega)
      · unfold GR
        rw [Below.heap_setCell _ _ _ _ (by show R ≠ B; omega), Below.heap_setCell _ _ _ _ (by show R ≠ B; omega), Below.heap_setCell _ _ _ _ (by show R ≠ B; omega), Below.heap_setCell _ _ _ _ (by show R ≠ B; omega)]
        exact unhide HR7
      · have hBz := unhide HBE
        exact ((((unhide HBz).setNew (p := ⟨B, 0, none⟩) (by show _ ≤ B; omega) _).setNew (p := ⟨B, 1, none⟩) (by show _ ≤ B; omega) _).setNew (p := ⟨B, 2, none⟩) (by show _ ≤ B; omega) _).setNew (p := ⟨B, 3, none⟩) (by show _ ≤ B; omega) _
end
end Go.Proofs.YtjcoahahponabaaGreatDoor
