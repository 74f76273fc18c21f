/- Moving pictures: told frames, one behind the other; the whole text. A map of the call's own whose keys are pixels. -/
import Derived.Test.YtjcoahahponabaaGreatDoorGp3
import Derived.Test.YtjcoahahponabaaGreatDoorMh12
import Derived.Test.YtjcoahahponabaaGreatDoorMh5
import Derived.Deep.AppendLies
import Derived.Test.YtjcoahahponabaaGreatDoorMh1
import Derived.Maps.Own
import Derived.Maps.OwnSet
import Derived.Maps.Views
import Derived.DeepKeys4
import Derived.MapKept
namespace Go.Proofs.YtjcoahahponabaaGreatDoor
open Go.RowKit Lz Ps

theorem SB.below {w w' : World} {B b : Nat} {l : List UInt8} (h : SB w B b l) (hb : Below w.heap.size w w') : SB w' B b l := by
  rcases h with ⟨h1, v, h2, h3, h4⟩ | ⟨h1, v, h2, h3, h4⟩
  · exact .inl ⟨h1, v, blk_below h2 hb (blk_lt h2), own_belowG h3 hb, h4⟩
  · exact .inr ⟨h1, v, blk_below h2 hb (blk_lt h2), own_belowG h3 hb, h4⟩

/-- A told frame, and where its rows lie. -/
structure TfV where
  T : Tf
  a1 : Option Addr
  c1 : Nat
  a2 : Option Addr
  c2 : Nat
instance : Inhabited TfV := ⟨⟨default, none, 0, none, 0⟩⟩
def TfV.cells (V : TfV) : List Value := [.int .i64 (V.T.W : Int), .int .i64 (V.T.H : Int), .int .i64 (V.T.d : Int), .slice V.a1 V.T.U.length V.c1, .slice V.a2 V.T.N.length V.c2]
structure TfV.in (V : TfV) (w : World) : Prop where
  ok : TfOk V.T
  px : IsPx w V.a1 V.T.U.length (fun i => V.T.U.getD i default)
  nm : IsNm w V.a2 V.T.N
theorem TfV.in.below {V : TfV} {w w' : World} (h : V.in w) (hb : Below w.heap.size w w') : V.in w' := ⟨h.ok, h.px.below hb, h.nm.below hb⟩

theorem frL_le (T : Tf) (h : TfOk T) : (frL T).length ≤ 6 * T.N.length + 1000 := by
  have h1 : (hdL T).length = 3 + (1 + (2 + (1 + (6 + (2 + (2 + 1)))))) := rfl
  have h2 := colT_len T.U (2 * 2 ^ szOf T.U.length)
  have h3 := Nat.pow_le_pow_right (n := 2) (by omega) (szOf_le h.K).1
  have h4 := blocksL_length (pakT T.U.length T.N).size (pakT T.U.length T.N).data.toList
  rw [size_list] at h4
  have h5 := packAll_len (wdN T.U.length) (by have := (szOf_le h.K).1; unfold wdN; omega) (numL T.N)
  have h6 : (numL T.N).length = T.N.length := by unfold numL; rw [List.length_map]
  have h7 : (pakT T.U.length T.N).size = (len (packAll (wdN T.U.length) (numL T.N)) + 7) / 8 := textP_size _
  unfold frL blkL
  simp only [List.length_append, List.length_cons, List.length_nil]
  omega
theorem frsL_le (l : List Tf) (m : Nat) (h : ∀ T, T ∈ l → TfOk T ∧ T.N.length = m) : (frsL l).length ≤ (6 * m + 1000) * l.length := by
  induction l with
  | nil => simp [frsL]
  | cons T l ih =>
    have h1 := frL_le T (h T (by simp)).1
    rw [(h T (by simp)).2] at h1
    have h2 := ih (fun S hS => h S (by simp [hS]))
    show (frL T ++ frsL l).length ≤ _
    rw [List.length_append, List.length_cons, Nat.mul_succ]
    omega
def tfsL (V : Nat → TfV) (n : Nat) : List Tf := (List.range n).map fun i => (V i).T
theorem tfsL_succ (V : Nat → TfV) (n : Nat) : tfsL V (n + 1) = tfsL V n ++ [(V n).T] := by unfold tfsL; rw [List.range_succ, List.map_append]; rfl
theorem tfsL_length (V : Nat → TfV) (n : Nat) : (tfsL V n).length = n := by unfold tfsL; rw [List.length_map, List.length_range]
theorem tfsL_mem {V : Nat → TfV} {n : Nat} {T : Tf} (h : T ∈ tfsL V n) : ∃ i, i < n ∧ T = (V i).T := by
  obtain ⟨i, hi, e⟩ := List.mem_map.1 h
  exact ⟨i, List.mem_range.1 hi, e.symm⟩

set_option maxHeartbeats 8000000 in
set_option maxRecDepth 100000 in
theorem written_any (s : Option Addr) (n c m loops : Nat) (V : Nat → TfV) (w : World) (hR : IsRw w 5 s n (fun i => (V i).cells)) (hV : ∀ i, i < n → (V i).in w) (hm : ∀ i, i < n → (V i).T.N.length = m) (h1 : 1 ≤ n) (h16 : n ≤ 16) (hmn : m * n ≤ 60000) (hl : loops ≤ 65535) :
    Calls Tryz.prog 60 #[.slice s n c, .int .i64 (loops : Int)] w fun e w' => e = .returned (.tuple #[.string ⟨(gifL (V 0).T.W (V 0).T.H (tfsL V n) loops).toArray⟩, .nilIface]) ∧ Below w.heap.size w w' := by
  have HTot : Hid (∀ i, i ≤ n → (frsL (tfsL V i)).length ≤ 400000) := fun i hi => by
    have h := frsL_le (tfsL V i) m (fun T hT => by obtain ⟨j, hj, rfl⟩ := tfsL_mem hT; exact ⟨(hV j (by omega)).ok, hm j (by omega)⟩)
    rw [tfsL_length, Nat.add_mul] at h
    have h2 := Nat.mul_le_mul_left (6 * m) hi
    simp only [Nat.mul_assoc] at h h2
    omega
  have HVl := hide (fun wr (hb : Below w.heap.size w wr) i (hi : i < n) => (hV i hi).below hb)
  have HRl := hide (fun wr (hb : Below w.heap.size w wr) => hR.below hb)
  have HA := hide (al1 w (.cells #[.pointer none, .slice none 0 0] 140))
  have HS := hide (sb_new w)
  have HLp := hide (fun w => gpair_any loops w (by omega))
  have hs0 : n ≠ 0 := by omega
  obtain ⟨b, off, rfl, hmx, _⟩ := hR.resolve_left hs0
  obtain ⟨B, hB⟩ : ∃ B, B = w.heap.size := ⟨_, rfl⟩
  have hi0 : (0 : Int) < (n : Int) := by omega
  clear hR hV hm
  go_enter Tryz.func60, Tryz.ntmps60
  go_upto_region 2 with fail
  generalize w.alloc (.cells #[.pointer none, .slice none 0 0] 140) = w1 at *
  rw [← hB] at HVl HRl HA HS ⊢
  obtain ⟨hs1, _, hb1⟩ := unhide HA
  have HB1 := hide hb1
  have HBE := hide hB
  clear HA hb1 hB
  have HB1' := hide (unhide HB1)
  obtain ⟨W0, hW0⟩ : ∃ q, q = (V 0).T.W := ⟨_, rfl⟩
  obtain ⟨H0, hH0⟩ : ∃ q, q = (V 0).T.H := ⟨_, rfl⟩
  obtain ⟨d0, hd0⟩ : ∃ q, q = (V 0).T.d := ⟨_, rfl⟩
  obtain ⟨_, _, e0, _, hc⟩ := (unhide HRl w1 (unhide HB1)).resolve_left hs0
  injection e0 with e0
  injection e0 with e0 e0'
  subst e0 e0'
  have hV0 := (unhide HVl w1 (unhide HB1) 0 (by omega)).ok
  have hv := hc 0 (by omega)
  have x0 : w1.cell? ⟨b, off, none⟩ = some (.int .i64 (W0 : Int)) := by rw [hW0]; exact hv 0 _ rfl
  have x1 : w1.cell? ⟨b, off + 1, none⟩ = some (.int .i64 (H0 : Int)) := by rw [hH0]; exact hv 1 _ rfl
  have x2 : w1.cell? ⟨b, off + 2, none⟩ = some (.int .i64 (d0 : Int)) := by rw [hd0]; exact hv 2 _ rfl
  have x3 : w1.cell? ⟨b, off + 3, none⟩ = some (.slice (V 0).a1 (V 0).T.U.length (V 0).c1) := hv 3 _ rfl
  have x4 : w1.cell? ⟨b, off + 4, none⟩ = some (.slice (V 0).a2 (V 0).T.N.length (V 0).c2) := hv 4 _ rfl
  have HSd := hide (fun w => sides_any W0 H0 d0 (V 0).a1 (V 0).a2 (V 0).T.U.length (V 0).c1 (V 0).T.N.length (V 0).c2 w (by rw [hW0]; exact hV0.W.2) (by rw [hH0]; exact hV0.H.2))
  have HG : Hid (∀ L, gifL (V 0).T.W (V 0).T.H L loops = gifL W0 H0 L loops) := fun L => by rw [hW0, hH0]
  obtain ⟨sd, hsd⟩ : ∃ q : ByteArray, q = ⟨(pairL W0 ++ pairL H0).toArray⟩ := ⟨_, rfl⟩
  have lsd : sd.size = 4 := by rw [hsd]; rfl
  rw [← hsd] at HSd
  obtain ⟨lp, hlp⟩ : ∃ q : ByteArray, q = ⟨(pairL loops).toArray⟩ := ⟨_, rfl⟩
  have llp : lp.size = 2 := by rw [hlp]; rfl
  rw [← hlp] at HLp
  obtain ⟨bg, hbg⟩ : ∃ q : ByteArray, q = (⟨#[71, 73, 70, 56, 57, 97]⟩ ++ sd) ++ ⟨#[112, 0, 0]⟩ := ⟨_, rfl⟩
  have lbg : bg.size = 13 := by rw [hbg, ByteArray.size_append, ByteArray.size_append, lsd]; rfl
  have HBG : Hid (bg.data.toList = beginL W0 H0) := by show _ = _; rw [hbg, hsd]; simp only [ByteArray.data_append, Array.toList_append]; simp [beginL]
  obtain ⟨lq, hlq⟩ : ∃ q : ByteArray, q = (⟨#[33, 255, 11, 78, 69, 84, 83, 67, 65, 80, 69, 50, 46, 48, 3, 1]⟩ ++ lp) ++ ⟨#[0]⟩ := ⟨_, rfl⟩
  have llq : lq.size = 19 := by rw [hlq, ByteArray.size_append, ByteArray.size_append, llp]; rfl
  have HLQ : Hid (lq.data.toList = loopL loops) := by show _ = _; rw [hlq, hlp]; simp only [ByteArray.data_append, Array.toList_append]; simp [loopL]
  have n1 : ¬ (9223372036854775807 < 6 + sd.size) := by omega
  have n2 : ¬ (9223372036854775807 < 16 + lp.size) := by omega
  have HWB := hide (fun wr (h : SB wr B B []) (hz : B ≤ wr.heap.size) => sb_text B B [] bg wr h (by simp) (by omega) hz)
  rw [hbg] at HWB
  clear hc hv hsd hlp hW0 hH0 hd0
  generalize (V 0).T.U.length = u0 at *
  generalize (V 0).T.N.length = n0 at *
  generalize (V 0).a1 = a01 at *
  generalize (V 0).a2 = a02 at *
  generalize (V 0).c1 = c01 at *
  generalize (V 0).c2 = c02 at *
  go_wp2_with fail
  refine (unhide HSd _).mono ?_
  rintro e w2 ⟨rfl, hb2⟩
  have hz2 := hb2.size
  have HB2 := hide ((unhide HB1).trans (hb2.mono (by omega)))
  have HS2 := hide ((unhide HS).below hb2)
  clear HS HSd HB1 HB1' x0 x1 x2 x3 x4 hb2
  have HX := hide (unhide HWB w2 (unhide HS2) (by omega))
  clear HWB
  go_wp2_with fail
  refine (unhide HX).mono ?_
  rintro e w3 ⟨rfl, hs3, hb3⟩
  have hz3 := hb3.size
  have HB3 := hide ((unhide HB2).trans hb3)
  rw [← hbg, List.nil_append, unhide HBG] at hs3
  have HS3 := hide hs3
  have hzB3 : B ≤ w3.heap.size := by omega
  have lbL : (beginL W0 H0).length = 13 := rfl
  have llL : (loopL loops).length = 19 := rfl
  clear HX HS2 HB2 hs3 hb3 hbg hz2 hz3 HBG
  obtain ⟨pre, hpre⟩ : ∃ q, q = beginL W0 H0 ++ (if 1 < n then loopL loops else []) := ⟨_, rfl⟩
  have HPre : Hid (∀ L : List Tf, L.length = n → gifL W0 H0 L loops = pre ++ (frsL L ++ [59])) := fun L h => by
    unfold gifL
    rw [h, hpre, List.append_assoc]
  have lpre : pre.length ≤ 32 := by rw [hpre]; split <;> simp [lbL, llL]
  by_cases hn2 : 1 < n
  · have g1 : decide ((n : Int) > 1) = true := decide_eq_true (by omega)
    have g1' : decide ((1 : Int) < (n : Int)) = true := g1
    have g1n : decide (1 < n) = true := decide_eq_true hn2
    have HW2 := hide (sb_text B B (beginL W0 H0) lq w3 (unhide HS3) (by omega) (by omega) hzB3)
    have HP : Hid (beginL W0 H0 ++ lq.data.toList = pre) := by show _ = _; rw [hpre, if_pos hn2, unhide HLQ]
    rw [hlq] at HW2
    go_wp2_with fail
    refine (unhide HLp _).mono ?_
    rintro e w4 ⟨rfl, hb4⟩
    have HX := hide (sb_text B B (beginL W0 H0) lq w4 ((unhide HS3).below hb4) (by omega) (by omega) (by have := hb4.size; omega))
    rw [hlq] at HX
    have HB4 := hide ((unhide HB3).trans (hb4.mono hzB3))
    have hz4 : B ≤ w4.heap.size := by have := hb4.size; omega
    clear HB3 HS3 hb4 HW2
    go_wp2_with fail
    refine (unhide HX).mono ?_
    rintro e wL ⟨rfl, hsL, hbL⟩
    have hzL : B ≤ wL.heap.size := by have := hbL.size; omega
    have HBL := hide ((unhide HB4).trans hbL)
    rw [← hlq, unhide HP] at hsL
    have HSL := hide hsL
    clear HX HB4 hsL hbL hz4 HP hzB3 HLp HLQ hpre lbL llL hlq llq lbg lsd llp n1 n2 hn2
    go_wp2
    go_loopw [28] (fun iv wr => ∃ i : Nat, i ≤ n ∧ iv = .int .i64 (i : Int) ∧ Hid (SB wr B B (pre ++ frsL (tfsL V i))) ∧ Hid (Below B w wr) ∧ B ≤ wr.heap.size) (fun iv _ => n - (intOf iv).toNat)
    case atStart => exact ⟨0, by omega, rfl, by show SB _ _ _ (pre ++ frsL []); rw [show frsL [] = [] from rfl, List.append_nil]; exact unhide HSL, HBL, hzL⟩
    case round =>
      clear HSL HBL hzL
      obtain ⟨i, hi, rfl, HSi, HBi, hzi⟩ := hrel
      have hT1 := unhide HTot i hi
      by_cases hlt : i < n
      · have d1 : decide ((i : Int) < (n : Int)) = true := decide_eq_true (by omega)
        have d1n : decide (i < n) = true := decide_eq_true hlt
        have hii : (i : Int) < (n : Int) := by omega
        obtain ⟨_, _, e0, _, hc⟩ := (unhide HRl wr (unhide HBi)).resolve_left hs0
        injection e0 with e0
        injection e0 with e0 e0'
        subst e0 e0'
        have hVi := unhide HVl wr (unhide HBi) i hlt
        have hT2 := frL_le (V i).T hVi.ok
        have hv := hc i hlt
        have HTx := hide (fun a b c d wr h1 h2 h3 => ftext_any (V i).T a b c d wr h1 h2 h3)
        have HIn := hide hVi
        have HTL : Hid (pre ++ frsL (tfsL V (i + 1)) = (pre ++ frsL (tfsL V i)) ++ frL (V i).T) := by show _ = _; rw [tfsL_succ, frsL_app, List.append_assoc]; simp [frsL]
        have hT3 := unhide HTot (i + 1) (by omega)
        rw [tfsL_succ, frsL_app, List.length_append] at hT3
        have hT4 : (frL (V i).T).length ≤ 400000 := by have e : frsL [(V i).T] = frL (V i).T := by simp [frsL]
                                                       rw [e] at hT3; omega
        clear hT2 hT3
        have x0 : wr.cell? ⟨b, off + i * 5, none⟩ = some (.int .i64 ((V i).T.W : Int)) := hv 0 _ rfl
        have x1 : wr.cell? ⟨b, off + i * 5 + 1, none⟩ = some (.int .i64 ((V i).T.H : Int)) := hv 1 _ rfl
        have x2 : wr.cell? ⟨b, off + i * 5 + 2, none⟩ = some (.int .i64 ((V i).T.d : Int)) := hv 2 _ rfl
        have x3 : wr.cell? ⟨b, off + i * 5 + 3, none⟩ = some (.slice (V i).a1 (V i).T.U.length (V i).c1) := hv 3 _ rfl
        have x4 : wr.cell? ⟨b, off + i * 5 + 4, none⟩ = some (.slice (V i).a2 (V i).T.N.length (V i).c2) := hv 4 _ rfl
        have HA := hide (al1 wr (.cells #[.int .i64 ((V i).T.W : Int), .int .i64 ((V i).T.H : Int), .int .i64 ((V i).T.d : Int), .slice (V i).a1 (V i).T.U.length (V i).c1, .slice (V i).a2 (V i).T.N.length (V i).c2] 98))
        obtain ⟨G, hG⟩ : ∃ G, G = frL (V i).T := ⟨_, rfl⟩
        obtain ⟨ft, hft⟩ : ∃ q : ByteArray, q = ⟨(frL (V i).T).toArray⟩ := ⟨_, rfl⟩
        have lft : ft.size ≤ 400000 := by rw [hft]; exact hT4
        have HFT : Hid (ft.data.toList = frL (V i).T) := by show _ = _; rw [hft]
        have HTx : Hid (∀ wr', Below wr.heap.size wr wr' → Calls Tryz.prog 94 #[.agg #[.int .i64 ((V i).T.W : Int), .int .i64 ((V i).T.H : Int), .int .i64 ((V i).T.d : Int), .slice (V i).a1 (V i).T.U.length (V i).c1, .slice (V i).a2 (V i).T.N.length (V i).c2]] wr' fun e w' => e = .returned (.tuple #[.string ft, .nilIface]) ∧ Below wr'.heap.size wr' w') := fun wr' hb => by
          rw [hft]
          exact unhide HTx _ _ _ _ wr' (unhide HIn).ok ((unhide HIn).px.below hb) ((unhide HIn).nm.below hb)
        clear hc hv hVi HIn hG hft hT4
        generalize ((V i).T.W : Int) = y0 at *
        generalize ((V i).T.H : Int) = y1 at *
        generalize ((V i).T.d : Int) = y2 at *
        generalize (V i).T.U.length = y3 at *
        generalize (V i).T.N.length = y4 at *
        generalize (V i).a1 = y5 at *
        generalize (V i).a2 = y6 at *
        generalize (V i).c1 = y7 at *
        generalize (V i).c2 = y8 at *
        go_upto_region 8 with fail
        generalize wr.alloc (.cells #[.int .i64 y0, .int .i64 y1, .int .i64 y2, .slice y5 y3 y7, .slice y6 y4 y8] 98) = w5 at *
        obtain ⟨hs5, k5, hb5⟩ := unhide HA
        have z0 : w5.cell? ⟨wr.heap.size, 0, none⟩ = some (.int .i64 y0) := blk_cell k5 0
        have z1 : w5.cell? ⟨wr.heap.size, 1, none⟩ = some (.int .i64 y1) := blk_cell k5 1
        have z2 : w5.cell? ⟨wr.heap.size, 2, none⟩ = some (.int .i64 y2) := blk_cell k5 2
        have z3 : w5.cell? ⟨wr.heap.size, 3, none⟩ = some (.slice y5 y3 y7) := blk_cell k5 3
        have z4 : w5.cell? ⟨wr.heap.size, 4, none⟩ = some (.slice y6 y4 y8) := blk_cell k5 4
        have HX := hide (unhide HTx w5 hb5)
        have HB5 := hide ((unhide HBi).trans (hb5.mono hzi))
        have HS5 := hide ((unhide HSi).below hb5)
        have hz5 : B ≤ w5.heap.size := by omega
        clear HA k5 hb5 HSi HBi x0 x1 x2 x3 x4 HTx hs5
        go_wp2_with fail
        refine (unhide HX).mono ?_
        rintro e w6 ⟨rfl, hb6⟩
        have hz6 : B ≤ w6.heap.size := by have := hb6.size; omega
        have HB6 := hide ((unhide HB5).trans (hb6.mono hz5))
        have HW := hide (sb_text B B _ ft w6 ((unhide HS5).below hb6) (by rw [List.length_append]; omega) (by omega) hz6)
        rw [unhide HFT, ← unhide HTL] at HW
        clear HX HB5 HS5 hb6 z0 z1 z2 z3 z4 hz5
        go_wp2_with fail
        refine (unhide HW).mono ?_
        rintro e w7 ⟨rfl, hs7, hb7⟩
        have HS7 := hide hs7
        have HB7 := hide ((unhide HB6).trans hb7)
        have hz7 : B ≤ w7.heap.size := by have := hb7.size; omega
        clear HW HB6 hs7 hb7 hz6 HTL HFT lft
        go_wp2
        go_roundw
        case rel => exact ⟨i + 1, by omega, by go_num, HS7, HB7, hz7⟩
        case measure => simp [intOf]; omega
      · obtain rfl : i = n := by omega
        have d1 : decide ((i : Int) < (i : Int)) = false := by simp
        have HW := hide (sb_text B B _ ⟨#[59]⟩ wr (unhide HSi) (by rw [List.length_append]; omega) (by show 1 ≤ _; omega) hzi)
        have HE : Hid (gifL (V 0).T.W (V 0).T.H (tfsL V i) loops = pre ++ (frsL (tfsL V i) ++ [59])) := by
          show _ = _
          rw [unhide HG, unhide HPre _ (tfsL_length V i)]
        clear HSi HVl HRl HTot
        go_wp2_with fail
        refine (unhide HW).mono ?_
        rintro e w7 ⟨rfl, hs7, hb7⟩
        have hz7 : B ≤ w7.heap.size := by have := hb7.size; omega
        have HX := hide (sb_string B B _ w7 hs7 hz7)
        have HB7 := hide ((unhide HBi).trans hb7)
        clear HW hs7 hb7 HBi
        go_wp2_with fail
        refine (unhide HX).mono ?_
        rintro e w8 ⟨rfl, hb8⟩
        have HB8 := hide ((unhide HB7).trans hb8)
        clear HX HB7 hb8
        go_wp2
        go_ret2
        exact ⟨by rw [unhide HE]; rfl, bel_atG (unhide HBE) (unhide HB8)⟩
  · have g1 : decide ((n : Int) > 1) = false := decide_eq_false (by omega)
    have g1' : decide ((1 : Int) < (n : Int)) = false := g1
    have g1n : decide (1 < n) = false := decide_eq_false hn2
    have HP : Hid (beginL W0 H0 = pre) := by show _ = _; rw [hpre, if_neg hn2, List.append_nil]
    obtain ⟨wL, hwL⟩ : ∃ q, q = w3 := ⟨_, rfl⟩
    rw [unhide HP, ← hwL] at HS3
    rw [← hwL] at hzB3 HB3 ⊢
    have HSL := HS3
    have HBL := HB3
    have hzL := hzB3
    clear HB3 HS3 hwL HP hzB3 HLp HLQ hpre lbL llL hlq llq lbg lsd llp n1 n2 hn2
    go_wp2
    go_loopw [28] (fun iv wr => ∃ i : Nat, i ≤ n ∧ iv = .int .i64 (i : Int) ∧ Hid (SB wr B B (pre ++ frsL (tfsL V i))) ∧ Hid (Below B w wr) ∧ B ≤ wr.heap.size) (fun iv _ => n - (intOf iv).toNat)
    case atStart => exact ⟨0, by omega, rfl, by show SB _ _ _ (pre ++ frsL []); rw [show frsL [] = [] from rfl, List.append_nil]; exact unhide HSL, HBL, hzL⟩
    case round =>
      clear HSL HBL hzL
      obtain ⟨i, hi, rfl, HSi, HBi, hzi⟩ := hrel
      have hT1 := unhide HTot i hi
      by_cases hlt : i < n
      · have d1 : decide ((i : Int) < (n : Int)) = true := decide_eq_true (by omega)
        have d1n : decide (i < n) = true := decide_eq_true hlt
        have hii : (i : Int) < (n : Int) := by omega
        obtain ⟨_, _, e0, _, hc⟩ := (unhide HRl wr (unhide HBi)).resolve_left hs0
        injection e0 with e0
        injection e0 with e0 e0'
        subst e0 e0'
        have hVi := unhide HVl wr (unhide HBi) i hlt
        have hT2 := frL_le (V i).T hVi.ok
        have hv := hc i hlt
        have HTx := hide (fun a b c d wr h1 h2 h3 => ftext_any (V i).T a b c d wr h1 h2 h3)
        have HIn := hide hVi
        have HTL : Hid (pre ++ frsL (tfsL V (i + 1)) = (pre ++ frsL (tfsL V i)) ++ frL (V i).T) := by show _ = _; rw [tfsL_succ, frsL_app, List.append_assoc]; simp [frsL]
        have hT3 := unhide HTot (i + 1) (by omega)
        rw [tfsL_succ, frsL_app, List.length_append] at hT3
        have hT4 : (frL (V i).T).length ≤ 400000 := by have e : frsL [(V i).T] = frL (V i).T := by simp [frsL]
                                                       rw [e] at hT3; omega
        clear hT2 hT3
        have x0 : wr.cell? ⟨b, off + i * 5, none⟩ = some (.int .i64 ((V i).T.W : Int)) := hv 0 _ rfl
        have x1 : wr.cell? ⟨b, off + i * 5 + 1, none⟩ = some (.int .i64 ((V i).T.H : Int)) := hv 1 _ rfl
        have x2 : wr.cell? ⟨b, off + i * 5 + 2, none⟩ = some (.int .i64 ((V i).T.d : Int)) := hv 2 _ rfl
        have x3 : wr.cell? ⟨b, off + i * 5 + 3, none⟩ = some (.slice (V i).a1 (V i).T.U.length (V i).c1) := hv 3 _ rfl
        have x4 : wr.cell? ⟨b, off + i * 5 + 4, none⟩ = some (.slice (V i).a2 (V i).T.N.length (V i).c2) := hv 4 _ rfl
        have HA := hide (al1 wr (.cells #[.int .i64 ((V i).T.W : Int), .int .i64 ((V i).T.H : Int), .int .i64 ((V i).T.d : Int), .slice (V i).a1 (V i).T.U.length (V i).c1, .slice (V i).a2 (V i).T.N.length (V i).c2] 98))
        obtain ⟨G, hG⟩ : ∃ G, G = frL (V i).T := ⟨_, rfl⟩
        obtain ⟨ft, hft⟩ : ∃ q : ByteArray, q = ⟨(frL (V i).T).toArray⟩ := ⟨_, rfl⟩
        have lft : ft.size ≤ 400000 := by rw [hft]; exact hT4
        have HFT : Hid (ft.data.toList = frL (V i).T) := by show _ = _; rw [hft]
        have HTx : Hid (∀ wr', Below wr.heap.size wr wr' → Calls Tryz.prog 94 #[.agg #[.int .i64 ((V i).T.W : Int), .int .i64 ((V i).T.H : Int), .int .i64 ((V i).T.d : Int), .slice (V i).a1 (V i).T.U.length (V i).c1, .slice (V i).a2 (V i).T.N.length (V i).c2]] wr' fun e w' => e = .returned (.tuple #[.string ft, .nilIface]) ∧ Below wr'.heap.size wr' w') := fun wr' hb => by
          rw [hft]
          exact unhide HTx _ _ _ _ wr' (unhide HIn).ok ((unhide HIn).px.below hb) ((unhide HIn).nm.below hb)
        clear hc hv hVi HIn hG hft hT4
        generalize ((V i).T.W : Int) = y0 at *
        generalize ((V i).T.H : Int) = y1 at *
        generalize ((V i).T.d : Int) = y2 at *
        generalize (V i).T.U.length = y3 at *
        generalize (V i).T.N.length = y4 at *
        generalize (V i).a1 = y5 at *
        generalize (V i).a2 = y6 at *
        generalize (V i).c1 = y7 at *
        generalize (V i).c2 = y8 at *
        go_upto_region 8 with fail
        generalize wr.alloc (.cells #[.int .i64 y0, .int .i64 y1, .int .i64 y2, .slice y5 y3 y7, .slice y6 y4 y8] 98) = w5 at *
        obtain ⟨hs5, k5, hb5⟩ := unhide HA
        have z0 : w5.cell? ⟨wr.heap.size, 0, none⟩ = some (.int .i64 y0) := blk_cell k5 0
        have z1 : w5.cell? ⟨wr.heap.size, 1, none⟩ = some (.int .i64 y1) := blk_cell k5 1
        have z2 : w5.cell? ⟨wr.heap.size, 2, none⟩ = some (.int .i64 y2) := blk_cell k5 2
        have z3 : w5.cell? ⟨wr.heap.size, 3, none⟩ = some (.slice y5 y3 y7) := blk_cell k5 3
        have z4 : w5.cell? ⟨wr.heap.size, 4, none⟩ = some (.slice y6 y4 y8) := blk_cell k5 4
        have HX := hide (unhide HTx w5 hb5)
        have HB5 := hide ((unhide HBi).trans (hb5.mono hzi))
        have HS5 := hide ((unhide HSi).below hb5)
        have hz5 : B ≤ w5.heap.size := by omega
        clear HA k5 hb5 HSi HBi x0 x1 x2 x3 x4 HTx hs5
        go_wp2_with fail
        refine (unhide HX).mono ?_
        rintro e w6 ⟨rfl, hb6⟩
        have hz6 : B ≤ w6.heap.size := by have := hb6.size; omega
        have HB6 := hide ((unhide HB5).trans (hb6.mono hz5))
        have HW := hide (sb_text B B _ ft w6 ((unhide HS5).below hb6) (by rw [List.length_append]; omega) (by omega) hz6)
        rw [unhide HFT, ← unhide HTL] at HW
        clear HX HB5 HS5 hb6 z0 z1 z2 z3 z4 hz5
        go_wp2_with fail
        refine (unhide HW).mono ?_
        rintro e w7 ⟨rfl, hs7, hb7⟩
        have HS7 := hide hs7
        have HB7 := hide ((unhide HB6).trans hb7)
        have hz7 : B ≤ w7.heap.size := by have := hb7.size; omega
        clear HW HB6 hs7 hb7 hz6 HTL HFT lft
        go_wp2
        go_roundw
        case rel => exact ⟨i + 1, by omega, by go_num, HS7, HB7, hz7⟩
        case measure => simp [intOf]; omega
      · obtain rfl : i = n := by omega
        have d1 : decide ((i : Int) < (i : Int)) = false := by simp
        have HW := hide (sb_text B B _ ⟨#[59]⟩ wr (unhide HSi) (by rw [List.length_append]; omega) (by show 1 ≤ _; omega) hzi)
        have HE : Hid (gifL (V 0).T.W (V 0).T.H (tfsL V i) loops = pre ++ (frsL (tfsL V i) ++ [59])) := by
          show _ = _
          rw [unhide HG, unhide HPre _ (tfsL_length V i)]
        clear HSi HVl HRl HTot
        go_wp2_with fail
        refine (unhide HW).mono ?_
        rintro e w7 ⟨rfl, hs7, hb7⟩
        have hz7 : B ≤ w7.heap.size := by have := hb7.size; omega
        have HX := hide (sb_string B B _ w7 hs7 hz7)
        have HB7 := hide ((unhide HBi).trans hb7)
        clear HW hs7 hb7 HBi
        go_wp2_with fail
        refine (unhide HX).mono ?_
        rintro e w8 ⟨rfl, hb8⟩
        have HB8 := hide ((unhide HB7).trans hb8)
        clear HX HB7 hb8
        go_wp2
        go_ret2
        exact ⟨by rw [unhide HE]; rfl, bel_atG (unhide HBE) (unhide HB8)⟩
end Go.Proofs.YtjcoahahponabaaGreatDoor
namespace Go.Proofs.YtjcoahahponabaaGreatDoor
open Go.RowKit Go.Maps

theorem laidOutPx : laidOutB Tryz.prog = true := by kernel_rfl
theorem keyedPx : Keyed Tryz.prog 78 := Keyed.of_law (deep_law_laid laidOutPx (m := 2) (by omega) (of_decide_eq_true (by kernel_rfl)) (by kernel_rfl) (by rw [Tryz.underlying78]))
theorem keyTPx : Tryz.prog.keyType 78 = true := by kernel_rfl
theorem cellsIPx : Tryz.prog.cellsOf 3 = 1 := by kernel_rfl
theorem wfPx (v : Nat) (hv : v ≤ 1000000) : (Lit.int .i64 (v : Int)).wf = true := by
  have h0 : IntKind.i64.min = -9223372036854775808 := by decide
  have h9 : IntKind.i64.max = 9223372036854775807 := by decide
  simp only [Lit.wf, h0, h9, Bool.and_eq_true, decide_eq_true_eq]
  omega
theorem wfU8 (v : UInt8) : (Lit.int .u8 (v.toNat : Int)).wf = true := by
  have h0 : IntKind.u8.min = 0 := by decide
  have h9 : IntKind.u8.max = 255 := by decide
  have := v.toNat_lt
  simp only [Lit.wf, h0, h9, Bool.and_eq_true, decide_eq_true_eq]
  omega
theorem keyPx (p : Px) : ∃ kl, keyOf Tryz.prog 78 p.val = some kl := by
  have hf : p.val.formed Tryz.prog 78 = true := by simp [Px.val, Value.formed, Tryz.underlying78, px_cells]
  unfold keyOf
  rw [Tryz.underlying78]
  simp only [keyTPx, hf, Bool.and_self, if_true]
  obtain ⟨m, hm⟩ : ∃ m, Tryz.prog.types.size = m + 1 := ⟨Tryz.prog.types.size - 1, by
    have : 0 < Tryz.prog.types.size := of_decide_eq_true (by kernel_rfl)
    omega⟩
  rw [hm]
  simp [Program.keyLits, Tryz.underlying78, Tryz.underlying5, Px.val, Value.cells, px_cells_u8, px_cells, wfU8]
theorem px_inj {p q : Px} (h : p.val = q.val) : p = q := by
  cases p; cases q
  simp only [Px.val, Value.agg.injEq, Array.mk.injEq, List.cons.injEq, Value.int.injEq, true_and, and_true] at h
  obtain ⟨h1, h2, h3, h4⟩ := h
  congr 1
  · exact UInt8.toNat_inj.1 (by omega)
  · exact UInt8.toNat_inj.1 (by omega)
  · exact UInt8.toNat_inj.1 (by omega)
  · exact UInt8.toNat_inj.1 (by omega)

/-- The map at block bm tells f. -/
def LQ (w : World) (bm nn : Nat) (f : Px → Option Nat) : Prop :=
  ∃ D : DataW Unit, w.ownsMap Tryz.prog 78 (plainElem Tryz.prog 3) bm nn D ∧ ∀ p kl, keyOf Tryz.prog 78 p.val = some kl → Maps.has D kl = (f p).isSome ∧ ∀ v, f p = some v → D.atKey kl (.lit (.int .i64 0)) = .lit (.int .i64 (v : Nat))

theorem LQ.made (w : World) : LQ (w.alloc (.map #[] 0)) w.heap.size 0 (fun _ => none) := ⟨.map [], World.ownsMap_made _ _ _ _, fun _ _ _ => ⟨rfl, fun v h => by cases h⟩⟩
theorem LQ.lt {w : World} {bm nn : Nat} {f : Px → Option Nat} (h : LQ w bm nn f) : bm < w.heap.size := by
  obtain ⟨D, h1, _⟩ := h
  exact h1.lt
theorem LQ.look {w : World} {bm nn : Nat} {f : Px → Option Nat} (h : LQ w bm nn f) (p : Px) :
    (Instr.lookup 209 (.map (some bm)) p.val true).run Tryz.prog w = .ok (.tuple #[.int .i64 ((f p).getD 0 : Nat), .bool (f p).isSome]) w := by
  obtain ⟨D, h1, h2⟩ := h
  obtain ⟨kl, hk⟩ := keyPx p
  obtain ⟨v, ps, hrun, hv⟩ := h1.look_ok keyedPx Tryz.underlying209 (Tryz.zeroValue3 w) (plainElem_int Tryz.underlying3 (by decide)) hk
  obtain ⟨c, rfl, hc, _⟩ := plainElem_int_inv Tryz.underlying3 hv
  obtain ⟨q1, q2⟩ := h2 p kl hk
  have e2 := congrArg Prod.fst hc
  simp only at e2
  rw [hrun, q1]
  cases hf : f p with
  | some v =>
    rw [q2 v hf] at e2
    simp only [DataW.lit.injEq, Lit.int.injEq, true_and] at e2
    rw [← e2]
    rfl
  | none =>
    rw [hf] at q1
    rw [atKey_of_not_has (by simpa using q1)] at e2
    simp only [DataW.lit.injEq, Lit.int.injEq, true_and] at e2
    rw [← e2]
    rfl
theorem LQ.same {w w' : World} {bm nn : Nat} {f : Px → Option Nat} (h : LQ w bm nn f) (hb : w'.heap[bm]? = w.heap[bm]?) : LQ w' bm nn f := by
  obtain ⟨D, ⟨es, clock, h1, F, hs, hD⟩, h2⟩ := h
  exact ⟨D, ⟨es, clock, hb.trans h1, F, hs, hD⟩, h2⟩
theorem LQ.congr {w : World} {bm nn : Nat} {f g : Px → Option Nat} (h : LQ w bm nn f) (hfg : ∀ x, f x = g x) : LQ w bm nn g := by
  have : f = g := funext fun x => hfg x
  rw [← this]; exact h
theorem LQ.put {w : World} {bm nn : Nat} {f : Px → Option Nat} (h : LQ w bm nn f) (p : Px) (v : Nat) (hv : v ≤ 1000000) (hn : nn ≤ 1000000) :
    ∃ w', (Instr.mapUpdate 209 (.map (some bm)) p.val (.int .i64 (v : Int))).run Tryz.prog w = .ok () w' ∧ LQ w' bm (nn + 1) (fun a => if a = p then some v else f a) ∧ w.grownBy w' (some bm) := by
  obtain ⟨D, h1, h2⟩ := h
  obtain ⟨kl, hk⟩ := keyPx p
  obtain ⟨w', hrun, hm, hg⟩ := h1.update keyedPx Tryz.underlying209 (by unfold maxLen; omega) hk (plainElem_int Tryz.underlying3 (wfPx v hv))
  refine ⟨w', hrun, ⟨_, hm, fun a kl' hk' => ?_⟩, hg⟩
  by_cases e : a = p
  · subst e
    obtain rfl := Option.some.inj (hk.symm.trans hk')
    refine ⟨?_, fun v' h' => ?_⟩
    · rw [has_put_same h1.isMap (keyedPx.key hk)]; simp
    · simp only [if_true, Option.some.injEq] at h'
      subst h'
      rw [atKey_put_same h1.isMap (keyedPx.key hk)]
  · have hne : kl' ≠ kl := fun q => e (by
      subst q
      exact px_inj (keyedPx.inj hk' hk))
    obtain ⟨q1, q2⟩ := h2 a kl' hk'
    simp only [if_neg e]
    exact ⟨by rw [has_put_other hne]; exact q1, fun v' h' => by rw [atKey_put_other hne]; exact q2 v' h'⟩
end Go.Proofs.YtjcoahahponabaaGreatDoor
