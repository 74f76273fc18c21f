/- Moving pictures: what is written is read, as a call; a moving picture of one pixel. A moving picture of one pixel. Frames that came in. Moving pictures: what covers nothing has no color: the document's Clean. -/
import Derived.Test.YtjcoahahponabaaDoorMg22
import Derived.Test.YtjcoahahponabaaDoorGr7
import Derived.Test.YtjcoahahponabaaDoorGs3
import Derived.Test.YtjcoahahponabaaDoorMg24
import Derived.Test.YtjcoahahponabaaDoorMg16
import Derived.Test.YtjcoahahponabaaDoorMg1
import Derived.SizedLaws
import Derived.Deep.SlicePairs
namespace Go.Proofs.YtjcoahahponabaaDoor
open Go.RowKit Lz

theorem tfOk_of {f g : Fr} (h : frE f g = 0) : TfOk f.tf := by
  obtain ⟨h1, _, _, h4, h5, _, h7⟩ := frE_zero h
  have hn := right_few h1
  refine ⟨?_, ?_, ?_, h7, ulk_one _ hn.2, by show (nmL _ _).length ≤ _; rw [nmL_length]; omega, nmL_lt _ _⟩
  · have := h1.1; show 1 ≤ f.W.toNat ∧ f.W.toNat ≤ 256; omega
  · have := h1.2.1; show 1 ≤ f.H.toNat ∧ f.H.toNat ≤ 256; omega
  · show f.d.toNat ≤ 65535; omega
theorem tfsF_length (V : Nat → FrV) (n : Nat) : (tfsF V n).length = n := by unfold tfsF; rw [List.length_map, List.length_range]
theorem frE_n {f g : Fr} (h : frE f g = 0) (h0 : frE g g = 0) : f.n = g.n := frE_same h h0
/-- How long the text is, at most. -/
theorem gif_le (V : Nat → FrV) (n lp : Nat) (he : ∀ j, j < n → frE (V j).f (V 0).f = 0) (h1 : 1 ≤ n) : (gifL (V 0).f.W.toNat (V 0).f.H.toNat (tfsF V n) lp).length ≤ (6 * (V 0).f.n + 1000) * n + 100 := by
  have h := frsL_le (tfsF V n) (V 0).f.n (fun T hT => by
    obtain ⟨j, hj, rfl⟩ := List.mem_map.1 hT
    have hj := List.mem_range.1 hj
    refine ⟨tfOk_of (he j hj), ?_⟩
    show (nmL _ _).length = _
    rw [nmL_length]
    exact frE_same (he j hj) (he 0 (by omega)))
  rw [tfsF_length] at h
  have hb : (beginL (V 0).f.W.toNat (V 0).f.H.toNat).length = 13 := rfl
  have hl : (if 1 < (tfsF V n).length then loopL lp else []).length ≤ 19 := by split <;> simp [loopL, pairL]
  unfold gifL
  simp only [List.length_append, hb, List.length_cons, List.length_nil]
  omega
/-- And at least. -/
theorem gif_ge (V : Nat → FrV) (lp : Nat) : 30 ≤ (gifL (V 0).f.W.toNat (V 0).f.H.toNat (tfsF V 1) lp).length := by
  have hb : (beginL (V 0).f.W.toNat (V 0).f.H.toNat).length = 13 := rfl
  have hh : (hdL (V 0).f.tf).length = 18 := rfl
  have e : tfsF V 1 = [(V 0).f.tf] := rfl
  rw [e]
  unfold gifL
  simp only [List.length_append, hb, List.length_cons, List.length_nil]
  have : (frsL [(V 0).f.tf]).length ≥ 18 := by
    show (frL _ ++ []).length ≥ 18
    unfold frL
    simp only [List.length_append, hh]
    omega
  omega

/-- A frame as it is read again: what covers nothing has no color. -/
def BackF (f g : Fr) : Prop := f.W = g.W ∧ f.H = g.H ∧ f.n = g.n ∧ f.d = g.d ∧ ∀ k, k < f.n → f.q k = clQ g.q k

/-- What is written is read. -/
theorem gback_any (V : Nat → FrV) (n lp : Nat) (w : World) (aS : Nat → Addr) (hS : Told w [1, 2, 6] aS) {tE : TypeId} {xE : Value} (hG : GT w tE xE) (hn : 4 ≤ w.heap.size) (hl : lp < 65536) (hf : fewP n (V 0).f) (he : ∀ j, j < n → frE (V j).f (V 0).f = 0) (hm : (V 0).f.n * n ≤ 24000) :
    Calls Tryd.prog 8 #[.string ⟨(gifL (V 0).f.W.toNat (V 0).f.H.toNat (tfsF V n) lp).toArray⟩] w fun e w' => ∃ (ta : Option Addr) (tc : Nat) (U : Nat → FrV), e = .returned (.tuple #[.slice ta n tc, .int .i64 ((if 1 < n then lp else 0 : Nat) : Int), .nilIface]) ∧ IsRw w' 4 ta n (fun j => (U j).cells) ∧ (∀ j, j < n → (U j).in w' ∧ BackF (U j).f (V j).f) ∧ Below w.heap.size w w' := by
  have hn1 := hf.1
  have hle := gif_le V n lp he hn1.1
  have hm1 : (V 0).f.n ≤ 24000 := Nat.le_trans (Nat.le_mul_of_pos_right _ (by omega)) hm
  rw [Nat.add_mul, Nat.mul_assoc] at hle
  obtain ⟨F, hA, eW, eH, eL, eO, eF, hOk⟩ := told_back V n lp hl hf he hm1
  obtain ⟨r1, _⟩ := frE_zero (he 0 (by omega))
  generalize hs : gifL (V 0).f.W.toNat (V 0).f.H.toNat (tfsF V n) lp = s at *
  have hb : bl ⟨s.toArray⟩ = s := by simp [bl]
  refine (gread_any ⟨s.toArray⟩ w aS hS hG (by show s.toArray.size ≤ _; rw [List.size_toArray]; omega) hn).mono ?_
  rintro e w' ⟨hr, hbw⟩
  rw [hb] at hr
  rcases hr with ⟨F', ta, tc, U, hA', _, _, rfl, hR, hU⟩ | ⟨hN, _⟩
  · rw [hA] at hA'
    injection hA' with hA'
    subst hA'
    rw [eL] at hR hU
    refine ⟨ta, tc, U, by rw [eL, eO], hR, fun j hj => ?_, hbw⟩
    obtain ⟨⟨f, a, c, q1, q2, _, _⟩, hin⟩ := hU j hj
    rw [eF j hj] at q1
    injection q1 with q1
    subst q1
    obtain ⟨g1, g2, g3, g4, _⟩ := frE_zero (he j hj)
    have hWn : (((V 0).f.W.toNat : Nat) : Int) = (V 0).f.W := Int.toNat_of_nonneg (by have := r1.1; omega)
    have hHn : (((V 0).f.H.toNat : Nat) : Int) = (V 0).f.H := Int.toNat_of_nonneg (by have := r1.2.1; omega)
    have hdn : (((V j).f.d.toNat : Nat) : Int) = (V j).f.d := Int.toNat_of_nonneg g4
    have hUf : (U j).f = clF (V 0).f.W.toNat (V 0).f.H.toNat (V j).f := by rw [q2, eW, eH]; rfl
    refine ⟨hin, ?_⟩
    rw [hUf]
    refine ⟨?_, ?_, clF_n _ _ _, hdn, fun k hk => clF_q _ _ _ (by rw [clF_n] at hk; exact hk)⟩
    · rw [g2]; exact hWn
    · rw [g3]; exact hHn
  · exfalso
    refine hN F (fun j => rfV F.W F.H (F.L.getD j ⟨0, []⟩) none 0) hA (fun j hj => ⟨F.L.getD j ⟨0, []⟩, none, 0, ?_, rfl⟩) (hOk _ (fun j hj => ⟨F.L.getD j ⟨0, []⟩, none, 0, ?_, rfl⟩))
    · rw [List.getD_eq_getElem?_getD, List.getElem?_eq_getElem hj]; rfl
    · rw [List.getD_eq_getElem?_getD, List.getElem?_eq_getElem hj]; rfl
end Go.Proofs.YtjcoahahponabaaDoor
namespace Go.Proofs.YtjcoahahponabaaDoor
open Go.RowKit Lz

def redP : Px := ⟨255, 0, 0, 255⟩
def redV (g c : Nat) : Nat → FrV := fun _ => ⟨⟨1, 1, 1, fun _ => redP, 3⟩, some ⟨g, 0, none⟩, c⟩
theorem red_ok (g c : Nat) : frE (redV g c 0).f (redV g c 0).f = 0 := by
  refine frE_of ⟨by show (1 : Int) ≤ 1 ∧ (1 : Int) ≤ 256; omega, by show (1 : Int) ≤ 1 ∧ (1 : Int) ≤ 256; omega, rfl⟩ rfl rfl (by show (0 : Int) ≤ 3 ∧ (3 : Int) ≤ 65535; omega) (fun k hk => .inr rfl) ?_
  have := ulk_len (clQ (redV g c 0).f.q) 1
  exact Nat.le_trans this (by omega)
theorem red_few (g c : Nat) : fewP 1 (redV g c 0).f := ⟨by omega, .inr (show 1 * 1 ≤ 60000 by omega)⟩

set_option maxHeartbeats 8000000 in
set_option maxRecDepth 100000 in
theorem blink_any (w : World) (aS : Nat → Addr) (hS : Told w [1, 2, 6] aS) {tE : TypeId} {xE : Value} (hG : GT w tE xE) (hn : 4 ≤ w.heap.size) :
    Calls Tryd.prog 4 #[] w fun e w' => e = .returned (.bool true) ∧ Below w.heap.size w w' := by
  have HBl : Hid (Calls Tryd.prog 11 #[.int .i64 1, .int .i64 1, .agg #[.int .u8 255, .int .u8 0, .int .u8 0, .int .u8 255]] w fun e w' => ∃ g c, e = .returned (.agg #[.int .i64 1, .int .i64 1, .slice (some ⟨g, 0, none⟩) 1 c]) ∧ w.heap.size ≤ g ∧ PR w' g 1 (fun _ => redP) ∧ Below w.heap.size w w') := blankP_any 1 1 redP w (by omega) (by omega)
  have HSW := hide (fun wr (hb : Below w.heap.size w wr) => hS.below hb)
  have HGW := hide (fun wr (hb : Below w.heap.size w wr) => ((hb.cell (p := ⟨0, 0, none⟩) (World.block_lt_of_cell? _ _ hG)).trans hG : GT wr tE xE))
  clear hS hG
  go_enter Tryd.func4, Tryd.ntmps4
  go_wp2_with fail
  refine (unhide HBl).mono ?_
  rintro e w1 ⟨g, c, rfl, hg, hp, hb1⟩
  have HP := hide (hp.isPx (by omega))
  have HB1 := hide hb1
  have hz1 := hb1.size
  have HA := hide (al1 w1 (.cells #[.int .i64 1, .int .i64 1, .slice (some ⟨g, 0, none⟩) 1 c, .int .i64 3] 37))
  clear HBl hp hb1
  go_wp2_with fail
  generalize w1.alloc (.cells #[.int .i64 1, .int .i64 1, .slice (some ⟨g, 0, none⟩) 1 c, .int .i64 3] 37) = w2 at *
  obtain ⟨hs2, k2, hb2⟩ := unhide HA
  have HB2 := hide ((unhide HB1).trans (hb2.mono hz1))
  have hz2 : w.heap.size ≤ w2.heap.size := by omega
  have HR := hide (show IsRw w2 4 (some ⟨w1.heap.size, 0, none⟩) 1 (fun i => (redV g c i).cells) from .inr ⟨w1.heap.size, 0, rfl, by unfold maxLen; omega, fun i hi j u hu => by
    obtain rfl : i = 0 := by omega
    rw [show 0 + 0 * 4 + j = j by omega]
    have hu : [Value.int .i64 1, .int .i64 1, .slice (some ⟨g, 0, none⟩) 1 c, .int .i64 3][j]? = some u := hu
    exact (blk_cell k2 j).trans (by simpa using hu)⟩)
  have HV := hide (show ∀ i, i < 1 → (redV g c i).in w2 from fun i hi => (unhide HP).below hb2)
  have HW := hide (gwrite_any (some ⟨w1.heap.size, 0, none⟩) 1 1 0 (redV g c) w2 aS (unhide HSW _ (unhide HB2)) (unhide HR) (unhide HV))
  clear HA hs2 k2 hb2 HB1 hz1 HP
  generalize w1.heap.size = q1 at *
  refine (unhide HW).mono ?_
  rintro e w3 ⟨hr, hb3⟩
  have hgood : e = .returned (.tuple #[.string ⟨(gifL (redV g c 0).f.W.toNat (redV g c 0).f.H.toNat (tfsF (redV g c) 1) 0).toArray⟩, .nilIface]) := by
    rcases hr with ⟨q, _⟩ | ⟨_, i, hi, _, q, _⟩ | ⟨_, _, q⟩
    · exact absurd ⟨red_few g c, by omega, by omega⟩ q
    · obtain rfl : i = 0 := by omega
      exact absurd (red_ok g c) q
    · exact q
  subst hgood
  have HB3 := hide ((unhide HB2).trans (hb3.mono hz2))
  have hz3 : w.heap.size ≤ w3.heap.size := by have := hb3.size; omega
  have HR3 := hide ((unhide HR).below hb3)
  have HV3 := hide (fun i hi => (unhide HV i hi).below hb3)
  have HRd := hide (gback_any (redV g c) 1 0 w3 aS (unhide HSW _ (unhide HB3)) (unhide HGW _ (unhide HB3)) (by omega) (by omega) (red_few g c) (fun j hj => red_ok g c) (show 1 * 1 ≤ 24000 by omega))
  have hge := gif_ge (redV g c) 0
  generalize gifL (redV g c 0).f.W.toNat (redV g c 0).f.H.toNat (tfsF (redV g c) 1) 0 = s at *
  have hsz : (⟨s.toArray⟩ : ByteArray).size = s.length := by show s.toArray.size = _; simp
  obtain ⟨t, ht⟩ : ∃ t : ByteArray, t = ⟨s.toArray⟩ := ⟨_, rfl⟩
  rw [← ht] at HRd hsz ⊢
  have d1 : decide ((t.size : Int) < 30) = false := decide_eq_false (by omega)
  have d1n : decide (t.size < 30) = false := decide_eq_false (by omega)
  have e0 : (((if 1 < 1 then 0 else 0 : Nat) : Nat) : Int) = 0 := rfl
  rw [e0] at HRd
  clear HW hr hb3 HR HV HB2 ht hge hsz e0
  go_wp2_with fail
  refine (unhide HRd).mono ?_
  rintro e w4 ⟨ta, tc, U, rfl, hR4, hU4, hb4⟩
  have HB4 := hide ((unhide HB3).trans (hb4.mono hz3))
  have hz4 : w.heap.size ≤ w4.heap.size := by have := hb4.size; omega
  have HRl := hide ((unhide HR3).below hb4)
  have HVl := hide (fun i hi => (unhide HV3 i hi).below hb4)
  have HBk := hide (backFrames_any ta 1 tc U w4 hR4 (by omega))
  have HU4 := hide hU4
  clear HRd hR4 hU4 hb4 HB3 hz3 HR3 HV3 d1 d1n
  go_wp2_with fail
  refine (unhide HBk).mono ?_
  rintro e w5 ⟨ta5, tc5, rfl, hown5, hb5⟩
  have HR5 := hide (own_rw hown5 (fun j => rfl) (by unfold maxLen; omega))
  have HB5 := hide ((unhide HB4).trans (hb5.mono hz4))
  have hz5 : w.heap.size ≤ w5.heap.size := by have := hb5.size; omega
  have HU5 := hide (fun j hj => (⟨(unhide HU4 j hj).1.below hb5, (unhide HU4 j hj).2⟩ : (U j).in w5 ∧ BackF (U j).f (redV g c j).f))
  have HVl5 := hide (fun i hi => (unhide HVl i hi).below hb5)
  have HBk := hide (backFrames_any (some ⟨q1, 0, none⟩) 1 1 (redV g c) w5 ((unhide HRl).below hb5) (by omega))
  clear hown5 hb5 HU4 HVl HRl HB4 hz4
  go_wp2_with fail
  refine (unhide HBk).mono ?_
  rintro e w6 ⟨ta6, tc6, rfl, hown6, hb6⟩
  have HR6 := hide (own_rw hown6 (fun j => rfl) (by unfold maxLen; omega))
  have HB6 := hide ((unhide HB5).trans (hb6.mono hz5))
  have hz6 : w.heap.size ≤ w6.heap.size := by have := hb6.size; omega
  have hU6 : ∀ j, j < 1 → (U j).in w6 := fun j hj => (unhide HU5 j hj).1.below hb6
  have hV6 : ∀ j, j < 1 → (redV g c j).in w6 := fun j hj => (unhide HVl5 j hj).below hb6
  have HSF := hide (sameFrames_any ta5 ta6 1 tc5 tc6 U (redV g c) w6 ((unhide HR5).below hb6) (unhide HR6) hU6 hV6 (fun j hj => by
    obtain ⟨a1, a2, a3, a4, a5⟩ := (unhide HU5 j hj).2
    exact ⟨a1, a2, a3, a4, fun k hk => (a5 k hk).trans rfl⟩) (by omega) (fun j hj => by
    rw [(unhide HU5 j hj).2.2.2.1]
    show 1 ≤ 100000
    omega))
  clear hown6 hb6 HU5 HVl5 HR5 HR6 HBk HB5 hz5 hU6 hV6
  go_wp2_with fail
  refine (unhide HSF).mono ?_
  rintro e w7 ⟨rfl, hb7⟩
  have HB7 := hide ((unhide HB6).trans (hb7.mono hz6))
  clear HSF hb7 HB6 hz6
  go_wp2
  go_ret
  exact ⟨rfl, unhide HB7⟩
end Go.Proofs.YtjcoahahponabaaDoor
namespace Go.Proofs.YtjcoahahponabaaDoor
open Go.ChangeShapes Go.WideShapes Go.RowKit Go.Deep

theorem all_memF {H : Type} {P : Program} {e : TypeId} : ∀ {l : List (DataW H)} {d : DataW H}, d ∈ l → ∀ n ∈ d.weights P e, n ∈ DataW.weightsAll P e l
  | x :: l, d, h, n, hn => by
    simp only [DataW.weightsAll, List.mem_append]
    rcases List.mem_cons.1 h with rfl | h
    · exact .inl hn
    · exact .inr (all_memF h n hn)
theorem reach47F : reachBytes ≤ 140737488355328 := Nat.le_of_lt reachBytes_lt

/-- Pixels that came in are not too many. -/
theorem open_px_fewF {H : Type} {enc : TypeId × Value → H} {w : World} {base : Nat} {spare : Nat → Bool} {held : Bool} {fuel : Nat} {a : Option Addr} {len cap : Nat} {x : DataW H × List MemPlace}
    (h : DataW.trod enc Tryd.prog w base spare held fuel 33 [.slice a len cap] = some x) (hwt : ∀ n ∈ x.1.weights Tryd.prog 33, n ≤ reachBytes) : len ≤ 140737488355328 := by
  rcases open_slice Tryd.underlying33 h with ⟨hcs, _⟩ | ⟨ad, l, c, m, n, D, Pl, hcs, _, hl, hm, hmm, hx, _⟩
  · simp at hcs; omega
  · simp at hcs
    obtain ⟨_, rfl, rfl⟩ := hcs
    have hb : Tryd.prog.bytesOf 44 = 4 := by kernel_rfl
    have h1 := hwt (len * 4 + (m - len) * 4) (by
      rw [hx]
      simp only [DataW.weights, Tryd.underlying33, List.mem_cons, hb, List.length_map, List.length_range]
      exact .inl (by omega))
    have := reach47F
    omega

theorem four_list {α : Type} (l : List α) (h : l.length = 4) : ∃ a b c d, l = [a, b, c, d] :=
  match l, h with
  | [a, b, c, d], _ => ⟨a, b, c, d, rfl⟩
theorem rf_cells : Tryd.prog.cellsOf 38 = 4 := by kernel_rfl
theorem cells_iF : Tryd.prog.cellsOf 3 = 1 := by kernel_rfl
theorem cells_pF : Tryd.prog.cellsOf 35 = 3 := by kernel_rfl
theorem cells_psF : Tryd.prog.cellsOf 33 = 1 := by kernel_rfl

set_option maxRecDepth 100000 in
set_option maxHeartbeats 2000000 in
/-- A frame that came in. -/
theorem open_frame {H : Type} {enc : TypeId × Value → H} {w : World} {base : Nat} {spare : Nat → Bool} {held : Bool} {fuel : Nat} {cs : List Value} {x : DataW H × List MemPlace}
    (h : DataW.trod enc Tryd.prog w base spare held fuel 38 cs = some x) :
    ∃ V : FrV, cs = V.cells ∧ V.in w ∧ ((∀ n ∈ x.1.weights Tryd.prog 38, n ≤ reachBytes) → V.f.n ≤ 140737488355328) := by
  obtain ⟨xs, n, _, rfl, hl, hlen, hf⟩ := DataW.trod_struct Tryd.underlying38 h
  rw [rf_cells] at hl
  obtain ⟨v0, v1, v2, v3, rfl⟩ := four_list cs hl
  match xs, hlen with
  | [y0, y1], _ =>
    have g0 := hf 0 _ rfl
    have g1 := hf 1 _ rfl
    simp [cells_iF, cells_pF] at g0 g1
    obtain ⟨z0, z1, z2, k, hz, _, j0, j1, j2⟩ := trod_struct3 Tryd.underlying35 g0
    simp [cells_iF, cells_psF] at j0 j1 j2
    obtain ⟨n0, e0, _, _⟩ := DataW.trod_int Tryd.underlying3 j0
    obtain ⟨n1, e1, _, _⟩ := DataW.trod_int Tryd.underlying3 j1
    obtain ⟨n3, e3, _, _⟩ := DataW.trod_int Tryd.underlying3 g1
    have hsl : ∃ a len cap, v2 = .slice a len cap := by
      rcases open_slice Tryd.underlying33 j2 with ⟨hcs, _⟩ | ⟨x, l, c, m, n, D, Pl, hcs, _⟩
      · simp at hcs
        exact ⟨_, _, _, hcs⟩
      · simp at hcs
        exact ⟨_, _, _, hcs⟩
    obtain ⟨a, len, cap, rfl⟩ := hsl
    obtain ⟨q, hq⟩ := open_px j2
    simp only [List.cons.injEq, and_true] at e0 e1 e3
    subst e0 e1 e3
    refine ⟨⟨⟨n0, n1, len, q, n3⟩, a, cap⟩, rfl, hq, fun hw => ?_⟩
    refine open_px_fewF j2 (fun m hm => hw m ?_)
    simp only [List.map_cons, List.map_nil, DataW.weights, Tryd.underlying38, DataW.weightsEach, List.mem_append, hz, Tryd.underlying35]
    simp [hm]

/-- Frames that lie there, with their pixels. -/
def IsFr (w : World) (s : Option Addr) (n : Nat) (V : Nat → FrV) : Prop := IsRw w 4 s n (fun i => (V i).cells) ∧ ∀ i, i < n → (V i).in w

set_option maxRecDepth 100000 in
set_option maxHeartbeats 2000000 in
/-- Frames that came in. -/
theorem open_frames {H : Type} {enc : TypeId × Value → H} {w : World} {base : Nat} {spare : Nat → Bool} {held : Bool} {fuel : Nat} {s : Option Addr} {len cap : Nat} {x : DataW H × List MemPlace}
    (h : DataW.trod enc Tryd.prog w base spare held fuel 22 [.slice s len cap] = some x) (hwt : ∀ n ∈ x.1.weights Tryd.prog 22, n ≤ reachBytes) :
    ∃ V : Nat → FrV, IsFr w s len V ∧ (len ≤ maxLen ∧ ∀ i, i < len → (V i).f.n ≤ 140737488355328) := by
  rcases open_slice Tryd.underlying22 h with ⟨hcs, _⟩ | ⟨ad, l, c, m, n, D, Pl, hcs, _, hl, hm, hmm, hx, hel⟩
  · simp at hcs
    exact ⟨fun _ => default, ⟨.inl hcs.2.1, fun i hi => by omega⟩, by rw [hcs.2.1]; unfold maxLen; omega, fun i hi => by omega⟩
  simp at hcs
  obtain ⟨rfl, rfl, rfl⟩ := hcs
  have hlm : len ≤ m := by rw [hmm]; split <;> omega
  by_cases h0 : len = 0
  · exact ⟨fun _ => default, ⟨.inl h0, fun i hi => by omega⟩, by rw [h0]; unfold maxLen; omega, fun i hi => by omega⟩
  have each : ∀ i, i < len → ∃ r : FrV, (∀ j, j < 4 → w.cell? (ad.add (i * 4 + j)) = r.cells[j]?) ∧ r.in w ∧ r.f.n ≤ 140737488355328 := by
    intro i hi
    obtain ⟨cs', h1, h2⟩ := hel i (by omega)
    rw [rf_cells] at h1
    obtain ⟨_, hlen, hcell⟩ := World.cells?_some h1
    obtain ⟨V, rfl, hp, hw⟩ := open_frame h2
    refine ⟨V, fun j hj => ?_, hp, hw (fun k hk => hwt k ?_)⟩
    · have k0 := hcell j (by omega)
      rw [add_add] at k0
      rw [k0, List.getElem?_eq_getElem (by omega)]
    · rw [hx]
      simp only [DataW.weights, Tryd.underlying22, List.mem_cons, List.mem_append]
      exact .inr (.inl (all_memF (List.mem_map.2 ⟨i, List.mem_range.2 hi, rfl⟩) k hk))
  obtain ⟨r, hr⟩ := choose_lt each
  obtain ⟨b, off, spot⟩ := ad
  have hspot : spot = none := by
    have := (hr 0 (by omega)).1 0 (by omega)
    simpa [Addr.add, FrV.cells] using World.cell?_spot (v := .int .i64 (r 0).f.W) (by simpa [Addr.add, FrV.cells] using this)
  subst hspot
  have hadd : ∀ j, (⟨b, off, none⟩ : Addr).add j = ⟨b, off + j, none⟩ := fun j => by unfold Addr.add; split <;> simp_all
  refine ⟨r, ⟨.inr ⟨b, off, rfl, by omega, fun i hi j u hu => ?_⟩, fun i hi => (hr i hi).2.1⟩, by omega, fun i hi => (hr i hi).2.2⟩
  have hj : j < 4 := (List.getElem?_eq_some_iff.1 hu).1
  have := (hr i hi).1 j hj
  rw [hadd, ← Nat.add_assoc] at this
  rw [this]
  exact hu
end Go.Proofs.YtjcoahahponabaaDoor
namespace Go.Proofs.YtjcoahahponabaaDoor
open Go.RowKit

set_option maxHeartbeats 4000000 in
set_option maxRecDepth 100000 in
theorem clean_any (W H : Int) (a : Option Addr) (n c : Nat) (q : Nat → Px) (w : World) (hP : IsPx w a n q) (h1 : 1 ≤ n) (hn : n ≤ 100000) :
    Calls Tryd.prog 10 #[.agg #[.int .i64 W, .int .i64 H, .slice a n c]] w fun e w' => ∃ g c2, e = .returned (.agg #[.int .i64 W, .int .i64 H, .slice (some ⟨g, 0, none⟩) n c2]) ∧ w.heap.size ≤ g ∧ PR w' g n (clQ q) ∧ Below w.heap.size w w' := by
  have HO := hide (fun wr (hb : Below w.heap.size w wr) => own_any W H a n c q wr (hP.below hb) hn)
  have HA := hide (al2 w (.cells #[.int .i64 W, .int .i64 H, .slice a n c] 35) (.cells #[.int .i64 0, .int .i64 0, .slice none 0 0] 35))
  obtain ⟨B, hB⟩ : ∃ B, B = w.heap.size := ⟨_, rfl⟩
  clear hP
  go_enter Tryd.func10, Tryd.ntmps10
  go_wp2_with fail
  generalize (w.alloc (.cells #[.int .i64 W, .int .i64 H, .slice a n c] 35)).alloc (.cells #[.int .i64 0, .int .i64 0, .slice none 0 0] 35) = w1 at *
  rw [← hB] at HA HO ⊢
  obtain ⟨hs1, k0, k1, hb1⟩ := unhide HA
  have HBE := hide hB
  refine (unhide HO w1 hb1).mono ?_
  rintro e w2 ⟨a2, c2, rfl, ho, hb2⟩
  obtain ⟨g, rfl, hg, hpr⟩ := own_PR ho h1
  have K1 := hide (blk_below k1 hb2 (blk_lt k1))
  have HB2 := hide (hb1.trans (hb2.mono (by omega)))
  have hz2 : B + 2 ≤ w2.heap.size := by have := hb2.size; omega
  have hgB : B + 2 ≤ g := by omega
  have hgl := hpr.lt
  have HP2 := hide hpr
  have HA3 := hide (al1 w2 (.cells #[.int .i64 W, .int .i64 H, .slice (some ⟨g, 0, none⟩) n c2] 35))
  clear HA HO hB k0 k1 hb1 hs1 ho hpr hb2
  go_wp2
  generalize w2.alloc (.cells #[.int .i64 W, .int .i64 H, .slice (some ⟨g, 0, none⟩) n c2] 35) = w3 at *
  obtain ⟨hs3, k3, hb3⟩ := unhide HA3
  obtain ⟨G, hG⟩ : ∃ G, G = w2.heap.size := ⟨_, rfl⟩
  rw [← hG] at k3 hs3 hb3 hgl hz2 ⊢
  have HP3 : Hid (PR w3 g n (fun k => if k < 0 then clP (q k) else q k)) := ((unhide HP2).below hb3 hgl).congr (fun k _ => by simp)
  have HB3 := hide ((unhide HB2).trans (hb3.mono (by omega)))
  have K13 := hide (blk_below (unhide K1) hb3 (by omega))
  have K3 := hide k3
  clear HA3 HP2 HB2 K1 k3 hb3 hG hs3
  go_loopw [4] (fun iv wr => ∃ i : Nat, i ≤ n ∧ iv = .int .i64 (i : Int) ∧ Hid (PR wr g n (fun k => if k < i then clP (q k) else q k)) ∧ Hid (Below B w wr) ∧ Hid (wr.heap[B + 1]? = some (.cells #[.int .i64 0, .int .i64 0, .slice none 0 0] 35)) ∧ Hid (wr.heap[G]? = some (.cells #[.int .i64 W, .int .i64 H, .slice (some ⟨g, 0, none⟩) n c2] 35))) (fun iv _ => n - (intOf iv).toNat)
  case atStart => exact ⟨0, by omega, rfl, HP3, HB3, K13, K3⟩
  case round =>
    clear HP3 HB3 K13 K3
    obtain ⟨i, hi, rfl, HP, HB, K1, K3⟩ := hrel
    have c0 : wr.cell? ⟨G, 0, none⟩ = some (.int .i64 W) := blk_cell (unhide K3) 0
    have c1 : wr.cell? ⟨G, 1, none⟩ = some (.int .i64 H) := blk_cell (unhide K3) 1
    have c2' : wr.cell? ⟨G, 2, none⟩ = some (.slice (some ⟨g, 0, none⟩) n c2) := blk_cell (unhide K3) 2
    have hlG := blk_lt (unhide K3)
    by_cases hlt : i < n
    · have d1 : decide ((i : Int) < (n : Int)) = true := decide_eq_true (by omega)
      have d1n : decide (i < n) = true := decide_eq_true hlt
      have hii : (i : Int) < (n : Int) := by omega
      obtain ⟨y, hy⟩ : ∃ y, y = q i := ⟨_, rfl⟩
      have HY := hide hy
      obtain ⟨x0, x1, x2, x3o⟩ := (unhide HP).px i hlt
      have x3 : wr.cell? ⟨g, i * 4 + 3, none⟩ = some (.int .u8 (y.a.toNat : Int)) := by
        have : (if i < i then clP (q i) else q i) = y := by rw [if_neg (Nat.lt_irrefl i), hy]
        rw [x3o, this]
      clear x3o
      by_cases h0 : y.a.toNat = 0
      · have g0 : ((y.a.toNat : Int) == 0) = true := by rw [beq_iff_eq]; omega
        have f0 := (unhide HP).fr (i * 4)
        have f1 := (unhide HP).fr (i * 4 + 1)
        have f2 := (unhide HP).fr (i * 4 + 2)
        have f3 := (unhide HP).fr (i * 4 + 3)
        have HYs : Hid (clP (q i) = px0) := by show _ = _; rw [← hy]; unfold clP; rw [if_pos (u8_eq0 h0)]; rfl
        have HPW : Hid (put4 wr g (i * 4) px0 = (((wr.setCell ⟨g, i * 4, none⟩ (.int .u8 0)).setCell ⟨g, i * 4 + 1, none⟩ (.int .u8 0)).setCell ⟨g, i * 4 + 2, none⟩ (.int .u8 0)).setCell ⟨g, i * 4 + 3, none⟩ (.int .u8 0)) := rfl
        have HPN : Hid (PR (put4 wr g (i * 4) px0) g n (fun k => if k < i + 1 then clP (q k) else q k)) := ((unhide HP).put hlt px0).congr (fun k _ => by
          unfold updP
          by_cases e : k = i
          · subst e
            rw [if_pos rfl, if_pos (by omega), unhide HYs]
          · rw [if_neg e]
            show (if k < i then clP (q k) else q k) = _
            by_cases e2 : k < i
            · rw [if_pos e2, if_pos (by omega)]
            · rw [if_neg e2, if_neg (by omega)])
        have HBN := hide (put4_below (unhide HB) (show B ≤ g by omega) px0 (o := i * 4))
        have HK1 := hide ((put4_far wr g (i * 4) (B + 1) px0 (by omega)).trans (unhide K1))
        have HK3 := hide ((put4_far wr g (i * 4) G px0 (by omega)).trans (unhide K3))
        rw [unhide HPW] at HPN HBN HK1 HK3
        clear hy HY h0 HPW HYs HP HB K1 K3
        go_wp2
        go_roundw
        case rel => exact ⟨i + 1, by omega, by go_num, HPN, HBN, HK1, HK3⟩
        case measure => simp [intOf]; omega
      · have g0 : ((y.a.toNat : Int) == 0) = false := by rw [beq_eq_false_iff_ne]; omega
        have HPs : Hid (PR wr g n (fun k => if k < i + 1 then clP (q k) else q k)) := (unhide HP).congr (fun k _ => by
          by_cases e : k = i
          · subst e
            rw [if_neg (by omega), if_pos (by omega), ← hy]
            unfold clP
            rw [if_neg (fun e => h0 (by rw [e]; rfl))]
          · by_cases e2 : k < i
            · rw [if_pos e2, if_pos (by omega)]
            · rw [if_neg e2, if_neg (by omega)])
        clear hy HY h0 HP
        go_wp2
        go_roundw
        case rel => exact ⟨i + 1, by omega, by go_num, HPs, HB, K1, K3⟩
        case measure => simp [intOf]; omega
    · obtain rfl : i = n := by omega
      have d1 : decide ((i : Int) < (i : Int)) = false := by simp
      have r0 := blk_frozen (unhide K1) 0
      have r1 := blk_frozen (unhide K1) 1
      have r2 := blk_frozen (unhide K1) 2
      have s0 : wr.cell? ⟨B + 1, 0, none⟩ = some (.int .i64 0) := blk_cell (unhide K1) 0
      have s1 : wr.cell? ⟨B + 1, 1, none⟩ = some (.int .i64 0) := blk_cell (unhide K1) 1
      have s2 : wr.cell? ⟨B + 1, 2, none⟩ = some (.slice none 0 0) := blk_cell (unhide K1) 2
      have hl : B + 1 < wr.heap.size := blk_lt (unhide K1)
      have HF := hide ((unhide HP).congr (q := clQ q) (fun k hk => by rw [if_pos hk]; rfl))
      clear K1 K3 HP
      go_wp2
      refine bodyPost_ret (v := .agg #[.int .i64 W, .int .i64 H, .slice (some ⟨g, 0, none⟩) i c2]) ?_ rfl ⟨g, c2, rfl, by rw [← unhide HBE]; omega, ?_, ?_⟩
      · rw [results_cellP (p := 2) (ty := 35) (by kernel_rfl)]
        go_simp
      · exact (unhide HF).block (by rw [Below.heap_setCell _ _ _ _ (by show g ≠ B + 1; omega), Below.heap_setCell _ _ _ _ (by show g ≠ B + 1; omega), Below.heap_setCell _ _ _ _ (by show g ≠ B + 1; omega)])
      · rw [← unhide HBE]
        exact (((unhide HB).setCell (p := ⟨B + 1, 0, none⟩) (by show B ≤ B + 1; omega) _).setCell (p := ⟨B + 1, 1, none⟩) (by show B ≤ B + 1; omega) _).setCell (p := ⟨B + 1, 2, none⟩) (by show B ≤ B + 1; omega) _
end Go.Proofs.YtjcoahahponabaaDoor
