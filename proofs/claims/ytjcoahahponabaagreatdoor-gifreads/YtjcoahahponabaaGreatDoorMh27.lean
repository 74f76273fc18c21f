/- Walks of texts in parts, and back: the document's. Moving pictures: the document's text of frames. Written by gengq5.py. A moving picture of one pixel. Frames that came in. -/
import Derived.Test.YtjcoahahponabaaGreatDoorMh5
import Derived.Test.YtjcoahahponabaaGreatDoorMh9
import Derived.Test.YtjcoahahponabaaGreatDoorMh13
import Derived.Test.YtjcoahahponabaaGreatDoorGq4
import Derived.Test.YtjcoahahponabaaGreatDoorMh14
import Derived.Test.YtjcoahahponabaaGreatDoorMh24
import Derived.Test.YtjcoahahponabaaGreatDoorMh10
import Derived.Test.YtjcoahahponabaaGreatDoorMh3
import Derived.Test.YtjcoahahponabaaGreatDoorLk3
import Derived.Test.YtjcoahahponabaaGreatDoorMh17
import Derived.Deep.CutRange
import Derived.Test.YtjcoahahponabaaGreatDoorMh12
import Derived.Test.YtjcoahahponabaaGreatDoorMh1
import Derived.SizedLaws
import Derived.Deep.SlicePairs
namespace Go.Proofs.YtjcoahahponabaaGreatDoor
open Go.RowKit Lz

theorem u8_text (n : Nat) (l t : List UInt8) (o : ByteArray) (T : ByteArray) (h : o.data.toList = l) (ht : T.data.toList = t) : (o ++ ⟨#[UInt8.ofNat n]⟩ ++ T).data.toList = l ++ (UInt8.ofNat n :: t) := by
  simp [ByteArray.data_append, h, ht]

set_option maxHeartbeats 2000000 in
set_option maxRecDepth 100000 in
theorem blocksOf_any (s : ByteArray) (w : World) (hs : s.size ≤ 200000) :
    Calls Tryz.prog 67 #[.string s] w fun e w' => e = .returned (.string ⟨(blocksL s.size s.data.toList).toArray⟩) ∧ Below w.heap.size w w' := by
  have H255 : Hid (∀ w, Calls Tryz.prog 63 #[.int .i64 255] w fun e w' => e = .returned (.string ⟨#[UInt8.ofNat 255]⟩) ∧ Below w.heap.size w w') := fun w => byte_any 255 w (by omega)
  have H0 : Hid (∀ w, Calls Tryz.prog 63 #[.int .i64 0] w fun e w' => e = .returned (.string ⟨#[UInt8.ofNat 0]⟩) ∧ Below w.heap.size w w') := fun w => byte_any 0 w (by omega)
  have HBY : Hid (∀ (m : Nat) (w : World), m < 256 → Calls Tryz.prog 63 #[.int .i64 (m : Int)] w fun e w' => e = .returned (.string ⟨#[UInt8.ofNat m]⟩) ∧ Below w.heap.size w w') := fun m w h => byte_any m w h
  obtain ⟨G, hG⟩ : ∃ G, G = blocksL s.size s.data.toList := ⟨_, rfl⟩
  rw [← hG]
  have HG := hide hG
  clear hG
  go_enter Tryz.func67, Tryz.ntmps67
  go_wp2
  go_loopw [0, 3] (fun sv ov wr => ∃ (t o : ByteArray) (f : Nat), sv = .string t ∧ ov = .string o ∧ t.size ≤ f ∧ t.size ≤ 200000 ∧ o.size + 2 * t.size ≤ 400000 ∧ Hid (G = o.data.toList ++ blocksL f t.data.toList) ∧ Below w.heap.size w wr) (fun sv _ _ => (match sv with | .string t => t.size | _ => 0))
  case atStart => exact ⟨s, ⟨#[]⟩, s.size, rfl, rfl, Nat.le_refl _, hs, by show 0 + _ ≤ _; omega, HG, Below.refl _ _⟩
  case round =>
    obtain ⟨t, o, f, rfl, rfl, htf, ht2, hot, HGr, hbr⟩ := hrel
    clear HG
    by_cases hlt : 255 < t.size
    · have g1 : decide ((t.size : Int) > 255) = true := by simp; omega
      have g1' : decide ((255 : Int) < (t.size : Int)) = true := g1
      have g1n : decide (255 < t.size) = true := by simp; omega
      have hti : (255 : Int) ≤ (t.size : Int) := by omega
      have htn : 255 ≤ t.size := by omega
      have n1 : ¬ (9223372036854775807 < o.size + 1) := by omega
      have n2 : ¬ (9223372036854775807 < o.size + 1 + 255) := by omega
      have n3 : ¬ (9223372036854775807 < o.size + 1 + min 255 t.size) := by omega
      have n4 : ¬ (9223372036854775807 < o.size + 1 + t.size) := by omega
      obtain ⟨f', hf'⟩ : ∃ f', f = f' + 1 := ⟨f - 1, by omega⟩
      have hne : t.data.toList ≠ [] := fun q => by have := size_list t; rw [q] at this; simp at this; omega
      obtain ⟨o2, ho2⟩ : ∃ o2, o2 = o ++ ⟨#[UInt8.ofNat 255]⟩ ++ t.extract 0 255 := ⟨_, rfl⟩
      have hcs : (t.extract 0 255).size = 255 := by simp; omega
      have hos : o2.size = o.size + 256 := by rw [ho2]; simp only [ByteArray.size_append, hcs]; rfl
      have HGN : Hid (G = o2.data.toList ++ blocksL f' (t.extract 255 t.size).data.toList) := by
        show _ = _
        rw [unhide HGr, hf', blocksL_cons f' _ hne, size_list, ho2, u8_text 255 _ _ _ _ rfl (front t 255), back, show min t.size 255 = 255 by omega]
        simp
      have hbs : (t.extract 255 t.size).size = t.size - 255 := by simp
      have HO2 := hide ho2
      have Hf' := hide hf'
      clear ho2 hf' HGr hne
      go_wp2_with fail
      haveI : Nonempty (BelowOf w.heap.size w) := ⟨⟨w, Below.refl _ _⟩⟩
      refine region_below w.heap.size w hbr (by kernel_rfl) ?_
      repeat (quiet_step ((go_at_call 63; exact Calls.below_of (Nat.le_refl _) (unhide H255 _))))
      refine wpQuiet_nil ?_
      intro _ hw'
      obtain ⟨⟨wq, hwq⟩, rfl⟩ := hw'
      go_wp2
      go_roundw
      case rel => exact ⟨t.extract 255 t.size, o2, f', rfl, by rw [unhide HO2]; rfl, by have := unhide Hf'; omega, by omega, by omega, HGN, hwq⟩
      case measure => simp; omega
    · have g1 : decide ((t.size : Int) > 255) = false := by simp; omega
      have g1' : decide ((255 : Int) < (t.size : Int)) = false := g1
      have g1n : decide (255 < t.size) = false := by simp; omega
      by_cases h0 : 0 < t.size
      · obtain ⟨hq1, hq2, hq3⟩ := not_blank t h0
        have HC := hide (unhide HBY t.size wr (by omega))
        obtain ⟨f', hf'⟩ : ∃ f', f = f' + 1 := ⟨f - 1, by omega⟩
        have hne : t.data.toList ≠ [] := fun q => by have := size_list t; rw [q] at this; simp at this; omega
        obtain ⟨o2, ho2⟩ : ∃ o2, o2 = o ++ ⟨#[UInt8.ofNat t.size]⟩ ++ t := ⟨_, rfl⟩
        have HGN : Hid (o2 ++ ⟨#[UInt8.ofNat 0]⟩ = ⟨G.toArray⟩) := by
          show _ = _
          apply text_ext
          rw [unhide HGr, hf', blocksL_cons f' _ hne, size_list, ByteArray.data_append, Array.toList_append, ho2, u8_text t.size _ _ _ _ rfl rfl, show min t.size 255 = t.size by omega, List.take_of_length_le (by rw [size_list]; omega), List.drop_of_length_le (by rw [size_list]; omega), blocksL_nil]
          simp
        have n1 : ¬ (9223372036854775807 < o.size + 1) := by omega
        have n2 : ¬ (9223372036854775807 < o.size + 1 + t.size) := by omega
        have n3 : ¬ (9223372036854775807 < o.size + 1 + t.size + 1) := by omega
        have HO2 := hide ho2
        clear ho2 hf' HGr hne HBY
        go_wp2_with fail
        refine (unhide HC).mono ?_; rintro e w1 ⟨rfl, hb1⟩
        have HD := hide (unhide H0 w1)
        have HB1 := hide (hbr.trans (hb1.mono hbr.size))
        clear HC hb1 H0 H255
        go_wp2_with fail
        refine (unhide HD).mono ?_; rintro e w2 ⟨rfl, hb2⟩
        have HB2 := hide ((unhide HB1).trans (hb2.mono (unhide HB1).size))
        clear HD hb2
        go_wp2
        go_ret
        exact ⟨by rw [← unhide HGN, unhide HO2]; rfl, unhide HB2⟩
      · have ht0 : t = ⟨#[]⟩ := by
          apply text_ext
          apply List.eq_nil_of_length_eq_zero
          rw [size_list]; omega
        subst ht0
        have HGN : Hid (o ++ ⟨#[UInt8.ofNat 0]⟩ = ⟨G.toArray⟩) := by
          show _ = _
          apply text_ext
          rw [unhide HGr, ByteArray.data_append, Array.toList_append]
          exact congrArg _ (blocksL_nil f).symm
        have n1 : ¬ (9223372036854775807 < o.size + 1) := by omega
        have HD := hide (unhide H0 wr)
        clear HGr HBY H0 H255 htf ht2 hot hlt g1 g1' g1n h0
        go_wp2_with fail
        refine (unhide HD).mono ?_; rintro e w2 ⟨rfl, hb2⟩
        have HB2 := hide (hbr.trans (hb2.mono hbr.size))
        clear HD hb2
        go_wp2
        go_ret
        exact ⟨by rw [← unhide HGN]; rfl, unhide HB2⟩


end Go.Proofs.YtjcoahahponabaaGreatDoor
namespace Go.Proofs.YtjcoahahponabaaGreatDoor
open Go.RowKit Lz Ps

theorem gbare_any (z : Int) (w : World) : Calls Tryz.prog 16 #[.int .i64 z] w fun e w' => e = .returned (.agg #[.int .i64 z, .int .i64 (-1)]) ∧ Below w.heap.size w w' := by
  have HB := hide ((Below.refl w.heap.size w).alloc (Nat.le_refl _) (.cells #[.int .i64 z, .int .i64 (-1)] 34))
  go_enter Tryz.func16, Tryz.ntmps16
  go_wp2
  refine bodyPost_ret (v := .agg #[.int .i64 z, .int .i64 (-1)]) ?_ rfl ⟨rfl, ?_⟩
  · rw [results_c (p := 2) (ty := 34) (by kernel_rfl)]
    go_simp
  · exact unhide HB
theorem gfine_any (w : World) : Calls Tryz.prog 41 #[] w fun e w' => e = .returned (.agg #[.int .i64 0, .int .i64 (-1)]) ∧ Below w.heap.size w w' := by
  have HB := hide ((Below.refl w.heap.size w).alloc (Nat.le_refl _) (.cells #[.int .i64 0, .int .i64 (-1)] 34))
  go_enter Tryz.func41, Tryz.ntmps41
  go_wp2
  refine bodyPost_ret (v := .agg #[.int .i64 0, .int .i64 (-1)]) ?_ rfl ⟨rfl, ?_⟩
  · rw [results_c (p := 0) (ty := 34) (by kernel_rfl)]
    go_simp
  · exact unhide HB
/-- The world inside: the answer's fault, empty yet. -/
structure FG (w wx : World) (gf : Nat) : Prop where
  f0 : wx.cell? ⟨gf, 0, none⟩ = some (.int .i64 0)
  f1 : wx.cell? ⟨gf, 1, none⟩ = some (.int .i64 0)
  z0 : wx.frozen? ⟨gf, 0, none⟩ = false
  z1 : wx.frozen? ⟨gf, 1, none⟩ = false
  b : Below gf w wx
  g : gf = w.heap.size
theorem FG.start (w : World) : FG w (w.alloc (.cells #[.int .i64 0, .int .i64 0] 34)) w.heap.size :=
  ⟨by simp [go_sem], by simp [go_sem], by simp [go_sem], by simp [go_sem], (Below.refl w.heap.size w).alloc (Nat.le_refl _) _, rfl⟩
theorem FG.lt {w wx : World} {gf : Nat} (h : FG w wx gf) : gf < wx.heap.size := World.block_lt_of_cell? _ _ h.f0
theorem FG.low {w wx : World} {gf : Nat} (h : FG w wx gf) : Below w.heap.size w wx := h.g ▸ h.b
theorem FG.keep {w wx wy : World} {gf B : Nat} (h : FG w wx gf) (hb : Below B wx wy) (hB : gf < B) : FG w wy gf := by
  have hl := h.lt
  have e : wy.heap[gf]? = wx.heap[gf]? := hb.block gf hB
  exact ⟨(World.cell?_of_block (a := ⟨gf, 0, none⟩) e).trans h.f0, (World.cell?_of_block (a := ⟨gf, 1, none⟩) e).trans h.f1, (World.frozen?_of_block (a := ⟨gf, 0, none⟩) e).trans h.z0, (World.frozen?_of_block (a := ⟨gf, 1, none⟩) e).trans h.z1, h.b.trans (hb.mono (by omega)), h.g⟩
theorem FG.below {w wx wy : World} {gf : Nat} (h : FG w wx gf) (hb : Below wx.heap.size wx wy) : FG w wy gf := h.keep hb h.lt
theorem FG.fin {w wx : World} {gf : Nat} (h : FG w wx gf) (x y : Value) : Below w.heap.size w ((wx.setCell ⟨gf, 0, none⟩ x).setCell ⟨gf, 1, none⟩ y) := by
  have hb := h.b
  have hg := h.g
  rw [← hg]
  exact (hb.setCell (p := ⟨gf, 0, none⟩) (Nat.le_refl _) x).setCell (p := ⟨gf, 1, none⟩) (Nat.le_refl _) y
theorem onceC {G0 : Prop} {G : World → Prop} (F : World → Prop) (h : (∀ w, F w → G w) → G0) (r : ∀ w, F w → G w) : G0 := h r
/-- The numbers as bytes, so far. -/
def bytL (N : List Nat) (n k : Nat) : List UInt8 := (N.take k).map UInt8.ofNat ++ List.replicate (n - k) 0
theorem bytL_length {N : List Nat} {n k : Nat} (hN : N.length = n) (hk : k ≤ n) : (bytL N n k).length = n := by unfold bytL; simp [hN]; omega
theorem bytL_zero (N : List Nat) (n : Nat) : bytL N n 0 = List.replicate n 0 := by unfold bytL; simp
theorem bytL_all {N : List Nat} {n : Nat} (hN : N.length = n) : bytL N n n = numL N := by unfold bytL numL; rw [Nat.sub_self, List.replicate_zero, List.append_nil, List.take_of_length_le (by omega)]
theorem bytL_set {N : List Nat} {n k : Nat} (hN : N.length = n) (hk : k < n) : (bytL N n k).set k (UInt8.ofNat (N.getD k 0)) = bytL N n (k + 1) := by
  have h1 : ((N.take k).map UInt8.ofNat).length = k := by simp; omega
  unfold bytL
  rw [List.set_append_right _ _ (by omega), h1, Nat.sub_self, show n - k = (n - (k + 1)) + 1 by omega, List.replicate_succ, List.set_cons_zero, List.take_add_one, List.getElem?_eq_getElem (by omega : k < N.length), List.map_append, List.getD_eq_getElem?_getD, List.getElem?_eq_getElem (by omega : k < N.length)]
  simp
/-- What the document answers of frames. -/
def GoA (V : Nat → FrV) (n : Nat) (loops : Int) (e : Ending) : Prop :=
  (¬ (fewP n (V 0).f ∧ 0 ≤ loops ∧ loops ≤ 65535) ∧ e = .returned (.tuple #[.string ⟨#[]⟩, .agg #[.int .i64 2, .int .i64 (-1)]])) ∨
  ((fewP n (V 0).f ∧ 0 ≤ loops ∧ loops ≤ 65535) ∧ ∃ i, i < n ∧ (∀ j, j < i → frE (V j).f (V 0).f = 0) ∧ frE (V i).f (V 0).f ≠ 0 ∧ e = .returned (.tuple #[.string ⟨#[]⟩, .agg #[.int .i64 (frE (V i).f (V 0).f : Int), .int .i64 (i : Int)]])) ∨
  ((fewP n (V 0).f ∧ 0 ≤ loops ∧ loops ≤ 65535) ∧ (∀ j, j < n → frE (V j).f (V 0).f = 0) ∧ e = .returned (.tuple #[.string ⟨(gifL (V 0).f.W.toNat (V 0).f.H.toNat (tfsF V n) loops.toNat).toArray⟩, .agg #[.int .i64 0, .int .i64 (-1)]]))
theorem ge_ch {f g : Fr} (h : chE f g ≠ 0) : frE f g = chE f g := by
  by_cases h1 : RightP f.W f.H f.n ∧ f.W = g.W ∧ f.H = g.H
  · by_cases h2 : 0 ≤ f.d ∧ f.d ≤ 65535
    · exact absurd (chE_ok h1 h2) h
    · rw [chE_bound h1 h2]; exact frE_bound h1 h2
  · rw [chE_shape h1]; exact frE_shape h1
theorem ge_ok {f g : Fr} (h : chE f g = 0) (h2 : AN f.q f.n ∧ (ulk (clQ f.q) f.n).length ≤ 256) : frE f g = 0 := frE_ok (chE_zero h).1 (chE_zero h).2 h2
theorem ge_col {f g : Fr} (h : chE f g = 0) (h2 : ¬ (AN f.q f.n ∧ (ulk (clQ f.q) f.n).length ≤ 256)) : frE f g = 7 := frE_colors (chE_zero h).1 (chE_zero h).2 h2
theorem byV_lit112 : (byV 112).data.toList = [112] := rfl
theorem byV_lit0 : (byV 0).data.toList = [0] := rfl
theorem byV_lit33 : (byV 33).data.toList = [33] := rfl
theorem byV_lit255 : (byV 255).data.toList = [255] := rfl
theorem byV_lit11 : (byV 11).data.toList = [11] := rfl
theorem byV_lit3 : (byV 3).data.toList = [3] := rfl
theorem byV_lit1 : (byV 1).data.toList = [1] := rfl
theorem byV_lit249 : (byV 249).data.toList = [249] := rfl
theorem byV_lit4 : (byV 4).data.toList = [4] := rfl
theorem byV_lit44 : (byV 44).data.toList = [44] := rfl
theorem liV_lit0 : (liV 0).data.toList = [0, 0] := (liV_nat 0 (by omega)).trans rfl
/-- What stands ahead of the frames. -/
def gifB (V : Nat → FrV) (n lp : Nat) : List UInt8 := [71, 73, 70, 56, 57, 97] ++ ((liV (V 0).f.W).data.toList ++ ((liV (V 0).f.H).data.toList ++ [112, 0, 0])) ++ (if 1 < n then loopL lp else [])
theorem gifB_all (V : Nat → FrV) (n lp : Nat) (h : RightP (V 0).f.W (V 0).f.H (V 0).f.n) : gifB V n lp ++ frsL (tfsF V n) ++ [59] = gifL (V 0).f.W.toNat (V 0).f.H.toNat (tfsF V n) lp := by
  have hW : (liV (V 0).f.W).data.toList = pairL (V 0).f.W.toNat := by
    have := h.1
    obtain ⟨x, hx⟩ := Int.eq_ofNat_of_zero_le (show 0 ≤ (V 0).f.W by omega)
    rw [hx]
    exact liV_nat x (by omega)
  have hH : (liV (V 0).f.H).data.toList = pairL (V 0).f.H.toNat := by
    have := h.2.1
    obtain ⟨x, hx⟩ := Int.eq_ofNat_of_zero_le (show 0 ≤ (V 0).f.H by omega)
    rw [hx]
    exact liV_nat x (by omega)
  have hl : (tfsF V n).length = n := by unfold tfsF; rw [List.length_map, List.length_range]
  unfold gifB gifL beginL
  rw [hW, hH, hl]
  simp only [List.append_assoc, List.cons_append, List.nil_append]
end Go.Proofs.YtjcoahahponabaaGreatDoor
namespace Go.Proofs.YtjcoahahponabaaGreatDoor
open Go.RowKit Lz

def redP : Px := ⟨255, 0, 0, 255⟩
def redV (g c : Nat) : Nat → FrV := fun _ => ⟨⟨1, 1, 1, fun _ => redP, 3⟩, some ⟨g, 0, none⟩, c⟩
theorem red_ok (g c : Nat) : frE (redV g c 0).f (redV g c 0).f = 0 := by
  refine frE_of ⟨by show (1 : Int) ≤ 1 ∧ (1 : Int) ≤ 256; omega, by show (1 : Int) ≤ 1 ∧ (1 : Int) ≤ 256; omega, rfl⟩ rfl rfl (by show (0 : Int) ≤ 3 ∧ (3 : Int) ≤ 65535; omega) (fun k hk => .inr rfl) ?_
  have := ulk_len (clQ (redV g c 0).f.q) 1
  exact Nat.le_trans this (by omega)
theorem red_few (g c : Nat) : fewP 1 (redV g c 0).f := ⟨by omega, .inr (show 1 * 1 ≤ 60000 by omega)⟩

set_option maxHeartbeats 8000000 in
set_option maxRecDepth 100000 in
theorem blink_any (w : World) (aS : Nat → Addr) (hS : Told w [1, 2, 6] aS) {tE : TypeId} {xE : Value} (hG : GT w tE xE) (hn : 10 ≤ w.heap.size) :
    Calls Tryz.prog 23 #[] w fun e w' => e = .returned (.bool true) ∧ Below w.heap.size w w' := by
  have HBl : Hid (Calls Tryz.prog 35 #[.int .i64 1, .int .i64 1, .agg #[.int .u8 255, .int .u8 0, .int .u8 0, .int .u8 255]] w fun e w' => ∃ g c, e = .returned (.agg #[.int .i64 1, .int .i64 1, .slice (some ⟨g, 0, none⟩) 1 c]) ∧ w.heap.size ≤ g ∧ PR w' g 1 (fun _ => redP) ∧ Below w.heap.size w w') := blankP_any 1 1 redP w (by omega) (by omega)
  have HSW := hide (fun wr (hb : Below w.heap.size w wr) => hS.below hb)
  have HGW := hide (fun wr (hb : Below w.heap.size w wr) => ((hb.cell (p := ⟨1, 0, none⟩) (World.block_lt_of_cell? _ _ hG)).trans hG : GT wr tE xE))
  clear hS hG
  go_enter Tryz.func23, Tryz.ntmps23
  go_wp2_with fail
  refine (unhide HBl).mono ?_
  rintro e w1 ⟨g, c, rfl, hg, hp, hb1⟩
  have HP := hide (hp.isPx (by omega))
  have HB1 := hide hb1
  have hz1 := hb1.size
  have HA := hide (al1 w1 (.cells #[.int .i64 1, .int .i64 1, .slice (some ⟨g, 0, none⟩) 1 c, .int .i64 3] 92))
  clear HBl hp hb1
  go_wp2_with fail
  generalize w1.alloc (.cells #[.int .i64 1, .int .i64 1, .slice (some ⟨g, 0, none⟩) 1 c, .int .i64 3] 92) = w2 at *
  obtain ⟨hs2, k2, hb2⟩ := unhide HA
  have HB2 := hide ((unhide HB1).trans (hb2.mono hz1))
  have hz2 : w.heap.size ≤ w2.heap.size := by omega
  have HR := hide (show IsRw w2 4 (some ⟨w1.heap.size, 0, none⟩) 1 (fun i => (redV g c i).cells) from .inr ⟨w1.heap.size, 0, rfl, by unfold maxLen; omega, fun i hi j u hu => by
    obtain rfl : i = 0 := by omega
    rw [show 0 + 0 * 4 + j = j by omega]
    have hu : [Value.int .i64 1, .int .i64 1, .slice (some ⟨g, 0, none⟩) 1 c, .int .i64 3][j]? = some u := hu
    exact (blk_cell k2 j).trans (by simpa using hu)⟩)
  have HV := hide (show ∀ i, i < 1 → (redV g c i).in w2 from fun i hi => (unhide HP).below hb2)
  have HW := hide (gwrite_any (some ⟨w1.heap.size, 0, none⟩) 1 1 0 (redV g c) w2 aS (unhide HSW _ (unhide HB2)) (unhide HR) (unhide HV))
  clear HA hs2 k2 hb2 HB1 hz1 HP
  generalize w1.heap.size = q1 at *
  refine (unhide HW).mono ?_
  rintro e w3 ⟨hr, hb3⟩
  have hgood : e = .returned (.tuple #[.string ⟨(gifL (redV g c 0).f.W.toNat (redV g c 0).f.H.toNat (tfsF (redV g c) 1) 0).toArray⟩, .nilIface]) := by
    rcases hr with ⟨q, _⟩ | ⟨_, i, hi, _, q, _⟩ | ⟨_, _, q⟩
    · exact absurd ⟨red_few g c, by omega, by omega⟩ q
    · obtain rfl : i = 0 := by omega
      exact absurd (red_ok g c) q
    · exact q
  subst hgood
  have HB3 := hide ((unhide HB2).trans (hb3.mono hz2))
  have hz3 : w.heap.size ≤ w3.heap.size := by have := hb3.size; omega
  have HR3 := hide ((unhide HR).below hb3)
  have HV3 := hide (fun i hi => (unhide HV i hi).below hb3)
  have HRd := hide (gback_any (redV g c) 1 0 w3 aS (unhide HSW _ (unhide HB3)) (unhide HGW _ (unhide HB3)) (by omega) (by omega) (red_few g c) (fun j hj => red_ok g c) (show 1 * 1 ≤ 24000 by omega))
  have hge := gif_ge (redV g c) 0
  generalize gifL (redV g c 0).f.W.toNat (redV g c 0).f.H.toNat (tfsF (redV g c) 1) 0 = s at *
  have hsz : (⟨s.toArray⟩ : ByteArray).size = s.length := by show s.toArray.size = _; simp
  obtain ⟨t, ht⟩ : ∃ t : ByteArray, t = ⟨s.toArray⟩ := ⟨_, rfl⟩
  rw [← ht] at HRd hsz ⊢
  have d1 : decide ((t.size : Int) < 30) = false := decide_eq_false (by omega)
  have d1n : decide (t.size < 30) = false := decide_eq_false (by omega)
  have e0 : (((if 1 < 1 then 0 else 0 : Nat) : Nat) : Int) = 0 := rfl
  rw [e0] at HRd
  clear HW hr hb3 HR HV HB2 ht hge hsz e0
  go_wp2_with fail
  refine (unhide HRd).mono ?_
  rintro e w4 ⟨ta, tc, U, rfl, hR4, hU4, hb4⟩
  have HB4 := hide ((unhide HB3).trans (hb4.mono hz3))
  have hz4 : w.heap.size ≤ w4.heap.size := by have := hb4.size; omega
  have HRl := hide ((unhide HR3).below hb4)
  have HVl := hide (fun i hi => (unhide HV3 i hi).below hb4)
  have HBk := hide (backFrames_any ta 1 tc U w4 hR4 (by omega))
  have HU4 := hide hU4
  clear HRd hR4 hU4 hb4 HB3 hz3 HR3 HV3 d1 d1n
  go_wp2_with fail
  refine (unhide HBk).mono ?_
  rintro e w5 ⟨ta5, tc5, rfl, hown5, hb5⟩
  have HR5 := hide (own_rw hown5 (fun j => rfl) (by unfold maxLen; omega))
  have HB5 := hide ((unhide HB4).trans (hb5.mono hz4))
  have hz5 : w.heap.size ≤ w5.heap.size := by have := hb5.size; omega
  have HU5 := hide (fun j hj => (⟨(unhide HU4 j hj).1.below hb5, (unhide HU4 j hj).2⟩ : (U j).in w5 ∧ BackF (U j).f (redV g c j).f))
  have HVl5 := hide (fun i hi => (unhide HVl i hi).below hb5)
  have HBk := hide (backFrames_any (some ⟨q1, 0, none⟩) 1 1 (redV g c) w5 ((unhide HRl).below hb5) (by omega))
  clear hown5 hb5 HU4 HVl HRl HB4 hz4
  go_wp2_with fail
  refine (unhide HBk).mono ?_
  rintro e w6 ⟨ta6, tc6, rfl, hown6, hb6⟩
  have HR6 := hide (own_rw hown6 (fun j => rfl) (by unfold maxLen; omega))
  have HB6 := hide ((unhide HB5).trans (hb6.mono hz5))
  have hz6 : w.heap.size ≤ w6.heap.size := by have := hb6.size; omega
  have hU6 : ∀ j, j < 1 → (U j).in w6 := fun j hj => (unhide HU5 j hj).1.below hb6
  have hV6 : ∀ j, j < 1 → (redV g c j).in w6 := fun j hj => (unhide HVl5 j hj).below hb6
  have HSF := hide (sameFrames_any ta5 ta6 1 tc5 tc6 U (redV g c) w6 ((unhide HR5).below hb6) (unhide HR6) hU6 hV6 (fun j hj => by
    obtain ⟨a1, a2, a3, a4, a5⟩ := (unhide HU5 j hj).2
    exact ⟨a1, a2, a3, a4, fun k hk => (a5 k hk).trans rfl⟩) (by omega) (fun j hj => by
    rw [(unhide HU5 j hj).2.2.2.1]
    show 1 ≤ 100000
    omega))
  clear hown6 hb6 HU5 HVl5 HR5 HR6 HBk HB5 hz5 hU6 hV6
  go_wp2_with fail
  refine (unhide HSF).mono ?_
  rintro e w7 ⟨rfl, hb7⟩
  have HB7 := hide ((unhide HB6).trans (hb7.mono hz6))
  clear HSF hb7 HB6 hz6
  go_wp2
  go_ret
  exact ⟨rfl, unhide HB7⟩
end Go.Proofs.YtjcoahahponabaaGreatDoor
namespace Go.Proofs.YtjcoahahponabaaGreatDoor
open Go.ChangeShapes Go.WideShapes Go.RowKit Go.Deep

theorem all_memF {H : Type} {P : Program} {e : TypeId} : ∀ {l : List (DataW H)} {d : DataW H}, d ∈ l → ∀ n ∈ d.weights P e, n ∈ DataW.weightsAll P e l
  | x :: l, d, h, n, hn => by
    simp only [DataW.weightsAll, List.mem_append]
    rcases List.mem_cons.1 h with rfl | h
    · exact .inl hn
    · exact .inr (all_memF h n hn)
theorem reach47F : reachBytes ≤ 140737488355328 := Nat.le_of_lt reachBytes_lt

/-- Pixels that came in are not too many. -/
theorem open_px_fewF {H : Type} {enc : TypeId × Value → H} {w : World} {base : Nat} {spare : Nat → Bool} {held : Bool} {fuel : Nat} {a : Option Addr} {len cap : Nat} {x : DataW H × List MemPlace}
    (h : DataW.trod enc Tryz.prog w base spare held fuel 25 [.slice a len cap] = some x) (hwt : ∀ n ∈ x.1.weights Tryz.prog 25, n ≤ reachBytes) : len ≤ 140737488355328 := by
  rcases open_slice Tryz.underlying25 h with ⟨hcs, _⟩ | ⟨ad, l, c, m, n, D, Pl, hcs, _, hl, hm, hmm, hx, _⟩
  · simp at hcs; omega
  · simp at hcs
    obtain ⟨_, rfl, rfl⟩ := hcs
    have hb : Tryz.prog.bytesOf 78 = 4 := by kernel_rfl
    have h1 := hwt (len * 4 + (m - len) * 4) (by
      rw [hx]
      simp only [DataW.weights, Tryz.underlying25, List.mem_cons, hb, List.length_map, List.length_range]
      exact .inl (by omega))
    have := reach47F
    omega

theorem four_list {α : Type} (l : List α) (h : l.length = 4) : ∃ a b c d, l = [a, b, c, d] :=
  match l, h with
  | [a, b, c, d], _ => ⟨a, b, c, d, rfl⟩
theorem rf_cells : Tryz.prog.cellsOf 71 = 4 := by kernel_rfl
theorem cells_iF : Tryz.prog.cellsOf 3 = 1 := by kernel_rfl
theorem cells_pF : Tryz.prog.cellsOf 27 = 3 := by kernel_rfl
theorem cells_psF : Tryz.prog.cellsOf 25 = 1 := by kernel_rfl

set_option maxRecDepth 100000 in
set_option maxHeartbeats 2000000 in
/-- A frame that came in. -/
theorem open_frame {H : Type} {enc : TypeId × Value → H} {w : World} {base : Nat} {spare : Nat → Bool} {held : Bool} {fuel : Nat} {cs : List Value} {x : DataW H × List MemPlace}
    (h : DataW.trod enc Tryz.prog w base spare held fuel 71 cs = some x) :
    ∃ V : FrV, cs = V.cells ∧ V.in w ∧ ((∀ n ∈ x.1.weights Tryz.prog 71, n ≤ reachBytes) → V.f.n ≤ 140737488355328) := by
  obtain ⟨xs, n, _, rfl, hl, hlen, hf⟩ := DataW.trod_struct Tryz.underlying71 h
  rw [rf_cells] at hl
  obtain ⟨v0, v1, v2, v3, rfl⟩ := four_list cs hl
  match xs, hlen with
  | [y0, y1], _ =>
    have g0 := hf 0 _ rfl
    have g1 := hf 1 _ rfl
    simp [cells_iF, cells_pF] at g0 g1
    obtain ⟨z0, z1, z2, k, hz, _, j0, j1, j2⟩ := trod_struct3 Tryz.underlying27 g0
    simp [cells_iF, cells_psF] at j0 j1 j2
    obtain ⟨n0, e0, _, _⟩ := DataW.trod_int Tryz.underlying3 j0
    obtain ⟨n1, e1, _, _⟩ := DataW.trod_int Tryz.underlying3 j1
    obtain ⟨n3, e3, _, _⟩ := DataW.trod_int Tryz.underlying3 g1
    have hsl : ∃ a len cap, v2 = .slice a len cap := by
      rcases open_slice Tryz.underlying25 j2 with ⟨hcs, _⟩ | ⟨x, l, c, m, n, D, Pl, hcs, _⟩
      · simp at hcs
        exact ⟨_, _, _, hcs⟩
      · simp at hcs
        exact ⟨_, _, _, hcs⟩
    obtain ⟨a, len, cap, rfl⟩ := hsl
    obtain ⟨q, hq⟩ := open_px j2
    simp only [List.cons.injEq, and_true] at e0 e1 e3
    subst e0 e1 e3
    refine ⟨⟨⟨n0, n1, len, q, n3⟩, a, cap⟩, rfl, hq, fun hw => ?_⟩
    refine open_px_fewF j2 (fun m hm => hw m ?_)
    simp only [List.map_cons, List.map_nil, DataW.weights, Tryz.underlying71, DataW.weightsEach, List.mem_append, hz, Tryz.underlying27]
    simp [hm]

/-- Frames that lie there, with their pixels. -/
def IsFr (w : World) (s : Option Addr) (n : Nat) (V : Nat → FrV) : Prop := IsRw w 4 s n (fun i => (V i).cells) ∧ ∀ i, i < n → (V i).in w

set_option maxRecDepth 100000 in
set_option maxHeartbeats 2000000 in
/-- Frames that came in. -/
theorem open_frames {H : Type} {enc : TypeId × Value → H} {w : World} {base : Nat} {spare : Nat → Bool} {held : Bool} {fuel : Nat} {s : Option Addr} {len cap : Nat} {x : DataW H × List MemPlace}
    (h : DataW.trod enc Tryz.prog w base spare held fuel 55 [.slice s len cap] = some x) (hwt : ∀ n ∈ x.1.weights Tryz.prog 55, n ≤ reachBytes) :
    ∃ V : Nat → FrV, IsFr w s len V ∧ (len ≤ maxLen ∧ ∀ i, i < len → (V i).f.n ≤ 140737488355328) := by
  rcases open_slice Tryz.underlying55 h with ⟨hcs, _⟩ | ⟨ad, l, c, m, n, D, Pl, hcs, _, hl, hm, hmm, hx, hel⟩
  · simp at hcs
    exact ⟨fun _ => default, ⟨.inl hcs.2.1, fun i hi => by omega⟩, by rw [hcs.2.1]; unfold maxLen; omega, fun i hi => by omega⟩
  simp at hcs
  obtain ⟨rfl, rfl, rfl⟩ := hcs
  have hlm : len ≤ m := by rw [hmm]; split <;> omega
  by_cases h0 : len = 0
  · exact ⟨fun _ => default, ⟨.inl h0, fun i hi => by omega⟩, by rw [h0]; unfold maxLen; omega, fun i hi => by omega⟩
  have each : ∀ i, i < len → ∃ r : FrV, (∀ j, j < 4 → w.cell? (ad.add (i * 4 + j)) = r.cells[j]?) ∧ r.in w ∧ r.f.n ≤ 140737488355328 := by
    intro i hi
    obtain ⟨cs', h1, h2⟩ := hel i (by omega)
    rw [rf_cells] at h1
    obtain ⟨_, hlen, hcell⟩ := World.cells?_some h1
    obtain ⟨V, rfl, hp, hw⟩ := open_frame h2
    refine ⟨V, fun j hj => ?_, hp, hw (fun k hk => hwt k ?_)⟩
    · have k0 := hcell j (by omega)
      rw [add_add] at k0
      rw [k0, List.getElem?_eq_getElem (by omega)]
    · rw [hx]
      simp only [DataW.weights, Tryz.underlying55, List.mem_cons, List.mem_append]
      exact .inr (.inl (all_memF (List.mem_map.2 ⟨i, List.mem_range.2 hi, rfl⟩) k hk))
  obtain ⟨r, hr⟩ := choose_lt each
  obtain ⟨b, off, spot⟩ := ad
  have hspot : spot = none := by
    have := (hr 0 (by omega)).1 0 (by omega)
    simpa [Addr.add, FrV.cells] using World.cell?_spot (v := .int .i64 (r 0).f.W) (by simpa [Addr.add, FrV.cells] using this)
  subst hspot
  have hadd : ∀ j, (⟨b, off, none⟩ : Addr).add j = ⟨b, off + j, none⟩ := fun j => by unfold Addr.add; split <;> simp_all
  refine ⟨r, ⟨.inr ⟨b, off, rfl, by omega, fun i hi j u hu => ?_⟩, fun i hi => (hr i hi).2.1⟩, by omega, fun i hi => (hr i hi).2.2⟩
  have hj : j < 4 := (List.getElem?_eq_some_iff.1 hu).1
  have := (hr i hi).1 j hj
  rw [hadd, ← Nat.add_assoc] at this
  rw [this]
  exact hu
end Go.Proofs.YtjcoahahponabaaGreatDoor
