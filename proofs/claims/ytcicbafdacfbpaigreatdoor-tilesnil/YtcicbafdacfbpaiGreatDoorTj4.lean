/- Tiles in which two grids of one size are unlike: the program's. -/
import Derived.Test.YtcicbafdacfbpaiGreatDoorTj3
namespace Go.Proofs.YtcicbafdacfbpaiGreatDoor
open Go.RowKit

/-- Numbers in a row. -/
def IsNT (w : World) (a : Option Addr) (l : List Nat) : Prop := l = [] ∨ ∃ b, a = some ⟨b, 0, none⟩ ∧ ∀ i, i < l.length → w.cell? ⟨b, i, none⟩ = some (.int .i64 (l.getD i 0 : Int))
theorem own_nt {w : World} {B cap : Nat} {a : Option Addr} {l : List Nat} (h : w.ownsRow B 3 1 (.slice a l.length cap) l.length (nV l)) : IsNT w a l := by
  by_cases h0 : l.length = 0
  · exact .inl (List.length_eq_zero_iff.1 h0)
  · rcases h.2 with ⟨_, q⟩ | ⟨g, cap', cur, hv, _⟩
    · exact absurd q h0
    · injection hv with hv _ _
      subst hv
      refine .inr ⟨g, rfl, fun i hi => ?_⟩
      rw [h.cellAt i (by omega)]
      exact nV_at l i hi
theorem IsNT.below {w w' : World} {a : Option Addr} {l : List Nat} (h : IsNT w a l) (hb : Below w.heap.size w w') : IsNT w' a l := by
  rcases h with h | ⟨b, ha, h⟩
  · exact .inl h
  · exact .inr ⟨b, ha, fun i hi => (hb.cell (p := ⟨b, i, none⟩) (World.block_lt_of_cell? _ _ (h i hi))).trans (h i hi)⟩

theorem own_shapeT {w : World} {base size n : Nat} {e : TypeId} {v : Value} {xs : List Value} (h : w.ownsRow base e size v n xs) : ∃ a c, v = .slice a n c := by
  rcases h.2 with ⟨rfl, rfl⟩ | ⟨g, c, cur, rfl, _⟩
  · exact ⟨none, 0, rfl⟩
  · exact ⟨_, c, rfl⟩
/-- Are the i-th tiles unlike? -/
def unlT (m m' : Nat → Nat) (q q' : Nat → Nat → Px) (i : Nat) : Bool := decide (¬ SameR (m i) (q i) (m' i) (q' i))
theorem take_snocT (l : List Nat) (i : Nat) (h : i < l.length) : l.take (i + 1) = l.take i ++ [l.getD i 0] := by
  rw [List.take_add_one]
  simp [List.getElem?_eq_getElem h]

set_option maxHeartbeats 4000000 in
set_option maxRecDepth 100000 in
theorem changed_one (g h W H : Nat) (m m' : Nat → Nat) (q q' : Nat → Nat → Px) (w : World) (hG : GridAt w g W H m q) (hH : GridAt w h W H m' q') (h0 : 0 < tn W H) (hN : tn W H ≤ 256) (hm : ∀ i, i < tn W H → m i ≤ 100000) (hm' : ∀ i, i < tn W H → m' i ≤ 100000) :
    Calls Tryz.prog 21 #[.pointer (some ⟨g, 0, none⟩), .pointer (some ⟨h, 0, none⟩)] w fun e w' => ∃ a c, e = .returned (.tuple #[.slice a (fnd (unlT m m' q q') (tn W H)).length c, .nilIface]) ∧ IsR w' a W H (fnd (unlT m m' q q') (tn W H)) ∧ Below w.heap.size w w' := by
  have HA := hide (al2 w (.cells #[.pointer (some ⟨g, 0, none⟩)] 28) (.cells #[.pointer (some ⟨h, 0, none⟩)] 28))
  have HN : Hid (∀ wx x, x = g ∨ x = h → Below w.heap.size w wx → Calls Tryz.prog 35 #[.pointer (some ⟨x, 0, none⟩)] wx fun e w' => e = .returned (.bool false) ∧ w' = wx) := fun wx x hx hb => by
    rcases hx with rfl | rfl
    · exact isNone_some _ W H m q wx (hG.below hb) h0
    · exact isNone_some _ W H m' q' wx (hH.below hb) h0
  have HS : Hid (∀ wx k, Below w.heap.size w wx → wx.heap[k]? = some (.cells #[.pointer (some ⟨g, 0, none⟩)] 28) → wx.heap[k + 1]? = some (.cells #[.pointer (some ⟨h, 0, none⟩)] 28) → Calls Tryz.prog 49 #[.pointer (some ⟨g, 0, none⟩), .func (.func 50) #[] #[.pointer (some ⟨k, 0, none⟩), .pointer (some ⟨k + 1, 0, none⟩)]] wx fun e w' => ∃ a c, e = .returned (.slice a (fnd (unlT m m' q q') (tn W H)).length c) ∧ w'.ownsRow wx.heap.size 3 1 (.slice a (fnd (unlT m m' q q') (tn W H)).length c) (fnd (unlT m m' q q') (tn W H)).length (nV (fnd (unlT m m' q q') (tn W H))) ∧ Below wx.heap.size wx w') := fun wx k hb k0 k1 =>
    search_any g W H 50 _ (unlT m m' q q') m q wx (hG.below hb) hN (fun args w => by kernel_rfl) (fun i wr hi hb2 => changedC_any k (k + 1) g h W H i m m' q q' wr (blk_below k0 hb2 (blk_lt k0)) (blk_below k1 hb2 (blk_lt k1)) ((hG.below hb).below hb2) ((hH.below hb).below hb2) hi (hm i hi) (hm' i hi))
  obtain ⟨t, c, h1, hc1, hc2, htl⟩ := hG
  obtain ⟨s, d, i1, _⟩ := hH
  have hgl := blk_lt h1
  have hhl := blk_lt i1
  have HTL := hide (fun k (hk : k < tn W H) wx (hb : Below w.heap.size w wx) => (htl k hk).below hb)
  have HFL : Hid (∀ i, i ∈ fnd (unlT m m' q q') (tn W H) → i < tn W H) := fun i hi => (fnd_lt hi).1
  have hfl := fnd_length (unlT m m' q q') (tn W H)
  generalize fnd (unlT m m' q q') (tn W H) = fl at *
  obtain ⟨B, hB⟩ : ∃ B, B = w.heap.size := ⟨_, rfl⟩
  clear htl
  go_enter Tryz.func21, Tryz.ntmps21
  go_wp2
  generalize (w.alloc (.cells #[.pointer (some ⟨g, 0, none⟩)] 28)).alloc (.cells #[.pointer (some ⟨h, 0, none⟩)] 28) = w1 at *
  rw [← hB] at HA HN HS HTL hgl hhl ⊢
  obtain ⟨hs1, k0, k1, hb1⟩ := unhide HA
  have c0 : w1.cell? ⟨B, 0, none⟩ = some (.pointer (some ⟨g, 0, none⟩)) := blk_cell k0 0
  have c1 : w1.cell? ⟨B + 1, 0, none⟩ = some (.pointer (some ⟨h, 0, none⟩)) := blk_cell k1 0
  have hl0 := blk_lt k0
  have hl1 := blk_lt k1
  have h1' := blk_below h1 hb1 hgl
  have i1' := blk_below i1 hb1 hhl
  have g0 : w1.cell? ⟨g, 0, none⟩ = some (.int .i64 (W : Int)) := blk_cell h1' 0
  have g1 : w1.cell? ⟨g, 1, none⟩ = some (.int .i64 (H : Int)) := blk_cell h1' 1
  have e0 : w1.cell? ⟨h, 0, none⟩ = some (.int .i64 (W : Int)) := blk_cell i1' 0
  have e1 : w1.cell? ⟨h, 1, none⟩ = some (.int .i64 (H : Int)) := blk_cell i1' 1
  have HB1 := hide (fun n1 => belowD (n := n1) hb1)
  have HBE := hide hB
  have HK0 := hide k0
  have HK1 := hide k1
  have HGR := hide h1'
  clear HA k0 k1 hB h1 i1 h1' i1' hgl hhl
  go_quiet (first | (go_at_call 35; exact Calls.quiet_of_same (unhide HN _ _ (by first | exact .inl rfl | exact .inr rfl) (unhide HB1 _))))
  go_wp2_with fail
  have hbq : ∀ n, Below w1.heap.size w1 (w1.drewN n) := fun n => belowD (Below.refl _ _)
  have HB2 := hide (belowD (n := nq) hb1)
  have hK0 := blk_below (unhide HK0) (hbq nq) (blk_lt (unhide HK0))
  have hK1 := blk_below (unhide HK1) (hbq nq) (blk_lt (unhide HK1))
  have hG2 := blk_below (unhide HGR) (hbq nq) (blk_lt (unhide HGR))
  have hs2 : (w1.drewN nq).heap.size = B + 2 := hs1
  have HSS := hide (unhide HS (w1.drewN nq) B (unhide HB2) hK0 hK1)
  generalize w1.drewN nq = w2 at *
  refine (unhide HSS).mono ?_
  rintro e w3 ⟨av, ac, rfl, hown, hb3⟩
  have HIN := hide (own_nt hown)
  have HK3 := hide (blk_below hK0 hb3 (blk_lt hK0))
  have HG3 := hide (blk_below hG2 hb3 (blk_lt hG2))
  have HB3 := hide ((unhide HB2).trans (hb3.mono (by omega)))
  have hs3 := hb3.size
  have HO3 : Hid (w3.ownsRow w3.heap.size 37 4 (.slice none 0 0) 0 (rectL W H (fl.take 0))) := World.ownsRow_nil _ _ _ _
  have HW3 := hide (Below.refl w3.heap.size w3)
  clear hown hb3 hK0 hK1 hG2 HSS HS HK0 HK1 HGR HB2 hbq hb1 HB1 HN c0 c1 g0 g1 e0 e1
  go_wp2
  go_loopw [6, 42] (fun lv iv wr => ∃ i : Nat, i ≤ fl.length ∧ iv = .int .i64 (i : Int) ∧ Hid (wr.ownsRow w3.heap.size 37 4 lv i (rectL W H (fl.take i))) ∧ Hid (Below w3.heap.size w3 wr)) (fun _ iv _ => fl.length - (intOf iv).toNat)
  case atStart => exact ⟨0, Nat.zero_le _, rfl, HO3, HW3⟩
  case round =>
    clear HO3 HW3
    obtain ⟨i, hi, rfl, HO, HW⟩ := hrel
    by_cases hlt : i < fl.length
    · have d1 : decide ((i : Int) < (fl.length : Int)) = true := decide_eq_true (by omega)
      have d1n : decide (i < fl.length) = true := decide_eq_true hlt
      obtain ⟨x, hx⟩ : ∃ x, x = fl.getD i 0 := ⟨_, rfl⟩
      have hxm : x ∈ fl := by rw [hx, List.getD_eq_getElem?_getD, List.getElem?_eq_getElem hlt]; exact List.getElem_mem hlt
      have hxn := unhide HFL x hxm
      obtain ⟨b, rfl, hcells⟩ := ((unhide HIN).below (unhide HW)).resolve_left (fun e => by rw [e] at hlt; simp at hlt)
      have n0 := hcells i hlt
      rw [← hx] at n0
      obtain ⟨ta, tcp, t0, t1, t2, t3, _⟩ := (unhide HTL x hxn wr ((unhide HB3).trans ((unhide HW).mono (by omega))))
      have hgr := blk_below (unhide HG3) (unhide HW) (blk_lt (unhide HG3))
      have hk3 := blk_below (unhide HK3) (unhide HW) (blk_lt (unhide HK3))
      have c0 : wr.cell? ⟨B, 0, none⟩ = some (.pointer (some ⟨g, 0, none⟩)) := blk_cell hk3 0
      have g2 : wr.cell? ⟨g, 2, none⟩ = some (.slice (some ⟨t, 0, none⟩) (tn W H) c) := blk_cell hgr 2
      have hxi : (x : Int) < (tn W H : Int) := by omega
      have hii : (i : Int) < (fl.length : Int) := by omega
      have HQ := hide (al1 wr (.cells #[.int .i64 (tx W x : Int), .int .i64 (ty W x : Int), .int .i64 (tw W x : Int), .int .i64 (th W H x : Int)] 37))
      have HOB := hide ((unhide HO).alloc (.cells #[.int .i64 (tx W x : Int), .int .i64 (ty W x : Int), .int .i64 (tw W x : Int), .int .i64 (th W H x : Int)] 37))
      obtain ⟨lv, lc, rfl⟩ := own_shapeT (unhide HO)
      have HTK : Hid (fl.take (i + 1) = fl.take i ++ [x]) := by show _ = _; rw [hx]; exact take_snocT fl i hlt
      have hll : (fl.take i).length = i := by rw [List.length_take]; omega
      have hsw := (unhide HW).size
      generalize tn W H = n at *
      have HGX := hide (show True from trivial)
      clear hx hcells hgr hk3 HO
      go_wp2_with (at_builtin; refine wpList_appR _ rfl (.tmp 46) (.tmp 55) rfl rfl w3.heap.size wr.heap.size W H x (.slice lv i lc) (fl.take i) i hll rfl rfl (unhide HOB) (unhide HQ).k0 (by omega) (by have := (unhide HQ).size; omega) ?_)
      intro gb cp w6 ho6 hg6
      have HW6 : Hid (Below w3.heap.size w3 w6) := ((unhide HW).trans ((unhide HQ).below.mono hsw)).grown hg6 (by have := (unhide HQ).size; omega) (fun b e => ((unhide HOB).lt b e).1)
      have HO6 : Hid (w6.ownsRow w3.heap.size 37 4 (.slice (some ⟨gb, 0, none⟩) (i + 1) cp) (i + 1) (rectL W H (fl.take (i + 1)))) := by rw [unhide HTK]; exact ho6
      clear ho6 hg6 HOB HQ HTK n0 t0 t1 t2 t3 c0 g2 HGX HW
      go_wp2
      go_roundw
      case rel => exact ⟨i + 1, by omega, by go_num, HO6, HW6⟩
      case measure => simp [intOf]; omega
    · obtain rfl : i = fl.length := by omega
      have d1 : decide ((fl.length : Int) < (fl.length : Int)) = false := by simp
      obtain ⟨lv, lc, rfl⟩ := own_shapeT (unhide HO)
      have HF : Hid (IsR wr lv W H fl) := by
        have := unhide HO
        rw [List.take_length] at this
        exact own_R this
      have HFB := hide ((unhide HB3).trans ((unhide HW).mono (by omega)))
      clear HO
      go_wp2
      go_ret2
      rw [← unhide HBE]
      exact ⟨lv, lc, rfl, unhide HF, unhide HFB⟩
end Go.Proofs.YtcicbafdacfbpaiGreatDoor
