/- Walk: a row done, behind what is done: the program's. -/
import Derived.Test.YtmmilamaahmaoafDoorFb
import Derived.Test.YtmmilamaahmaoafDoorAp
import Derived.Test.YtmmilamaahmaoafDoorStc
import Derived.Test.YtmmilamaahmaoafDoorBu
import Derived.Deep.RegionLaw
namespace Go.Proofs.YtmmilamaahmaoafDoor
open Go.RowKit

theorem Byt.but {S : Nat → Prop} {w w' : World} {a : Option Addr} {l : List UInt8} (h : Byt w a l) (hb : But S w w') (ha : ∀ p, a = some p → ¬ S p.block) : Byt w' a l := fun j hj => by
  obtain ⟨g, o, rfl, hc⟩ := h j hj
  exact ⟨g, o, rfl, (hb.cell (p := ⟨g, o + j, none⟩) (World.block_lt_of_cell? _ _ hc) (ha ⟨g, o, none⟩ rfl)).trans hc⟩

theorem one_newF (w : World) (v : Value) (t : TypeId) : (w.alloc (.cells #[v] t)).cell? ⟨w.heap.size, 0, none⟩ = some v := by simp
theorem less_u8 (x g : Nat) (hx : x < 256) (hg : g < 256) : ((Fil.less x g).toNat : Int) = ((x : Int) - (g : Int)) % 256 := by
  unfold Fil.less
  rw [UInt8.toNat_ofNat']
  omega

set_option maxHeartbeats 4000000 in
set_option maxRecDepth 100000 in
theorem do_any (k : Nat) (hk : k ≤ 4) (d row ahead : List UInt8) (dv : Value) (ra aa : Option Addr) (rc ac s base : Nat) (w : World) (hown : w.ownsRow base 5 1 dv d.length (byteVals d)) (hbase : base ≤ w.heap.size) (hr : Byt w ra row) (ha : Byt w aa ahead)
    (hra : ∀ p, ra = some p → dv.ownBlock ≠ some p.block ∧ p.block < w.heap.size) (haa : ∀ p, aa = some p → dv.ownBlock ≠ some p.block ∧ p.block < w.heap.size) (hs : 1 ≤ s) (hs8 : s ≤ 8)
    (hl : ahead = [] ∨ ahead.length = row.length) (hlen : row.length ≤ 300000) (hd : d.length ≤ 600000) :
    Calls Tryd.prog 15 #[dv, .int .i64 (k : Int), .slice ra row.length rc, .slice aa ahead.length ac, .int .i64 (s : Int)] w fun e w' => ∃ v', e = .returned v' ∧ w'.ownsRow base 5 1 v' (d ++ Fil.row k row ahead s row.length).length (byteVals (d ++ Fil.row k row ahead s row.length)) ∧ But (fun q => dv.ownBlock = some q) w w' ∧ (v'.ownBlock = dv.ownBlock ∨ ∃ q, v'.ownBlock = some q ∧ w.heap.size ≤ q) := by
  obtain ⟨da, dc, rfl, _⟩ := own_shape hown
  have entF : ∀ args w, (callFunc 26 args).run Tryd.prog w = .ok (.enter 26 args) w := enters_of Tryd.func26 (by kernel_rfl) rfl
  have HO := hide hown
  have HR := hide hr
  have HA := hide ha
  have HRA := hide hra
  have HAA := hide haa
  clear hown hr ha hra haa
  go_enter Tryd.func15, Tryd.ntmps15
  go_wp2
  go_loopw [0, 14] (fun v i wr => ∃ (j : Nat) (a : Option Addr) (n c : Nat), j ≤ row.length ∧ i = .int .i64 (j : Int) ∧ v = .slice a n c ∧ n = d.length + j ∧ Hid (wr.ownsRow base 5 1 (.slice a n c) n (byteVals (d ++ Fil.row k row ahead s j))) ∧ Hid (But (fun q => (Value.slice da d.length dc).ownBlock = some q) w wr) ∧ Hid ((Value.slice a n c).ownBlock = (Value.slice da d.length dc).ownBlock ∨ ∃ q, (Value.slice a n c).ownBlock = some q ∧ w.heap.size ≤ q)) (fun _ i _ => row.length - (intOf i).toNat)
  case atStart => exact ⟨0, da, d.length, dc, by omega, rfl, rfl, rfl, by simpa [Fil.row] using HO, But.refl _ _, .inl rfl⟩
  case round =>
    obtain ⟨j, va, vn, vc, hj, rfl, rfl, rfl, HOr, HBr, HAt⟩ := hrel
    by_cases hlt : j < row.length
    · have d1 : decide ((j : Int) < (row.length : Int)) = true := by simp; omega
      have hji : (j : Int) < (row.length : Int) := by omega
      have hr1 : Byt wr ra row := (unhide HR).but (unhide HBr) (fun p e => (unhide HRA p e).1)
      have ha1 : Byt wr aa ahead := (unhide HA).but (unhide HBr) (fun p e => (unhide HAA p e).1)
      have HC : Hid (∀ w', w'.heap = wr.heap → Calls Tryd.prog 26 #[.int .i64 (k : Int), .slice ra row.length rc, .slice aa ahead.length ac, .int .i64 (j : Int), .int .i64 (s : Int)] w' fun e w'' => e = .returned (.int .u8 (Fil.fore k row ahead j s : Int)) ∧ w'' = w') := fun w' hw => by
        have e : ∀ p, w'.cell? p = wr.cell? p := fun p => by unfold World.cell?; rw [hw]
        refine foretold_any k hk row ahead ra aa rc ac j s w' (fun i hi => ?_) (fun i hi => ?_) hlt hs hs8 hl hlen
        · obtain ⟨g, o, h1, h2⟩ := hr1 i hi
          exact ⟨g, o, h1, (e _).trans h2⟩
        · obtain ⟨g, o, h1, h2⟩ := ha1 i hi
          exact ⟨g, o, h1, (e _).trans h2⟩
      obtain ⟨g, o, rfl, hc⟩ := hr1 j hlt
      have hfl := Fil.fore_lt k row ahead j s
      have HX : Hid (Fil.row k row ahead s (j + 1) = Fil.row k row ahead s j ++ [Fil.less (Fil.at0 row j) (Fil.fore k row ahead j s)]) := rfl
      rw [Fil.at0_get row j hlt] at HX
      have hx := row[j].toNat_lt
      have hrl := Fil.row_length k row ahead s j
      generalize Fil.fore k row ahead j s = f at *
      generalize row[j].toNat = x at *
      have hlu := less_u8 x f hx hfl
      generalize Fil.less x f = b at *
      obtain ⟨l, hld⟩ : ∃ l, l = d ++ Fil.row k row ahead s j := ⟨_, rfl⟩
      have hll : l.length = d.length + j := by rw [hld, List.length_append, hrl]
      have HX2 : Hid (d ++ Fil.row k row ahead s (j + 1) = l ++ [b]) := by
        show _ = _
        rw [unhide HX, hld, List.append_assoc]
      rw [← hld] at HOr
      rw [← hll] at HOr HAt ⊢
      have hbz := (unhide HBr).size
      have hza : (wr.drew.alloc (.cells #[.int .u8 (b.toNat : Int)] 5)).heap.size = wr.heap.size + 1 := by show (wr.drew.alloc _).heap.size = wr.drew.heap.size + 1; simp
      have HOa := hide ((unhide HOr).drew.alloc (.cells #[.int .u8 (b.toNat : Int)] 5))
      have cq : (wr.drew.alloc (.cells #[.int .u8 (b.toNat : Int)] 5)).cell? ⟨wr.heap.size, 0, none⟩ = some (.int .u8 (b.toNat : Int)) := by
        exact one_newF wr.drew _ _
      have hwu : IntKind.u8.wrap ((x : Int) - (f : Int)) = (b.toNat : Int) := by rw [hlu]; rfl
      have hl6 : l.length ≤ 1000000 := by omega
      have Hld := hide hld
      have Hll := hide hll
      have HBD := hide hbz
      have hba : base ≤ wr.heap.size + 1 := by omega
      clear hlu hld hll hr1 ha1 hrl HX hbz
      go_wp2_with fail
      go_region_law (first
        | (refine step_calls rfl 26 [.tmp 22, .tmp 23, .tmp 24, .tmp 25, .tmp 26] #[3, 38, 38, 3, 3] rfl [.int .i64 (k : Int), .slice (some ⟨g, o, none⟩) row.length rc, .slice aa ahead.length ac, .int .i64 (j : Int), .int .i64 (s : Int)] (by first | (simp [Act.eval]; done) | (simp [Act.eval, Act.put]; done)) entF ?_; refine (unhide HC wr.drew rfl).mono ?_; rintro e w1 ⟨rfl, rfl⟩; refine .inl ⟨_, rfl, ?_⟩)
        | (refine step_appB rfl (.tmp 17) (.tmp 29) rfl base wr.heap.size (.slice va l.length vc) l b (by first | (simp [Act.eval]; done) | (simp [Act.eval, Act.put]; done)) (by first | (simp [Act.eval]; done) | (simp [Act.eval, Act.put]; done)) (unhide HOa) cq hl6 (by show base ≤ (wr.drew.alloc _).heap.size; rw [hza]; exact hba) ?_; intro v2 w3 hown2 hgr2 hat2; obtain ⟨a2, c2, rfl, _⟩ := own_shape hown2))
      all_goals
        rw [show (l ++ [b]).length = l.length + 1 by simp] at hown2 hat2
        have HO3 : Hid (w3.ownsRow base 5 1 (.slice a2 (l.length + 1) c2) (l.length + 1) (byteVals (d ++ Fil.row k row ahead s (j + 1)))) := by rw [unhide HX2]; exact hown2
        have HB3 : Hid (But (fun q => (Value.slice da d.length dc).ownBlock = some q) w w3) := by
          refine ((unhide HBr).alloc _).drew.grown hgr2 (fun q e hq => ?_)
          rcases unhide HAt with h1 | ⟨q', h1, h2⟩
          · rw [← h1]; exact e
          · rw [e] at h1
            injection h1 with h1
            omega
        have HA3 : Hid ((Value.slice a2 (l.length + 1) c2).ownBlock = (Value.slice da d.length dc).ownBlock ∨ ∃ q, (Value.slice a2 (l.length + 1) c2).ownBlock = some q ∧ w.heap.size ≤ q) := by
          rcases hat2 with h1 | h1
          · rw [h1]; exact unhide HAt
          · refine .inr ⟨_, h1, ?_⟩
            have := unhide HBD
            show w.heap.size ≤ (wr.drew.alloc _).heap.size
            omega
        clear hown2 hgr2 hat2
        go_wp2
        go_roundw
        case rel => exact ⟨j + 1, a2, l.length + 1, c2, by omega, by go_num, rfl, by have := unhide Hll; omega, HO3, HB3, HA3⟩
        case measure => simp [intOf]; omega
    · have : j = row.length := by omega
      subst this
      have d1 : decide ((row.length : Int) < (row.length : Int)) = false := by simp
      have hrl := Fil.row_length k row ahead s row.length
      go_wp2
      go_ret
      refine ⟨_, rfl, ?_, unhide HBr, unhide HAt⟩
      rw [List.length_append, hrl]
      exact unhide HOr
end Go.Proofs.YtmmilamaahmaoafDoor
