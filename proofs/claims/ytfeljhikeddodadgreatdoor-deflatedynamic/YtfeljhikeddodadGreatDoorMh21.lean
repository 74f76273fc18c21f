/- Walks of the program's look at tokens. Walk of the program's measure of tokens. Walk of the program's tokens expanded. Walks: ofTokens at a dynamic block, Dynamic. Walks of the closed fact of three bits, and of the writer that goes on to a whole byte. Walks of the getting of bits. Walks of the reader of bits: nothing else is turned. A reader of bits goes on to a whole byte; all else is as it was. -/
import Derived.Test.YtfeljhikeddodadGreatDoorMh17
import Derived.WalkLawsBesides
import Derived.WalkSpells
import Derived.Handy
import Derived.Below
import Derived.Deep.LoopGhost
import Derived.BigRegion
import Derived.Test.YtfeljhikeddodadGreatDoorMh5
import Derived.OwnWalk
import Derived.Test.YtfeljhikeddodadGreatDoorMh20
import Derived.Test.YtfeljhikeddodadGreatDoorMh4
namespace Go.Proofs.YtfeljhikeddodadGreatDoor
open Go.RowKit

/-- A byte, or a match. -/
def Shp (b : Nat) (l d : Int) : Prop := if l = 0 then d = 0 else b = 0 ∧ (3 ≤ l ∧ l ≤ 258) ∧ 1 ≤ d ∧ d ≤ 32768
instance (b : Nat) (l d : Int) : Decidable (Shp b l d) := by unfold Shp; infer_instance
theorem ret_bool {a b : Bool} (h : a = b) : Ending.returned (.bool a) = .returned (.bool b) := by rw [h]
set_option maxHeartbeats 2000000 in
theorem shaped_any (b : Nat) (l d : Int) (w : World) :
    Calls Tryz.prog 136 #[.agg #[.int .u8 (b : Int), .int .i64 l, .int .i64 d]] w fun e w' => e = .returned (.bool (decide (Shp b l d))) ∧ Below w.heap.size w w' := by
  have hb : Below w.heap.size w (w.alloc (.cells #[.int .u8 (b : Int), .int .i64 l, .int .i64 d] 51)) := (Below.refl _ _).alloc (Nat.le_refl _) _
  have HB := hide hb
  clear hb
  by_cases h0 : l = 0
  · subst h0
    by_cases h1 : d = 0
    · subst h1
      have HX : Hid (decide (Shp b 0 0) = true) := by show _ = _; simp [Shp]
      go_enter Tryz.func136, Tryz.ntmps136
      go_wp2
      go_ret
      exact ⟨ret_bool (unhide HX).symm, unhide HB⟩
    · have g1 : (d == 0) = false := by simpa using h1
      have HX : Hid (decide (Shp b 0 d) = false) := by show _ = _; simp [Shp, h1]
      go_enter Tryz.func136, Tryz.ntmps136
      go_wp2
      go_ret
      exact ⟨ret_bool (unhide HX).symm, unhide HB⟩
  · have g0 : (l == 0) = false := by simpa using h0
    by_cases hb0 : b = 0
    · subst hb0
      by_cases h1 : 3 ≤ l
      · have e1 : decide (3 ≤ l) = true := by simpa using h1
        have e1' : decide (l ≥ 3) = true := e1
        by_cases h2 : l ≤ 258
        · have e2 : decide (l ≤ 258) = true := by simpa using h2
          by_cases h3 : 1 ≤ d
          · have e3 : decide (1 ≤ d) = true := by simpa using h3
            have e3' : decide (d ≥ 1) = true := e3
            by_cases h4 : d ≤ 32768
            · have e4 : decide (d ≤ 32768) = true := by simpa using h4
              have HX : Hid (decide (Shp 0 l d) = true) := by show _ = _; simp [Shp, h0]; omega
              clear h0 h1 h2 h3 h4
              go_enter Tryz.func136, Tryz.ntmps136
              go_wp2
              go_ret
              exact ⟨ret_bool (unhide HX).symm, unhide HB⟩
            · have e4 : decide (d ≤ 32768) = false := by simpa using h4
              have HX : Hid (decide (Shp 0 l d) = false) := by show _ = _; simp [Shp, h0]; omega
              clear h0 h1 h2 h3 h4
              go_enter Tryz.func136, Tryz.ntmps136
              go_wp2
              go_ret
              exact ⟨ret_bool (unhide HX).symm, unhide HB⟩
          · have e3 : decide (1 ≤ d) = false := by simpa using h3
            have e3' : decide (d ≥ 1) = false := e3
            have HX : Hid (decide (Shp 0 l d) = false) := by show _ = _; simp [Shp, h0]; omega
            clear h0 h1 h2 h3
            go_enter Tryz.func136, Tryz.ntmps136
            go_wp2
            go_ret
            exact ⟨ret_bool (unhide HX).symm, unhide HB⟩
        · have e2 : decide (l ≤ 258) = false := by simpa using h2
          have HX : Hid (decide (Shp 0 l d) = false) := by show _ = _; simp [Shp, h0]; omega
          clear h0 h1 h2
          go_enter Tryz.func136, Tryz.ntmps136
          go_wp2
          go_ret
          exact ⟨ret_bool (unhide HX).symm, unhide HB⟩
      · have e1 : decide (3 ≤ l) = false := by simpa using h1
        have e1' : decide (l ≥ 3) = false := e1
        have HX : Hid (decide (Shp 0 l d) = false) := by show _ = _; simp [Shp, h0]; omega
        clear h0 h1
        go_enter Tryz.func136, Tryz.ntmps136
        go_wp2
        go_ret
        exact ⟨ret_bool (unhide HX).symm, unhide HB⟩
    · have g1 : ((b : Int) == 0) = false := by simp; omega
      have HX : Hid (decide (Shp b l d) = false) := by show _ = _; simp [Shp, h0, hb0]
      clear h0 hb0
      go_enter Tryz.func136, Tryz.ntmps136
      go_wp2
      go_ret
      exact ⟨ret_bool (unhide HX).symm, unhide HB⟩
theorem bytesOf_any (b : Nat) (l d : Int) (w : World) (n : Int) (hn : n = if l = 0 then 1 else l) (hl : 0 ≤ l) :
    Calls Tryz.prog 90 #[.agg #[.int .u8 (b : Int), .int .i64 l, .int .i64 d]] w fun e w' => e = .returned (.int .i64 n) ∧ Below w.heap.size w w' := by
  have hb : Below w.heap.size w (w.alloc (.cells #[.int .u8 (b : Int), .int .i64 l, .int .i64 d] 51)) := (Below.refl _ _).alloc (Nat.le_refl _) _
  have HB := hide hb
  clear hb
  by_cases h0 : l = 0
  · subst h0
    rw [if_pos rfl] at hn
    subst hn
    go_enter Tryz.func90, Tryz.ntmps90
    go_wp2
    go_ret
    exact ⟨rfl, unhide HB⟩
  · rw [if_neg h0] at hn
    subst hn
    have hn1 : 1 ≤ n := by omega
    clear h0
    go_enter Tryz.func90, Tryz.ntmps90
    go_wp2
    all_goals (
      go_ret
      exact ⟨ret_int (by omega), unhide HB⟩)
end Go.Proofs.YtfeljhikeddodadGreatDoor
namespace Go.Proofs.YtfeljhikeddodadGreatDoor
open Go.RowKit

/-- The first wrong token is told. -/
structure Wrong (w' : World) (n : Nat) (t : Tks) (eS : Value) (i q len : Nat) : Prop where
  lt : i < len
  ahead : ∀ j, j < i → t.good j
  bad : ¬ t.good i
  at_ : w'.cell? ⟨q, 0, none⟩ = some (.int .i64 (i : Int))
  err : w'.cell? ⟨q, 1, none⟩ = some eS
  new : n ≤ q
set_option maxHeartbeats 4000000 in
set_option maxRecDepth 100000 in
theorem measure_any (ao : Option Addr) (len cap : Nat) (t : Tks) (w : World) (uT : TypeId) (uV : Value) (hS : w.cell? ⟨2, 0, none⟩ = some (.iface uT uV)) (hP : IsTokens w ao len t) (hlen : len ≤ 100000)
    (hsm : ∀ i, i ≤ len → (∀ j, j < i → t.good j) → (t.out i).length ≤ 300000) :
    Calls Tryz.prog 94 #[.slice ao len cap] w fun e w' =>
      ((∀ j, j < len → t.good j) ∧ e = .returned (.tuple #[.int .i64 ((t.out len).length : Int), .nilIface]) ∧ Below w.heap.size w w') ∨
      (∃ i q, Wrong w' w.heap.size t (.iface uT uV) i q len ∧ e = .returned (.tuple #[.int .i64 0, .iface 106 (.pointer (some ⟨q, 0, none⟩))]) ∧ Below w.heap.size w w') := by
  have HP := hide hP
  have HSM := hide hsm
  have HS := hide hS
  clear hP hsm hS
  go_enter Tryz.func94, Tryz.ntmps94
  go_wp2
  go_loopw [2, 3, 4, 11] (fun sz _ ov i wr => ∃ k : Nat, k ≤ len ∧ sz = .int .i64 ((t.out k).length : Int) ∧ ov = .int .i64 (len : Int) ∧ i = .int .i64 (k : Int) ∧ Hid (∀ j, j < k → t.good j) ∧ Below w.heap.size w wr) (fun _ _ _ i _ => len - (intOf i).toNat)
  case atStart => exact ⟨0, by omega, rfl, rfl, rfl, fun j hj => by omega, Below.refl _ _⟩
  case round =>
    obtain ⟨k, hk, rfl, rfl, rfl, HG, hb⟩ := hrel
    by_cases hlt : k < len
    · have g1 : decide ((k : Int) < (len : Int)) = true := by simp; omega
      have hki : (k : Int) < (len : Int) := by omega
      have hP1 := (unhide HP).below hb
      rcases hP1 with h0 | ⟨bb, off, rfl, hm, hc⟩
      · omega
      obtain ⟨c0, c1, c2, hb8, ⟨hl1, hl2⟩, ⟨hd1, hd2⟩⟩ := hc k hlt
      have hol := unhide HSM k hk (unhide HG)
      have hok : t.good k ↔ Shp (t.b k) (t.l k) (t.d k) ∧ t.d k ≤ ((t.out k).length : Int) := Iff.rfl
      have hnx : Shp (t.b k) (t.l k) (t.d k) → ((t.out (k + 1)).length : Int) = ((t.out k).length : Int) + (if t.l k = 0 then 1 else t.l k) := fun h => t.out_next h
      have HNX : Hid (t.good k → ∀ j, j < k + 1 → t.good j) := fun h j hj => by
        rcases Nat.lt_or_ge j k with c | c
        · exact unhide HG j c
        · rw [show j = k by omega]; exact h
      have hol2 : t.good k → (t.out (k + 1)).length ≤ 300000 := fun h => unhide HSM (k + 1) (by omega) (unhide HNX h)
      obtain ⟨o1, ho1⟩ : ∃ q, q = (t.out (k + 1)).length := ⟨_, rfl⟩
      have HO1 := hide ho1
      rw [← ho1] at hnx hol2
      obtain ⟨o, ho⟩ : ∃ q, q = (t.out k).length := ⟨_, rfl⟩
      rw [← ho] at hok hnx hol ⊢
      have HOK := hide hok
      obtain ⟨gd, hgd⟩ : ∃ q, q = t.good k := ⟨_, rfl⟩
      have HGD := hide hgd
      rw [← hgd] at hok hol2
      generalize t.b k = b at *
      generalize t.l k = l at *
      generalize t.d k = d at *
      have hba : Below w.heap.size w (wr.alloc (.cells #[.int .u8 (b : Int), .int .i64 l, .int .i64 d] 51)) := hb.alloc hb.size _
      have ca0 : (wr.alloc (.cells #[.int .u8 (b : Int), .int .i64 l, .int .i64 d] 51)).cell? ⟨wr.heap.size, 0, none⟩ = some (.int .u8 (b : Int)) := by simp
      have ca1 : (wr.alloc (.cells #[.int .u8 (b : Int), .int .i64 l, .int .i64 d] 51)).cell? ⟨wr.heap.size, 1, none⟩ = some (.int .i64 l) := by simp
      have ca2 : (wr.alloc (.cells #[.int .u8 (b : Int), .int .i64 l, .int .i64 d] 51)).cell? ⟨wr.heap.size, 2, none⟩ = some (.int .i64 d) := by simp
      have HC : Hid (∀ j w', Below (wr.alloc (.cells #[.int .u8 (b : Int), .int .i64 l, .int .i64 d] 51)).heap.size (wr.alloc (.cells #[.int .u8 (b : Int), .int .i64 l, .int .i64 d] 51)) w' → w'.cell? ⟨wr.heap.size, j, none⟩ = (wr.alloc (.cells #[.int .u8 (b : Int), .int .i64 l, .int .i64 d] 51)).cell? ⟨wr.heap.size, j, none⟩) := fun j w' h => h.cell (by simp)
      clear hc hok hgd ho ho1
      go_wp2_with fail
      refine (shaped_any b l d _).mono ?_
      generalize wr.alloc (.cells #[.int .u8 (b : Int), .int .i64 l, .int .i64 d] 51) = wa at *
      generalize wr.heap.size = p at *
      rintro e w2 ⟨rfl, hb2⟩
      have cb0 := (unhide HC 0 w2 hb2).trans ca0
      have cb1 := (unhide HC 1 w2 hb2).trans ca1
      have cb2 := (unhide HC 2 w2 hb2).trans ca2
      have hbw2 : Below w.heap.size w w2 := hba.trans (hb2.mono hba.size)
      clear ca0 ca1 ca2
      by_cases hshp : Shp b l d
      · have hsd : decide (Shp b l d) = true := by simpa using hshp
        rw [hsd]
        by_cases hbk : d ≤ (o : Int)
        · have e1 : decide ((o : Int) < d) = false := by simp; omega
          have e2 : decide (d > (o : Int)) = false := e1
          have hgk : t.good k := (unhide HOK).2 ⟨hshp, hbk⟩
          have HGK := hide hgk
          have hn := hnx hshp
          have hl0 : 0 ≤ l := by unfold Shp at hshp; split at hshp <;> omega
          obtain ⟨n, hnn⟩ : ∃ n : Int, n = if l = 0 then 1 else l := ⟨_, rfl⟩
          rw [← hnn] at hn
          have ho3 : o1 ≤ 300000 := hol2 (by rw [unhide HGD]; exact hgk)
          have HN := hide hnn
          have d3 : decide ((o1 : Int) > 300000) = false := by simp; omega
          have d4 : decide ((300000 : Int) < (o1 : Int)) = false := d3
          have zn : (o : Int) + n = (o1 : Int) := hn.symm
          have HBY := hide (bytesOf_any b l d w2 n hnn hl0)
          have Hst : Hid (∀ w3, Below w2.heap.size w2 w3 → Below w.heap.size w w3) := fun w3 h => hbw2.trans (h.mono hbw2.size)
          clear hgk hshp hbk hnx hn hnn hol2 hsd
          go_wp2_with fail
          refine (unhide HBY).mono ?_
          rintro e w3 ⟨rfl, hb3⟩
          go_wp2
          go_roundw
          case rel => exact ⟨k + 1, by omega, by rw [← unhide HO1], rfl, by go_num, unhide HNX (unhide HGK), unhide Hst w3 hb3⟩
          case measure => simp [intOf]; omega
        · have e1 : decide ((o : Int) < d) = true := by simp; omega
          have e2 : decide (d > (o : Int)) = true := e1
          have HGK : Hid (¬ t.good k) := fun h => hbk ((unhide HOK).1 h).2
          have cS := (hbw2.cell (p := ⟨2, 0, none⟩) (World.block_lt_of_cell? _ _ (unhide HS))).trans (unhide HS)
          have HB2 := hide hbw2
          clear hshp hbk hnx hol2 hsd hbw2
          go_wp2
          go_region
          all_goals (
            go_wp2
            go_ret2
            exact .inr ⟨k, _, ⟨hlt, unhide HG, unhide HGK, by simp, by simp, by have := (unhide HB2).size; simp; omega⟩, rfl, ((unhide HB2).drew.alloc (by have := (unhide HB2).size; simp; omega) _)⟩)
      · have hsd : decide (Shp b l d) = false := by simpa using hshp
        rw [hsd]
        have HGK : Hid (¬ t.good k) := fun h => hshp ((unhide HOK).1 h).1
        have cS := (hbw2.cell (p := ⟨2, 0, none⟩) (World.block_lt_of_cell? _ _ (unhide HS))).trans (unhide HS)
        have HB2 := hide hbw2
        clear hshp hnx hol2 hsd hbw2
        go_wp2
        go_region
        all_goals (
          go_wp2
          go_ret2
          exact .inr ⟨k, _, ⟨hlt, unhide HG, unhide HGK, by simp, by simp, by have := (unhide HB2).size; simp; omega⟩, rfl, ((unhide HB2).drew.alloc (by have := (unhide HB2).size; simp; omega) _)⟩)
    · have : k = len := by omega
      subst this
      have g1 : decide ((k : Int) < (k : Int)) = false := by simp
      go_wp2
      go_ret2
      exact .inl ⟨unhide HG, rfl, hb⟩
end Go.Proofs.YtfeljhikeddodadGreatDoor
namespace Go.Proofs.YtfeljhikeddodadGreatDoor
open Go.RowKit

/-- A row of bytes of a call's own, in memory that is new since w. -/
structure Grow (w wr : World) (v : Value) (l : List UInt8) : Prop where
  own : wr.ownsRow w.heap.size 5 1 v l.length (byteVals l)
  below : Below w.heap.size w wr
theorem Grow.alloc {w wr : World} {v : Value} {l : List UInt8} (h : Grow w wr v l) (o : Obj) : Grow w (wr.alloc o) v l := ⟨h.own.alloc o, h.below.alloc h.below.size o⟩
theorem Grow.fresh {w wr : World} {v : Value} {l : List UInt8} (h : Grow w wr v l) : v.ownBlock ≠ some wr.heap.size := fun e => by
  have := (h.own.lt _ e).2; omega
theorem Grow.push {w wr w6 : World} {v v' : Value} {l : List UInt8} {b : UInt8} {o : Obj} (h : Grow w wr v l) (hown : w6.ownsRow w.heap.size 5 1 v' (l.length + 1) (byteVals (l ++ [b]))) (hg : (wr.alloc o).grownBy w6 v.ownBlock) : Grow w w6 v' (l ++ [b]) :=
  ⟨by rw [List.length_append]; exact hown, (h.alloc o).below.grown hg (h.alloc o).below.size (fun k e => (h.own.lt k e).1)⟩
/-- What lies apart from the row stays. -/
theorem Grow.apart {w wr w6 : World} {v v' : Value} {l : List UInt8} {o : Obj} {p : Nat} (_h : Grow w wr v l) (hg : (wr.alloc o).grownBy w6 v.ownBlock) (hat : v'.ownBlock = v.ownBlock ∨ v'.ownBlock = some (wr.heap.size + 1)) (hp : p < wr.heap.size) (hv : v.ownBlock ≠ some p) : v'.ownBlock ≠ some p ∧ (∀ j, w6.cell? ⟨p, j, none⟩ = wr.cell? ⟨p, j, none⟩) ∧ p < w6.heap.size := by
  have hz : (wr.alloc o).heap.size = wr.heap.size + 1 := by simp
  have hbk := hg.block p (by omega) (fun e => hv e.symm)
  refine ⟨?_, fun j => (World.cell?_of_block hbk).trans (((Below.refl wr.heap.size wr).alloc (Nat.le_refl _) o).cell (p := ⟨p, j, none⟩) hp), ?_⟩
  · rcases hat with e | e
    · rw [e]; exact hv
    · rw [e]; intro q; injection q with q; omega
  · have := hg.size; omega
theorem Grow.cell {w wr : World} {a : Option Addr} {n c : Nat} {l : List UInt8} (h : Grow w wr (.slice a n c) l) (i : Nat) (hi : i < l.length) : ∃ g, a = some ⟨g, 0, none⟩ ∧ n = l.length ∧ wr.cell? ⟨g, i, none⟩ = some (.int .u8 (l[i].toNat : Int)) := by
  obtain ⟨a', c', e, hg⟩ := own_shape h.own
  injection e with e1 e2 e3
  subst e1 e2 e3
  obtain ⟨g, rfl, _⟩ := hg (by omega)
  refine ⟨g, rfl, rfl, ?_⟩
  rw [h.own.cellAt i (by omega), byteVals_at, List.getElem?_eq_getElem hi]
  rfl
theorem alloc_new2 (w : World) (v : Value) (t : TypeId) : (w.alloc (.cells #[v] t)).cell? ⟨w.heap.size, 0, none⟩ = some v := by simp
set_option maxHeartbeats 4000000 in
set_option maxRecDepth 100000 in
theorem expand_any (ao : Option Addr) (len cap : Nat) (t : Tks) (w : World) (uT : TypeId) (uV : Value) (hS : w.cell? ⟨2, 0, none⟩ = some (.iface uT uV)) (hP : IsTokens w ao len t) (hlen : len ≤ 100000)
    (hsm : ∀ i, i ≤ len → (∀ j, j < i → t.good j) → (t.out i).length ≤ 300000) :
    Calls Tryz.prog 61 #[.slice ao len cap] w fun e w' =>
      ((∀ j, j < len → t.good j) ∧ e = .returned (.tuple #[.string ⟨(t.out len).toArray⟩, .nilIface]) ∧ Below w.heap.size w w') ∨
      (∃ i q, Wrong w' w.heap.size t (.iface uT uV) i q len ∧ e = .returned (.tuple #[.string ⟨#[]⟩, .iface 106 (.pointer (some ⟨q, 0, none⟩))]) ∧ Below w.heap.size w w') := by
  have HM := hide (measure_any ao len cap t w uT uV hS hP hlen hsm)
  have HP := hide hP
  have HSM := hide hsm
  clear hP hsm hS
  go_enter Tryz.func61, Tryz.ntmps61
  go_wp2_with fail
  refine (unhide HM).mono ?_
  rintro e w1 (⟨hgood, rfl, hb1⟩ | ⟨i, q, hw, rfl, hb1⟩)
  rotate_left
  · have HW := hide hw
    clear HM hw
    go_wp2
    go_ret2
    exact .inr ⟨i, q, unhide HW, rfl, hb1⟩
  have HGD := hide hgood
  have holl := unhide HSM len (Nat.le_refl _) hgood
  obtain ⟨i0, hi, hz0, hz1, hz2⟩ := info_parts info_u8
  have Hi := hide hi
  have Hz0 := hide hz0
  have Hz1 := hide hz1
  have Hz2 : i0.bytes * (t.out len).length ≤ 281474976710656 := by rw [hz2]; omega
  generalize (t.out len).length = olen at *
  have HZ2 := hide Hz2
  clear HM hgood hi hz0 hz1 hz2 Hz2
  go_wp2_with (at_make; refine wpList_make_own _ rfl (.const (.int .i64 0)) (.tmp 17) 54 rfl w.heap.size 5 i0 (.int .u8 0) 1 Tryz.underlying54 (unhide Hi) (unhide Hz0) (unhide Hz1) .i64 .i64 (olen : Int) olen rfl rfl rfl (unhide HZ2) (by unfold maxLen; omega) hb1.size ?_)
  intro w2 hown2 hgr2
  have hG2 : Grow w w2 (.slice (some ⟨w1.heap.size, 0, none⟩) 0 olen) [] := ⟨hown2, hb1.grown hgr2 hb1.size (fun k e => by cases e)⟩
  have HG2 := hide hG2
  generalize w1.heap.size = g1 at *
  clear hown2 hgr2 hG2 hb1
  go_wp2
  go_loopw [6, 21] (fun v i wr => ∃ k : Nat, k ≤ len ∧ i = .int .i64 (k : Int) ∧ Hid (Grow w wr v (t.out k))) (fun _ i _ => len - (intOf i).toNat)
  case atStart => exact ⟨0, by omega, rfl, HG2⟩
  case round =>
    clear HG2
    obtain ⟨k, hk, rfl, HG⟩ := hrel
    by_cases hlt : k < len
    · have g1 : decide ((k : Int) < (len : Int)) = true := by simp; omega
      have hki : (k : Int) < (len : Int) := by omega
      obtain ⟨va, vc, rfl, _⟩ := own_shape (unhide HG).own
      have hP1 := (unhide HP).below (unhide HG).below
      rcases hP1 with h0 | ⟨bb, off, rfl, hm, hc⟩
      · omega
      obtain ⟨c0, c1, c2, hb8, ⟨hl1, hl2⟩, ⟨hd1, hd2⟩⟩ := hc k hlt
      have hgk := unhide HGD k hlt
      have hol := unhide HSM k hk (fun j hj => unhide HGD j (by omega))
      have hol2 := unhide HSM (k + 1) (by omega) (fun j hj => unhide HGD j (by omega))
      have hshp : Shp (t.b k) (t.l k) (t.d k) := hgk.1
      have hdb := hgk.2
      have HNX : Hid (t.out (k + 1) = if t.l k = 0 then t.out k ++ [UInt8.ofNat (t.b k)] else cpy (t.out k) (t.d k).toNat (t.l k).toNat) := rfl
      have hnl : (t.out (k + 1)).length = (t.out k).length + (if t.l k = 0 then 1 else (t.l k).toNat) := by
        rw [unhide HNX]
        split
        · simp
        · rw [cpy_length]
      generalize t.b k = b at *
      generalize t.l k = l at *
      generalize t.d k = d at *
      generalize t.out k = o at *
      generalize (t.out (k + 1)).length = o1 at *
      have HAL := hide ((unhide HG).alloc (.cells #[.int .u8 (b : Int), .int .i64 l, .int .i64 d] 51))
      have hfr := (unhide HG).fresh
      have ca2 : (wr.alloc (.cells #[.int .u8 (b : Int), .int .i64 l, .int .i64 d] 51)).cell? ⟨wr.heap.size, 2, none⟩ = some (.int .i64 d) := by simp
      have hpl : wr.heap.size < (wr.alloc (.cells #[.int .u8 (b : Int), .int .i64 l, .int .i64 d] 51)).heap.size := by simp
      clear hc hgk
      by_cases h0 : l = 0
      · subst h0
        rw [if_pos rfl] at HNX hnl
        obtain ⟨b8, hb8e⟩ : ∃ b8 : UInt8, (b8.toNat : Int) = (b : Int) ∧ UInt8.ofNat b = b8 := ⟨UInt8.ofNat b, by rw [UInt8.toNat_ofNat_of_lt' (by simpa using hb8)], rfl⟩
        rw [← hb8e.1] at HAL c0 ca2 hpl
        rw [hb8e.2] at HNX
        have hsz8 : ((wr.alloc (.cells #[.int .u8 (b8.toNat : Int), .int .i64 0, .int .i64 d] 51)).heap.size) = wr.heap.size + 1 := by simp
        clear hb8e hshp
        go_wp2_with (at_builtin; refine wpList_appB _ rfl (.tmp 28) (.tmp 31) rfl w.heap.size (wr.alloc (.cells #[.int .u8 (b8.toNat : Int), .int .i64 0, .int .i64 d] 51)).heap.size (.slice va o.length vc) o b8 rfl (by simp [Act.eval, hsz8]) ((unhide HAL).own.alloc _) (alloc_new2 _ _ _) (by omega) (by have := (unhide HAL).below.size; simp at this ⊢; omega) ?_)
        intro v3 w6 hown3 hgr3 _
        have HG3 := hide ((unhide HAL).push hown3 hgr3)
        clear hown3 hgr3 HAL
        go_wp2
        go_roundw
        case rel => exact ⟨k + 1, by omega, by go_num, by rw [unhide HNX]; exact HG3⟩
        case measure => simp [intOf]; omega
      · have hs2 : b = 0 ∧ (3 ≤ l ∧ l ≤ 258) ∧ 1 ≤ d ∧ d ≤ 32768 := by unfold Shp at hshp; rwa [if_neg h0] at hshp
        rw [if_neg h0] at HNX hnl
        have g0 : (l == 0) = false := by simpa using h0
        obtain ⟨hb0, ⟨hl3, hl4⟩, hd3, hd4⟩ := hs2
        have hb0i : (b : Int) = 0 := by omega
        rw [hb0i] at c0 HAL ca2 hpl
        obtain ⟨n, rfl⟩ := Int.eq_ofNat_of_zero_le (show 0 ≤ l by omega)
        obtain ⟨bk, rfl⟩ := Int.eq_ofNat_of_zero_le (show 0 ≤ d by omega)
        simp only [Int.toNat_natCast] at HNX hnl
        clear hshp h0 hb0 hb0i hb8
        go_wp2
        generalize wr.alloc (.cells #[.int .u8 0, .int .i64 (n : Int), .int .i64 (bk : Int)] 51) = wa at *
        generalize wr.heap.size = p at *
        go_loopw [6, 35] (fun v i wq => ∃ j : Nat, j ≤ n ∧ i = .int .i64 (j : Int) ∧ Hid (Grow w wq v (cpy o bk j)) ∧ v.ownBlock ≠ some p ∧ wq.cell? ⟨p, 2, none⟩ = some (.int .i64 (bk : Int)) ∧ p < wq.heap.size) (fun _ i _ => n - (intOf i).toNat)
        case atStart => exact ⟨0, by omega, rfl, HAL, hfr, ca2, hpl⟩
        case round =>
          clear HAL hfr ca2 hpl
          obtain ⟨j, hj, rfl, HGj, hfj, cj2, hpj⟩ := hrel
          by_cases hjt : j < n
          · have g2 : decide ((j : Int) < (n : Int)) = true := by simp; omega
            have hcl := cpy_length o bk j
            obtain ⟨lj, hlj⟩ : ∃ q, q = cpy o bk j := ⟨_, rfl⟩
            rw [← hlj] at HGj hcl
            obtain ⟨aj, cj, rfl, _⟩ := own_shape (unhide HGj).own
            obtain ⟨ix, hix⟩ : ∃ q, q = lj.length - bk := ⟨_, rfl⟩
            have zix : (lj.length : Int) - (bk : Int) = (ix : Int) := by omega
            have hixl : ix < lj.length := by omega
            have hixi : (ix : Int) < (lj.length : Int) := by omega
            obtain ⟨g, rfl, _, cb⟩ := (unhide HGj).cell ix hixl
            obtain ⟨b8, hb8⟩ : ∃ b, b = lj[ix] := ⟨_, rfl⟩
            rw [← hb8] at cb
            have HNJ : Hid (cpy o bk (j + 1) = lj ++ [b8]) := by
              show cpy o bk j ++ [(cpy o bk j).getD ((cpy o bk j).length - bk) 0] = _
              rw [← hlj, ← hix, hb8]
              congr 2
              simp [List.getElem?_eq_getElem hixl]
            have hll : lj.length ≤ 300000 := by omega
            have hwx : IntKind.i64.wrap (ix : Int) = (ix : Int) := by rw [IntKind.wrap_i64]; omega
            have hbsz := (unhide HGj).below.size
            clear hlj hix hb8 hcl hnl
            go_wp2_with (at_builtin; refine wpList_appB _ rfl (.tmp 37) (.tmp 46) rfl w.heap.size wr.heap.size (.slice (some ⟨g, 0, none⟩) lj.length cj) lj b8 rfl rfl ((unhide HGj).own.alloc _) (alloc_new2 _ _ _) (by omega) (by simp; omega) ?_)
            intro v3 w6 hown3 hgr3 hat3
            have HG3 := hide ((unhide HGj).push hown3 hgr3)
            obtain ⟨hfr6, hc6, hp6⟩ := (unhide HGj).apart hgr3 hat3 hpj hfj
            have c62 := (hc6 2).trans cj2
            clear hown3 hgr3 hat3 hc6
            go_wp2
            go_roundw
            case rel => exact ⟨j + 1, by omega, by go_num, by rw [unhide HNJ]; exact HG3, hfr6, c62, hp6⟩
            case measure => simp [intOf]; omega
          · have : j = n := by omega
            subst this
            have g2 : decide ((j : Int) < (j : Int)) = false := by simp
            go_wp2
            go_roundw
            case rel => exact ⟨k + 1, by omega, by go_num, by rw [unhide HNX]; exact HGj⟩
            case measure => simp [intOf]; omega
    · have : k = len := by omega
      subst this
      have g1 : decide ((k : Int) < (k : Int)) = false := by simp
      have hcv := own_text wr _ _ _ _ (unhide HG).own
      have hbf := (unhide HG).below
      have HGG := hide (unhide HGD)
      clear HG
      go_wp2
      go_ret2
      exact .inl ⟨unhide HGG, rfl, hbf⟩
end Go.Proofs.YtfeljhikeddodadGreatDoor
namespace Go.Proofs.YtfeljhikeddodadGreatDoor
open Go.RowKit Ps Nf Pm Cn

theorem ofDynamic_any (ao : Option Addr) (n cap : Nat) (t : Tks) (w : World) (uT : TypeId) (uV v1 : Value) (hS : w.cell? ⟨2, 0, none⟩ = some (.iface uT uV)) (h1 : w.cell? ⟨0, 0, none⟩ = some v1) (hP : IsTokens w ao n t) (hB : Bl w) (hn : 12 ≤ w.heap.size) (hlen : n ≤ 80000)
    (hsm : ∀ i, i ≤ n → (∀ j, j < i → t.good j) → (t.out i).length ≤ 300000) :
    Calls Tryz.prog 23 #[.slice ao n cap, .func (.func 42) #[] #[]] w fun e w' =>
      (∃ ns nd nc l0 l1 l2 ss, (∀ j, j < n → t.good j) ∧ e = .returned (.tuple #[.string (textP (dynP ns nd nc l0 l1 l2 ss t n)), .nilIface]) ∧ DynOf t n ns nd nc l0 l1 l2 ss ∧ Below w.heap.size w w') ∨
      (∃ i q, Wrong w' w.heap.size t (.iface uT uV) i q n ∧ e = .returned (.tuple #[.string ⟨#[]⟩, .iface 106 (.pointer (some ⟨q, 0, none⟩))]) ∧ Below w.heap.size w w') := by
  have HE := hide (expand_any ao n cap t w uT uV hS hP (by omega) hsm)
  have HX : Hid (∀ w1, Below w.heap.size w w1 → (∀ j, j < n → t.good j) → Calls Tryz.prog 42 #[.string ⟨(t.out n).toArray⟩, .slice ao n cap] w1 fun e w' => ∃ ns nd nc l0 l1 l2 ss, e = .returned (.string (textP (dynP ns nd nc l0 l1 l2 ss t n))) ∧ DynOf t n ns nd nc l0 l1 l2 ss ∧ Below w1.heap.size w1 w') := fun w1 hb hg =>
    dynamic_any _ ao n cap t v1 (.iface uT uV) w1 (hP.below hb) (hB.below hb hn) (Nat.le_trans hn hb.size) ((hb.cell (World.block_lt_of_cell? _ _ h1)).trans h1) ((hb.cell (World.block_lt_of_cell? _ _ hS)).trans hS) (fun i hi => (hg i hi).1) (by omega)
  clear hS h1 hP hB hsm
  go_enter Tryz.func23, Tryz.ntmps23
  go_wp2_with fail
  refine (unhide HE).mono ?_
  rintro e w1 (⟨hg, rfl, hb1⟩ | ⟨i, q, hw, rfl, hb1⟩)
  · have HC := hide (unhide HX w1 hb1 hg)
    have HG := hide hg
    clear HE HX hg
    go_wp2_with fail
    refine (unhide HC).mono ?_
    rintro e w2 ⟨ns, nd, nc, l0, l1, l2, ss, rfl, hdo, hb2⟩
    have HB2 := hide (hb1.trans (hb2.mono hb1.size))
    have HDO := hide hdo
    obtain ⟨tx, htx⟩ : ∃ tx, tx = textP (dynP ns nd nc l0 l1 l2 ss t n) := ⟨_, rfl⟩
    rw [← htx]
    have HTX := hide htx
    clear HC hb1 hb2 hdo htx
    go_wp2
    go_ret2
    exact .inl ⟨ns, nd, nc, l0, l1, l2, ss, unhide HG, by rw [← unhide HTX]; rfl, unhide HDO, unhide HB2⟩
  · have HW := hide hw
    clear HE HX hw
    go_wp2
    go_ret2
    exact .inr ⟨i, q, unhide HW, rfl, hb1⟩
theorem dynamicF_any (ao : Option Addr) (n cap : Nat) (t : Tks) (w : World) (uT : TypeId) (uV v1 : Value) (hS : w.cell? ⟨2, 0, none⟩ = some (.iface uT uV)) (h1 : w.cell? ⟨0, 0, none⟩ = some v1) (hP : IsTokens w ao n t) (hB : Bl w) (hn : 12 ≤ w.heap.size) (hlen : n ≤ 80000)
    (hsm : ∀ i, i ≤ n → (∀ j, j < i → t.good j) → (t.out i).length ≤ 300000) :
    Calls Tryz.prog 14 #[.slice ao n cap] w fun e w' =>
      (∃ ns nd nc l0 l1 l2 ss, (∀ j, j < n → t.good j) ∧ e = .returned (.tuple #[.string (textP (dynP ns nd nc l0 l1 l2 ss t n)), .nilIface]) ∧ DynOf t n ns nd nc l0 l1 l2 ss ∧ Below w.heap.size w w') ∨
      (∃ i q, Wrong w' w.heap.size t (.iface uT uV) i q n ∧ e = .returned (.tuple #[.string ⟨#[]⟩, .iface 106 (.pointer (some ⟨q, 0, none⟩))]) ∧ Below w.heap.size w w') := by
  have HO := hide (ofDynamic_any ao n cap t w uT uV v1 hS h1 hP hB hn hlen hsm)
  clear hS h1 hP hB hsm
  go_enter Tryz.func14, Tryz.ntmps14
  go_wp2_with fail
  refine (unhide HO).mono ?_
  rintro e w1 (⟨ns, nd, nc, l0, l1, l2, ss, hg, rfl, hdo, hb1⟩ | ⟨i, q, hw, rfl, hb1⟩)
  · have HG := hide hg
    have HDO := hide hdo
    obtain ⟨tx, htx⟩ : ∃ tx, tx = textP (dynP ns nd nc l0 l1 l2 ss t n) := ⟨_, rfl⟩
    rw [← htx]
    have HTX := hide htx
    clear HO hg hdo htx
    go_wp2
    go_ret2
    exact .inl ⟨ns, nd, nc, l0, l1, l2, ss, unhide HG, by rw [← unhide HTX]; rfl, unhide HDO, hb1⟩
  · have HW := hide hw
    clear HO hw
    go_wp2
    go_ret2
    exact .inr ⟨i, q, unhide HW, rfl, hb1⟩
end Go.Proofs.YtfeljhikeddodadGreatDoor
namespace Go.Proofs.YtfeljhikeddodadGreatDoor
open Go.RowKit

theorem align_end (w : World) (p c N : Nat) (hW : WAt w p c N) (hc : c + 7 ≤ 4000000) : WAt (w.setCell ⟨p, 1, none⟩ (.int .i64 ((8 * ((c + 7) / 8) : Nat) : Int))) p (8 * ((c + 7) / 8)) N ∧
    Kept p w (w.setCell ⟨p, 1, none⟩ (.int .i64 ((8 * ((c + 7) / 8) : Nat) : Int))) := by
  obtain ⟨⟨v, hv, hown⟩, hcnt, f0, f1, hfit, hsm⟩ := hW
  have hcell : (w.setCell ⟨p, 1, none⟩ (.int .i64 ((8 * ((c + 7) / 8) : Nat) : Int))).cell? ⟨p, 0, none⟩ = w.cell? ⟨p, 0, none⟩ := World.cell?_setCell_other _ _ _ _ (by intro e; injection e with _ e2; omega)
  refine ⟨⟨⟨v, hcell.trans hv, ?_⟩, World.cell?_setCell_same _ _ _ hcnt, ?_, ?_, Bt.lt_wide hfit (by omega), by omega⟩, ⟨rfl, rfl, rfl, by simp [World.setCell], ?_, .inl (rowOf_same hcell), fun j hj => ⟨World.cell?_setCell_other _ _ _ _ (by intro e; injection e with _ e2; omega), World.frozen?_setCell _ _ _ _⟩⟩⟩
  · rw [show (8 * ((c + 7) / 8) + 7) / 8 = (c + 7) / 8 from by omega]
    exact ownsRow_setCell_below hown (by show p < p + 1; omega) _
  · rw [World.frozen?_setCell]; exact f0
  · rw [World.frozen?_setCell]; exact f1
  · intro k _ h1 _
    exact Below.heap_setCell _ _ _ _ h1
theorem align_any (p c N : Nat) (w : World) (hW : WAt w p c N) (hc : c + 7 ≤ 4000000) :
    Calls Tryz.prog 134 #[.pointer (some ⟨p, 0, none⟩)] w fun e w' => e = .returned (.tuple #[]) ∧ WAt w' p (8 * ((c + 7) / 8)) N ∧ Kept p w w' := by
  have hend := hide (align_end w p c N hW hc)
  obtain ⟨⟨v, hv, hown⟩, hcnt, f0, f1, hfit, hsm⟩ := hW
  obtain ⟨a, cap, rfl⟩ := shape_of hown
  clear hown f0
  have hm : (c + 7) / 8 ≤ 4000000 := by omega
  generalize (c + 7) / 8 = m at *
  have h8 : (m : Int) * 8 = ((8 * m : Nat) : Int) := by omega
  go_enter Tryz.func134, Tryz.ntmps134
  go_wp2
  go_end0
  exact ⟨rfl, unhide hend⟩
end Go.Proofs.YtfeljhikeddodadGreatDoor
namespace Go.Proofs.YtfeljhikeddodadGreatDoor
open Go.RowKit

theorem got_lt (V a k : Nat) (h : k ≤ 32) : V / 2 ^ a % 2 ^ k < 4294967296 :=
  Nat.lt_of_lt_of_le (Nat.mod_lt _ (Nat.two_pow_pos k)) (Nat.pow_le_pow_right (n := 2) (j := 32) (by omega) h)
end Go.Proofs.YtfeljhikeddodadGreatDoor
namespace Go.Proofs.YtfeljhikeddodadGreatDoor
open Go.RowKit

theorem RAt.but {w w' : World} {p k : Nat} {s : ByteArray} {S : Nat → Prop} (h : RAt w p s k) (hb : But S w w') (hs : ¬ S p) : RAt w' p s k :=
  ⟨(hb.cell h.lt hs).trans h.text, (hb.cell h.lt hs).trans h.count, (hb.frozen h.lt hs).trans h.free1, h.within, h.small⟩
end Go.Proofs.YtfeljhikeddodadGreatDoor
namespace Go.Proofs.YtfeljhikeddodadGreatDoor
open Go.RowKit

end Go.Proofs.YtfeljhikeddodadGreatDoor
