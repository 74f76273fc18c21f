/- Walks: Do, Undo, Best: the program's. -/
import Derived.Test.YtmmilamaahmaoafDoorFd
import Derived.Test.YtmmilamaahmaoafDoorFg
import Derived.OwnWalk
namespace Go.Proofs.YtmmilamaahmaoafDoor
open Go.RowKit

theorem known_any (z : Int) (w : World) :
    Calls Tryd.prog 19 #[.int .i64 z] w fun e w' => e = .returned (.bool (decide (0 ≤ z ∧ z < 5))) ∧ w' = w := by
  by_cases h1 : 0 ≤ z
  · have d1 : decide (z ≥ 0) = true := by simpa using h1
    have d1' : decide (0 ≤ z) = true := d1
    by_cases h2 : z < 5
    · have d2 : decide (z < 5) = true := by simpa using h2
      rw [decide_eq_true (⟨h1, h2⟩ : 0 ≤ z ∧ z < 5)]
      clear h1 h2
      go_enter Tryd.func19, Tryd.ntmps19
      go_wp2
      go_ret
      exact ⟨rfl, rfl⟩
    · have d2 : decide (z < 5) = false := by simpa using h2
      rw [decide_eq_false (fun q : 0 ≤ z ∧ z < 5 => h2 q.2)]
      clear h1 h2
      go_enter Tryd.func19, Tryd.ntmps19
      go_wp2
      go_ret
      exact ⟨rfl, rfl⟩
  · have d1 : decide (z ≥ 0) = false := by simpa using h1
    have d1' : decide (0 ≤ z) = false := d1
    rw [decide_eq_false (fun q : 0 ≤ z ∧ z < 5 => h1 q.1)]
    clear h1
    go_enter Tryd.func19, Tryd.ntmps19
    go_wp2
    go_ret
    exact ⟨rfl, rfl⟩

theorem stepping_any (z : Int) (w : World) :
    Calls Tryd.prog 25 #[.int .i64 z] w fun e w' => e = .returned (.bool (decide (1 ≤ z ∧ z ≤ 8))) ∧ w' = w := by
  by_cases h1 : 1 ≤ z
  · have d1 : decide (z ≥ 1) = true := by simpa using h1
    have d1' : decide (1 ≤ z) = true := d1
    by_cases h2 : z ≤ 8
    · have d2 : decide (z ≤ 8) = true := by simpa using h2
      rw [decide_eq_true (⟨h1, h2⟩ : 1 ≤ z ∧ z ≤ 8)]
      clear h1 h2
      go_enter Tryd.func25, Tryd.ntmps25
      go_wp2
      go_ret
      exact ⟨rfl, rfl⟩
    · have d2 : decide (z ≤ 8) = false := by simpa using h2
      rw [decide_eq_false (fun q : 1 ≤ z ∧ z ≤ 8 => h2 q.2)]
      clear h1 h2
      go_enter Tryd.func25, Tryd.ntmps25
      go_wp2
      go_ret
      exact ⟨rfl, rfl⟩
  · have d1 : decide (z ≥ 1) = false := by simpa using h1
    have d1' : decide (1 ≤ z) = false := d1
    rw [decide_eq_false (fun q : 1 ≤ z ∧ z ≤ 8 => h1 q.1)]
    clear h1
    go_enter Tryd.func25, Tryd.ntmps25
    go_wp2
    go_ret
    exact ⟨rfl, rfl⟩

theorem not_blankF (u : ByteArray) (h : 0 < u.size) : (u.toList == []) = false ∧ u.toList.isEmpty = false ∧ (u.toList == (⟨#[]⟩ : ByteArray).toList) = false := by
  have hq : u.toList ≠ [] := fun q => by
    rw [ByteArray.toList_eq] at q
    have h1 : u.data.toList.length = u.size := by simp
    rw [q] at h1
    simp only [List.length_nil] at h1
    omega
  refine ⟨beq_eq_false_iff_ne.2 hq, by simpa using hq, ?_⟩
  rw [ByteArray.toList_eq ⟨#[]⟩]; exact beq_eq_false_iff_ne.2 hq
theorem blankF (u : ByteArray) (h : ¬ 0 < u.size) : u = ⟨#[]⟩ := by
  apply text_ext
  apply List.eq_nil_of_length_eq_zero
  rw [Array.length_toList]
  show u.size = 0
  omega

/-- What check answers. -/
inductive ChkS | fine | bound | shape
def chk (z : Int) (row ahead : ByteArray) (st : Int) : ChkS :=
  if ¬ (0 ≤ z ∧ z < 5) ∨ ¬ (1 ≤ st ∧ st ≤ 8) then .bound else if 0 < ahead.size ∧ ahead.size ≠ row.size then .shape else .fine
def chkV (xB xS : Value) : ChkS → Value
  | .fine => .nilIface
  | .bound => xB
  | .shape => xS

set_option maxHeartbeats 1000000 in
theorem check_any (z st : Int) (row ahead : ByteArray) (xB xS : Value) (w : World) (hB : w.cell? ⟨1, 0, none⟩ = some xB) (hS : w.cell? ⟨2, 0, none⟩ = some xS) :
    Calls Tryd.prog 14 #[.int .i64 z, .string row, .string ahead, .int .i64 st] w fun e w' => e = .returned (chkV xB xS (chk z row ahead st)) ∧ w' = w := by
  have HK := hide (fun w => known_any z w)
  have HT := hide (fun w => stepping_any st w)
  by_cases h1 : 0 ≤ z ∧ z < 5
  · by_cases h2 : 1 ≤ st ∧ st ≤ 8
    · rw [decide_eq_true h1] at HK
      rw [decide_eq_true h2] at HT
      have e0 : chk z row ahead st = if 0 < ahead.size ∧ ahead.size ≠ row.size then .shape else .fine := by
        unfold chk
        rw [if_neg (fun q => q.elim (fun q => q h1) (fun q => q h2))]
      by_cases h3 : 0 < ahead.size
      · obtain ⟨b1, b2, b3⟩ := not_blankF ahead h3
        by_cases h4 : ahead.size = row.size
        · have q1 : ((ahead.size : Int) == (row.size : Int)) = true := by simp [h4]
          have q1' : ((ahead.size : Int) != (row.size : Int)) = false := by simp; omega
          rw [e0, if_neg (fun q => q.2 h4)]
          clear h1 h2 h3 h4 e0
          go_enter Tryd.func14, Tryd.ntmps14
          go_wp2_with fail
          refine (unhide HK _).mono ?_; rintro e w1 ⟨rfl, rfl⟩
          go_wp2_with fail
          refine (unhide HT _).mono ?_; rintro e w1 ⟨rfl, rfl⟩
          go_wp2
          go_ret
          exact ⟨rfl, rfl⟩
        · have q1 : ((ahead.size : Int) == (row.size : Int)) = false := by simp; omega
          have q1' : ((ahead.size : Int) != (row.size : Int)) = true := by simp; omega
          rw [e0, if_pos ⟨h3, h4⟩]
          clear h1 h2 h3 h4 e0
          go_enter Tryd.func14, Tryd.ntmps14
          go_wp2_with fail
          refine (unhide HK _).mono ?_; rintro e w1 ⟨rfl, rfl⟩
          go_wp2_with fail
          refine (unhide HT _).mono ?_; rintro e w1 ⟨rfl, rfl⟩
          go_wp2
          go_ret
          exact ⟨rfl, rfl⟩
      · obtain rfl := blankF ahead h3
        rw [e0, if_neg (fun q => h3 q.1)]
        clear h1 h2 h3 e0
        go_enter Tryd.func14, Tryd.ntmps14
        go_wp2_with fail
        refine (unhide HK _).mono ?_; rintro e w1 ⟨rfl, rfl⟩
        go_wp2_with fail
        refine (unhide HT _).mono ?_; rintro e w1 ⟨rfl, rfl⟩
        go_wp2
        go_ret
        exact ⟨rfl, rfl⟩
    · rw [decide_eq_true h1] at HK
      rw [decide_eq_false h2] at HT
      have e0 : chk z row ahead st = .bound := by
        unfold chk
        rw [if_pos (.inr h2)]
      rw [e0]
      clear h1 h2 e0
      go_enter Tryd.func14, Tryd.ntmps14
      go_wp2_with fail
      refine (unhide HK _).mono ?_; rintro e w1 ⟨rfl, rfl⟩
      go_wp2_with fail
      refine (unhide HT _).mono ?_; rintro e w1 ⟨rfl, rfl⟩
      go_wp2
      go_ret
      exact ⟨rfl, rfl⟩
  · rw [decide_eq_false h1] at HK
    have e0 : chk z row ahead st = .bound := by
      unfold chk
      rw [if_pos (.inl h1)]
    rw [e0]
    clear h1 e0
    go_enter Tryd.func14, Tryd.ntmps14
    go_wp2_with fail
    refine (unhide HK _).mono ?_; rintro e w1 ⟨rfl, rfl⟩
    go_wp2
    go_ret
    exact ⟨rfl, rfl⟩

theorem bytesRow_list (s : ByteArray) (cap : Nat) : (bytesRow s cap).toList = [] ++ byteVals s.data.toList ++ List.replicate (cap - s.size) (.int .u8 0) := by
  simp [bytesRow, byteVals]
/-- The bytes of a text, in memory. -/
theorem to_bytesL (w : World) (s : ByteArray) (hl : s.size ≤ maxLen := by unfold maxLen; omega) : ∃ cap w2 post fr, (convert 9 38 (.string s)).run Tryd.prog w = .ok (.slice (some ⟨w.heap.size, 0, none⟩) s.size cap) w2 ∧
    Lies w2 w.heap.size 0 [] s.data.toList post fr ∧ Below w.heap.size w w2 ∧ w2.heap.size = w.heap.size + 1 ∧ s.size ≤ cap ∧ cap ≤ maxLen := by
  have h := run_bytes_of_string (P := Tryd.prog) w 9 38 5 s Tryd.underlying9 Tryd.underlying38 Tryd.underlying5
  have hz : s.size ≤ (bytesRow s (grownCap w s.size 0 5)).size := by simp [bytesRow]
  refine ⟨_, _, List.replicate (grownCap w s.size 0 5 - s.size) (.int .u8 0), ((bytesRow s (grownCap w s.size 0 5)).size, (bytesRow s (grownCap w s.size 0 5)).size + 1), h, ⟨⟨bytesRow s (grownCap w s.size 0 5), ?_, bytesRow_list s _⟩, rfl, fun j h1 h2 => ?_⟩, (Below.refl _ _).drew.alloc (Nat.le_refl _) _, ?_, grownCap_ge _ _ _ _, grownCap_le_maxLen _ _ _ _ hl⟩
  · exact heap_alloc_new w.drew _
  · simp at h2 ⊢
    omega
  · show (w.drew.alloc _).heap.size = w.drew.heap.size + 1
    simp

theorem Lies.below {w w' : World} {g o B : Nat} {pre post : List Value} {l : List UInt8} {fr : Nat × Nat} (h : Lies w g o pre l post fr) (hb : Below B w w') (hg : g < B) : Lies w' g o pre l post fr := by
  obtain ⟨cur, h1, h2⟩ := h.cur
  exact ⟨⟨cur, (hb.block g hg).trans h1, h2⟩, h.at_, h.free⟩
theorem Lies.but {S : Nat → Prop} {w w' : World} {g o : Nat} {pre post : List Value} {l : List UInt8} {fr : Nat × Nat} (h : Lies w g o pre l post fr) (hb : But S w w') (hg : ¬ S g) : Lies w' g o pre l post fr := by
  obtain ⟨cur, h1, h2⟩ := h.cur
  exact ⟨⟨cur, (hb.block g h.lt hg).trans h1, h2⟩, h.at_, h.free⟩
/-- Its bytes as a text. -/
theorem Lies.text {w : World} {g o : Nat} {pre post : List Value} {l : List UInt8} {fr : Nat × Nat} (h : Lies w g o pre l post fr) (cap : Nat) : (convert 38 9 (.slice (some ⟨g, o, none⟩) l.length cap)).run Tryd.prog w = .ok (.string (tx l)) w := by
  refine run_convert_bytes_back w 38 9 5 _ cap l Tryd.underlying38 Tryd.underlying5 Tryd.underlying9 (fun j hj => ?_)
  rw [addr_add]
  exact h.cell j hj

/-- What Do answers. -/
def doV (xB xS : Value) (r : List UInt8) : ChkS → Value
  | .fine => .tuple #[.string (tx r), .nilIface]
  | .bound => .tuple #[.string ⟨#[]⟩, xB]
  | .shape => .tuple #[.string ⟨#[]⟩, xS]

theorem chk_fine {z st : Int} {row ahead : ByteArray} (h : chk z row ahead st = .fine) : (0 ≤ z ∧ z < 5) ∧ (1 ≤ st ∧ st ≤ 8) ∧ (ahead.size = 0 ∨ ahead.size = row.size) := by
  unfold chk at h
  split at h
  · cases h
  · rename_i h1
    split at h
    · cases h
    · rename_i h2
      exact ⟨Classical.byContradiction fun q => h1 (.inl q), Classical.byContradiction fun q => h1 (.inr q), by omega⟩

theorem nil_of_size (a : ByteArray) (h : a.size = 0) : a.data.toList = [] := by
  apply List.eq_nil_of_length_eq_zero
  rw [Array.length_toList]
  exact h

set_option maxHeartbeats 4000000 in
set_option maxRecDepth 100000 in
theorem Do_any (z st : Int) (row ahead : ByteArray) (tB tS : TypeId) (vB vS : Value) (w : World) (hB : w.cell? ⟨1, 0, none⟩ = some (.iface tB vB)) (hS : w.cell? ⟨2, 0, none⟩ = some (.iface tS vS)) (hrl : row.size ≤ 300000) :
    Calls Tryd.prog 6 #[.int .i64 z, .string row, .string ahead, .int .i64 st] w fun e w' => e = .returned (doV (.iface tB vB) (.iface tS vS) (Fil.row z.toNat row.data.toList ahead.data.toList st.toNat row.size) (chk z row ahead st)) ∧ Below w.heap.size w w' := by
  have HC := hide (check_any z st row ahead _ _ w hB hS)
  clear hB hS
  cases hk : chk z row ahead st with
  | bound =>
    rw [hk] at HC
    unfold chkV at HC
    unfold doV
    dsimp only at *
    clear hk
    go_enter Tryd.func6, Tryd.ntmps6
    go_wp2_with fail
    refine (unhide HC).mono ?_; rintro e w1 ⟨rfl, rfl⟩
    go_wp2
    go_ret2
    exact ⟨rfl, Below.refl _ _⟩
  | shape =>
    rw [hk] at HC
    unfold chkV at HC
    unfold doV
    dsimp only at *
    clear hk
    go_enter Tryd.func6, Tryd.ntmps6
    go_wp2_with fail
    refine (unhide HC).mono ?_; rintro e w1 ⟨rfl, rfl⟩
    go_wp2
    go_ret2
    exact ⟨rfl, Below.refl _ _⟩
  | fine =>
    obtain ⟨⟨hz0, hz5⟩, ⟨hs1, hs8⟩, hl⟩ := chk_fine hk
    rw [hk] at HC
    unfold chkV at HC
    unfold doV
    dsimp only at *
    obtain ⟨k, rfl⟩ := Int.eq_ofNat_of_zero_le hz0
    obtain ⟨s, rfl⟩ := Int.eq_ofNat_of_zero_le (show 0 ≤ st by omega)
    simp only [Int.toNat_natCast]
    have hrs : row.data.toList.length = row.size := by simp
    have has : ahead.data.toList.length = ahead.size := by simp
    have HDO := hide (fun dv (rc ac : Nat) (g1 g2 base : Nat) (w1 : World) h1 h2 h3 h4 h5 h6 => do_any k (by omega) [] row.data.toList ahead.data.toList dv (some ⟨g1, 0, none⟩) (some ⟨g2, 0, none⟩) rc ac s base w1 h1 h2 h3 h4 h5 h6 (by omega) (by omega) (hl.elim (fun h => .inl (nil_of_size ahead h)) (fun h => .inr (by rw [hrs, has]; exact h))) (by omega) (by simp))
    rw [hrs, has] at HDO
    obtain ⟨i0, hi, hz0', hz1, hz2⟩ := info_parts info_u8
    have Hi := hide hi
    have Hz0 := hide hz0'
    have Hz1 := hide hz1
    have Hz2 : Hid (i0.bytes * row.size ≤ 281474976710656) := by show _ ≤ _; rw [hz2]; omega
    clear hk hi hz0' hz1 hz2
    go_enter Tryd.func6, Tryd.ntmps6
    go_wp2_with fail
    refine (unhide HC).mono ?_; rintro e w1 ⟨rfl, rfl⟩
    clear HC
    go_wp2_with (at_make; refine wpList_make_own _ rfl (.const (.int .i64 0)) (.tmp 21) 38 rfl w1.heap.size 5 i0 (.int .u8 0) 1 Tryd.underlying38 (unhide Hi) (unhide Hz0) (unhide Hz1) .i64 .i64 (row.size : Int) row.size rfl rfl rfl (unhide Hz2) (by unfold maxLen; omega) (Nat.le_refl _) ?_)
    intro w2 hown2 hgr2
    obtain ⟨c1, w3, p1, f1, hcv1, hL1, hb1, hsz1, _, _⟩ := to_bytesL w2 row
    obtain ⟨c2, w4, p2, f2, hcv2, hL2, hb2, hsz2, _, _⟩ := to_bytesL w3 ahead
    have hs2 := hgr2.size
    have hlt2 := (hown2.lt w1.heap.size rfl).2
    have hb02 : Below w1.heap.size w1 w2 := (Below.refl _ _).grown hgr2 (Nat.le_refl _) (fun k e => by cases e)
    have hb04 : Below w1.heap.size w1 w4 := (hb02.trans (hb1.mono hs2)).trans (hb2.mono (by omega))
    have hown4 : w4.ownsRow w1.heap.size 5 1 (.slice (some ⟨w1.heap.size, 0, none⟩) 0 row.size) 0 (byteVals []) := by
      have o3 := hown2.kept (w' := w3) (row := none) ⟨hb1.os, hb1.tape, hb1.output, hb1.size, fun k hk _ => hb1.block k hk⟩ (.inr (by simp [Value.ownBlock]))
      exact o3.kept (w' := w4) (row := none) ⟨hb2.os, hb2.tape, hb2.output, hb2.size, fun k hk _ => hb2.block k hk⟩ (.inr (by simp [Value.ownBlock]))
    have hL1' := hL1.below hb2 (by omega)
    have HDO2 := hide (unhide HDO (.slice (some ⟨w1.heap.size, 0, none⟩) 0 row.size) c1 c2 w2.heap.size w3.heap.size w1.heap.size w4 hown4 (by omega) hL1'.byt hL2.byt (fun p e => by
      injection e with e; subst e
      exact ⟨fun q => by have : w1.heap.size = w2.heap.size := by simpa [Value.ownBlock] using q
                         omega, by show w2.heap.size < _; omega⟩) (fun p e => by
      injection e with e; subst e
      exact ⟨fun q => by have : w1.heap.size = w3.heap.size := by simpa [Value.ownBlock] using q
                         omega, by show w3.heap.size < _; omega⟩))
    have HB4 := hide hb04
    clear HDO hown2 hgr2 hL1 hL2 hL1' hb1 hb2 hb02 hb04 hown4
    generalize hg0 : w1.heap.size = g0 at *
    generalize w2.heap.size = g1 at *
    generalize w3.heap.size = g2 at *
    have Hg0 := hide hg0
    clear hg0
    clear hsz1 hsz2 hs2 hlt2
    go_wp2_with fail
    refine (unhide HDO2).mono ?_; rintro e w5 ⟨v5, rfl, hown5, hbut5, hat5⟩
    have hcv3 := own_text w5 _ _ _ _ hown5
    rw [List.nil_append] at hcv3
    have HBE := hide ((unhide HB4).trans (hbut5.below (by rw [← unhide Hg0]; exact (unhide HB4).size) (fun k hk e => by
      have : g0 = k := by simpa [Value.ownBlock] using e
      omega)))
    clear HDO2 hown5 hbut5 hat5 hcv1 hcv2
    go_wp2
    go_ret2
    exact ⟨rfl, by rw [unhide Hg0]; exact unhide HBE⟩
end Go.Proofs.YtmmilamaahmaoafDoor
