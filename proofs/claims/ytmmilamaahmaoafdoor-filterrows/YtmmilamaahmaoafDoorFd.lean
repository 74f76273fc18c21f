/- Walk: a row undone, in its place: the program's. -/
import Derived.Test.YtmmilamaahmaoafDoorFc
namespace Go.Proofs.YtmmilamaahmaoafDoor
open Go.RowKit

theorem more_u8 (x g : Nat) : ((Fil.more x g).toNat : Int) = ((x : Int) + (g : Int)) % 256 := by
  unfold Fil.more
  rw [UInt8.toNat_ofNat']
  omega

theorem cell_in {w : World} {g j : Nat} {cur : Array Value} {e : TypeId} {fr : Nat × Nat} (h : w.heap[g]? = some (.cells cur e fr)) : w.cell? ⟨g, j, none⟩ = cur.toList[j]? := by
  simp [World.cell?, h]
theorem frozen_in {w : World} {g j : Nat} {cur : Array Value} {e : TypeId} {fr : Nat × Nat} (h : w.heap[g]? = some (.cells cur e fr)) (hf : ¬ (fr.1 ≤ j ∧ j < fr.2)) : w.frozen? ⟨g, j, none⟩ = false := by
  obtain ⟨lo, hi⟩ := fr
  simp only [World.frozen?, h]
  simp only at hf
  simp
  omega
theorem set_in {w : World} {g j : Nat} {cur : Array Value} {e : TypeId} {fr : Nat × Nat} {v : Value} (h : w.heap[g]? = some (.cells cur e fr)) : (w.setCell ⟨g, j, none⟩ v).heap[g]? = some (.cells (cur.setIfInBounds j v) e fr) := by
  simp [World.setCell, Array.getElem?_modify, h]

/-- Where a row of bytes lies in a block. -/
structure Lies (w : World) (g o : Nat) (pre : List Value) (l : List UInt8) (post : List Value) (fr : Nat × Nat) : Prop where
  cur : ∃ cur : Array Value, w.heap[g]? = some (.cells cur 5 fr) ∧ cur.toList = pre ++ byteVals l ++ post
  at_ : pre.length = o
  free : ∀ j, o ≤ j → j < o + l.length → ¬ (fr.1 ≤ j ∧ j < fr.2)

theorem Lies.lt {w : World} {g o : Nat} {pre post : List Value} {l : List UInt8} {fr : Nat × Nat} (h : Lies w g o pre l post fr) : g < w.heap.size := by
  obtain ⟨cur, h1, _⟩ := h.cur
  rcases Nat.lt_or_ge g w.heap.size with h' | h'
  · exact h'
  · simp [Array.getElem?_eq_none h'] at h1
theorem Lies.cell {w : World} {g o : Nat} {pre post : List Value} {l : List UInt8} {fr : Nat × Nat} (h : Lies w g o pre l post fr) (j : Nat) (hj : j < l.length) : w.cell? ⟨g, o + j, none⟩ = some (.int .u8 (l[j].toNat : Int)) := by
  obtain ⟨cur, h1, h2⟩ := h.cur
  have h3 := h.at_
  rw [cell_in h1, h2, List.append_assoc, List.getElem?_append_right (by omega), h3, Nat.add_sub_cancel_left, List.getElem?_append_left (by rw [byteVals_length]; exact hj), byteVals_at, List.getElem?_eq_getElem hj]
  rfl
theorem Lies.byt {w : World} {g o : Nat} {pre post : List Value} {l : List UInt8} {fr : Nat × Nat} (h : Lies w g o pre l post fr) : Byt w (some ⟨g, o, none⟩) l := fun j hj => ⟨g, o, rfl, h.cell j hj⟩
theorem Lies.ahead {w w' : World} {g o : Nat} {pre post post' : List Value} {l l' : List UInt8} {fr : Nat × Nat} (h : Lies w g o pre l post fr) (h' : Lies w' g o pre l' post' fr) (c : Nat) (hc : c < o) : w'.cell? ⟨g, c, none⟩ = w.cell? ⟨g, c, none⟩ := by
  obtain ⟨cur, h1, h2⟩ := h.cur
  obtain ⟨cur', h1', h2'⟩ := h'.cur
  have h3 := h.at_
  rw [cell_in h1, h2, cell_in h1', h2', List.append_assoc, List.append_assoc, List.getElem?_append_left (by omega), List.getElem?_append_left (by omega)]
theorem Lies.set {w : World} {g o : Nat} {pre post : List Value} {l : List UInt8} {fr : Nat × Nat} (h : Lies w g o pre l post fr) (j : Nat) (hj : j < l.length) (b : UInt8) : Lies (w.setCell ⟨g, o + j, none⟩ (.int .u8 (b.toNat : Int))) g o pre (l.set j b) post fr := by
  obtain ⟨cur, h1, h2⟩ := h.cur
  have h3 := h.at_
  refine ⟨⟨_, set_in h1, ?_⟩, h3, fun i h4 h5 => h.free i h4 (by simpa using h5)⟩
  rw [Array.toList_setIfInBounds, h2, List.append_assoc, List.append_assoc, List.set_append_right _ _ (by omega), h3, Nat.add_sub_cancel_left, List.set_append_left _ _ (by rw [byteVals_length]; exact hj), byteVals_set]
theorem Lies.drewN {w : World} {g o : Nat} {pre post : List Value} {l : List UInt8} {fr : Nat × Nat} (h : Lies w g o pre l post fr) (n : Nat) : Lies (w.drewN n) g o pre l post fr := ⟨h.cur, h.at_, h.free⟩

theorem set_mid (a b : List UInt8) (x : UInt8) (n : Nat) (h : a.length = n) (hb : n < (a ++ b).length) : (a ++ b).set n x = (a ++ [x]) ++ b.drop 1 := by
  subst h
  rw [List.set_append_right _ _ (Nat.le_refl _), Nat.sub_self]
  cases b with
  | nil => simp at hb
  | cons y b => simp

set_option maxHeartbeats 4000000 in
set_option maxRecDepth 100000 in
theorem undo_any (k : Nat) (hk : k ≤ 4) (row ahead : List UInt8) (aa : Option Addr) (rc ac s g o : Nat) (pre post : List Value) (fr : Nat × Nat) (w : World) (hL : Lies w g o pre row post fr)
    (ha : ∀ w' l, But (· = g) w w' → Lies w' g o pre l post fr → Byt w' aa ahead) (hs : 1 ≤ s) (hs8 : s ≤ 8)
    (hl : ahead = [] ∨ ahead.length = row.length) (hlen : row.length ≤ 300000) :
    Calls Tryd.prog 16 #[.int .i64 (k : Int), .slice (some ⟨g, o, none⟩) row.length rc, .slice aa ahead.length ac, .int .i64 (s : Int)] w fun e w' => e = .returned (.tuple #[]) ∧ Lies w' g o pre (Fil.un k row ahead s row.length) post fr ∧ But (· = g) w w' := by
  have HL := hide hL
  have HA := hide ha
  clear hL ha
  go_enter Tryd.func16, Tryd.ntmps16
  go_wp2
  go_loopw [11] (fun i wr => ∃ j : Nat, j ≤ row.length ∧ i = .int .i64 (j : Int) ∧ Hid (Lies wr g o pre (Fil.un k row ahead s j ++ row.drop j) post fr) ∧ Hid (But (· = g) w wr)) (fun i _ => row.length - (intOf i).toNat)
  case atStart => exact ⟨0, by omega, rfl, by simpa [Fil.un] using HL, But.refl _ _⟩
  case round =>
    obtain ⟨j, hj, rfl, HLr, HBr⟩ := hrel
    by_cases hlt : j < row.length
    · have d1 : decide ((j : Int) < (row.length : Int)) = true := by simp; omega
      have hji : (j : Int) < (row.length : Int) := by omega
      have hul := Fil.un_length k row ahead s j
      obtain ⟨l, hld⟩ : ∃ l, l = Fil.un k row ahead s j ++ row.drop j := ⟨_, rfl⟩
      have hll : l.length = row.length := by rw [hld, List.length_append, hul, List.length_drop]; omega
      rw [← hld] at HLr
      have HC : Hid (∀ w', w'.heap = wr.heap → Calls Tryd.prog 26 #[.int .i64 (k : Int), .slice (some ⟨g, o, none⟩) row.length rc, .slice aa ahead.length ac, .int .i64 (j : Int), .int .i64 (s : Int)] w' fun e w'' => e = .returned (.int .u8 (Fil.fore k (Fil.un k row ahead s j) ahead j s : Int)) ∧ w'' = w') := fun w' hw => by
        have e : ∀ p, w'.cell? p = wr.cell? p := fun p => by unfold World.cell?; rw [hw]
        have e2 : Fil.fore k (Fil.un k row ahead s j) ahead j s = Fil.fore k l ahead j s := by rw [hld, Fil.fore_left k _ _ ahead j s hs (by omega)]
        rw [e2, ← hll]
        refine foretold_any k hk l ahead _ aa rc ac j s w' (fun i hi => ?_) (fun i hi => ?_) (by omega) hs hs8 (by rw [hll]; exact hl) (by omega)
        · obtain ⟨g, o, h1, h2⟩ := (unhide HLr).byt i hi
          exact ⟨g, o, h1, (e _).trans h2⟩
        · obtain ⟨g, o, h1, h2⟩ := unhide HA wr l (unhide HBr) (unhide HLr) i hi
          exact ⟨g, o, h1, (e _).trans h2⟩
      have hc := (unhide HLr).cell j (by omega)
      have hfz : wr.frozen? ⟨g, o + j, none⟩ = false := by
        obtain ⟨cur, h1, _⟩ := (unhide HLr).cur
        exact frozen_in h1 ((unhide HLr).free (o + j) (by omega) (by omega))
      have hlj : l[j] = row[j] := by
        subst hld
        rw [List.getElem_append_right (by omega)]
        simp [hul]
      rw [hlj] at hc
      have hfl := Fil.fore_lt k (Fil.un k row ahead s j) ahead j s
      have HX : Hid (Fil.un k row ahead s (j + 1) = Fil.un k row ahead s j ++ [Fil.more (Fil.at0 row j) (Fil.fore k (Fil.un k row ahead s j) ahead j s)]) := rfl
      rw [Fil.at0_get row j hlt] at HX
      have hx := row[j].toNat_lt
      generalize Fil.fore k (Fil.un k row ahead s j) ahead j s = f at *
      generalize row[j].toNat = x at *
      have hlu := more_u8 x f
      generalize Fil.more x f = b at *
      have hwu : IntKind.u8.wrap ((x : Int) + (f : Int)) = (b.toNat : Int) := by rw [hlu]; rfl
      have HL2 : Hid (Lies (wr.setCell ⟨g, o + j, none⟩ (.int .u8 (b.toNat : Int))) g o pre (Fil.un k row ahead s (j + 1) ++ row.drop (j + 1)) post fr) := by
        have := (unhide HLr).set j (by omega) b
        rw [hld, set_mid _ _ b j hul (by rw [← hld]; omega), ← unhide HX, List.drop_drop] at this
        exact this
      have HB2 : Hid (But (· = g) w (wr.setCell ⟨g, o + j, none⟩ (.int .u8 (b.toNat : Int)))) := (unhide HBr).setCell rfl _
      clear hlu hld hll hlj hul HX
      have hcd : wr.drew.cell? ⟨g, o + j, none⟩ = some (.int .u8 (x : Int)) := hc
      have hfd : wr.drew.frozen? ⟨g, o + j, none⟩ = false := hfz
      go_wp2_with fail
      go_region_with (first | (go_at_call 26; refine (unhide HC wr.drew rfl).mono ?_; rintro e w1 ⟨rfl, rfl⟩))
      all_goals
        go_wp2
        go_roundw
        case rel => exact ⟨j + 1, by omega, by go_num, (unhide HL2).drewN 1, (unhide HB2).drew⟩
        case measure => simp [intOf]; omega
    · have : j = row.length := by omega
      subst this
      have d1 : decide ((row.length : Int) < (row.length : Int)) = false := by simp
      rw [List.drop_length, List.append_nil] at HLr
      go_wp2
      go_end0
      exact ⟨rfl, unhide HLr, unhide HBr⟩
end Go.Proofs.YtmmilamaahmaoafDoor
