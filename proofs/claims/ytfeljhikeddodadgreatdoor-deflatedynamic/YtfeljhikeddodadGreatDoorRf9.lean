/- The document's reading of a dynamic block in memory: what stays as it was; the tables that it makes. -/
import Derived.Test.YtfeljhikeddodadGreatDoorMh26
import Derived.Test.YtfeljhikeddodadGreatDoorMh23
namespace Go.Proofs.YtfeljhikeddodadGreatDoor
open Go.RowKit Pm Cn Cd Nf

/-- The reading at R, so many bits on, as all else was in w. -/
structure Dk (w : World) (R : Nat) (s : ByteArray) (out : List UInt8) (most : Nat) (x : Ex) (wr : World) (k : Nat) : Prop where
  rg : Rg wr R s k out most x
  but : But (· = R) w wr
  rw : Rw R w wr
  lt : R < w.heap.size
  r2 : rowA w R 2 < w.heap.size
  r11 : rowA w R 11 < w.heap.size
/-- .. with an error. -/
structure Df (w : World) (R : Nat) (wr : World) : Prop where
  rf : Rf wr R 1
  but : But (· = R) w wr
  lt : R < w.heap.size
section
variable {w wr w' : World} {R : Nat} {s : ByteArray} {k k' : Nat} {out : List UInt8} {most : Nat} {x : Ex}

theorem Dk.start (h : Rg w R s k out most x) : Dk w R s out most x w k := ⟨h, But.refl _ _, Rw.refl _ _, h.lt, h.row2.2, h.row11.2⟩
theorem Dk.size (h : Dk w R s out most x wr k) : w.heap.size ≤ wr.heap.size := h.but.size
theorem Df.size (h : Df w R wr) : w.heap.size ≤ wr.heap.size := h.but.size
theorem Dk.below (h : Dk w R s out most x wr k) (hb : Below wr.heap.size wr w') : Dk w R s out most x w' k := by
  have hs := h.size
  obtain ⟨a, b⟩ := h.rg.still hb
  exact ⟨a, h.but.of_below hb (fun q h1 h2 => by omega), h.rw.trans b, h.lt, h.r2, h.r11⟩
theorem Df.below (h : Df w R wr) (hb : Below wr.heap.size wr w') : Df w R w' := by
  have hs := h.size
  exact ⟨h.rf.below hb h.rf.lt, h.but.of_below hb (fun q h1 h2 => by omega), h.lt⟩
theorem Dk.moved (h : Dk w R s out most x wr k) (hg : Rg w' R s k' out most x) (hb : But (· = R) wr w') (hr : Rw R wr w') : Dk w R s out most x w' k' := ⟨hg, h.but.trans hb, h.rw.trans hr, h.lt, h.r2, h.r11⟩
theorem Dk.failed (h : Dk w R s out most x wr k) (hf : Rf w' R 1) (hb : But (· = R) wr w') : Df w R w' := ⟨hf, h.but.trans hb, h.lt⟩
/-- Only what is new since w is turned. -/
theorem Dk.apart {S : Nat → Prop} (h : Dk w R s out most x wr k) (hb : But S wr w') (hS : ∀ q, S q → w.heap.size ≤ q) : Dk w R s out most x w' k := by
  have h2 := h.r2
  have h11 := h.r11
  have hl := h.lt
  have e2 : rowA wr R 2 = rowA w R 2 := h.rw.1
  have e11 : rowA wr R 11 = rowA w R 11 := h.rw.2
  obtain ⟨a, b⟩ := h.rg.aparts hb (fun q => by have := hS _ q; omega) (fun q => by have := hS _ q; omega) (fun q => by have := hS _ q; omega)
  refine ⟨a, ⟨hb.os.trans h.but.os, hb.tape.trans h.but.tape, hb.output.trans h.but.output, Nat.le_trans h.but.size hb.size, fun i hi hn => ?_⟩, h.rw.trans b, hl, h2, h11⟩
  rw [hb.block i (by have := h.but.size; omega) (fun q => by have := hS _ q; omega)]
  exact h.but.block i hi hn
theorem Df.apart {S : Nat → Prop} (h : Df w R wr) (hb : But S wr w') (hS : ∀ q, S q → w.heap.size ≤ q) : Df w R w' := by
  have hl := h.lt
  have hlr := h.rf.lt
  have hs := h.but.size
  refine ⟨⟨(hb.cell (p := ⟨R, 4, none⟩) hlr (fun q => by have := hS _ q; simp only at this; omega)).trans h.rf.err, h.rf.pos, fun j hj => by rw [hb.cell (p := ⟨R, j, none⟩) hlr (fun q => by have := hS _ q; simp only at this; omega)]; exact h.rf.others j hj, fun j => by rw [hb.frozen (p := ⟨R, j, none⟩) hlr (fun q => by have := hS _ q; simp only at this; omega)]; exact h.rf.free j⟩, ⟨hb.os.trans h.but.os, hb.tape.trans h.but.tape, hb.output.trans h.but.output, Nat.le_trans h.but.size hb.size, fun i hi hn => ?_⟩, hl⟩
  rw [hb.block i (by omega) (fun q => by have := hS _ q; omega)]
  exact h.but.block i hi hn
theorem dok (h : Dk w R s out most x wr k) : Calls Tryz.prog 44 #[.pointer (some ⟨R, 0, none⟩)] wr fun e w' => e = .returned (.bool true) ∧ w' = wr := rok_yes wr h.rg
theorem dokF (h : Df w R wr) : Calls Tryz.prog 44 #[.pointer (some ⟨R, 0, none⟩)] wr fun e w' => e = .returned (.bool false) ∧ w' = wr := rok_no wr h.rf
theorem dfail (h : Dk w R s out most x wr k) : Calls Tryz.prog 49 #[.pointer (some ⟨R, 0, none⟩), .int .i64 1] wr fun e w' => e = .returned (.tuple #[]) ∧ Df w R w' ∧ But (· = R) wr w' := by
  refine (rfail_new 1 wr h.rg (.inl rfl)).mono ?_
  rintro e w' ⟨rfl, hf, hb⟩
  exact ⟨rfl, h.failed hf hb, hb⟩
theorem dfailF (h : Df w R wr) : Calls Tryz.prog 49 #[.pointer (some ⟨R, 0, none⟩), .int .i64 1] wr fun e w' => e = .returned (.tuple #[]) ∧ w' = wr := rfail_old 1 wr h.rf
theorem dget (d : Nat) (hd : d ≤ 32) (h : Dk w R s out most x wr k) :
    Calls Tryz.prog 45 #[.pointer (some ⟨R, 0, none⟩), .int .i64 (d : Int)] wr fun e w' =>
      (∃ y, get (tv s) (8 * s.size) k d = some y ∧ y < 2 ^ d ∧ e = .returned (.int .i64 (y : Nat)) ∧ Dk w R s out most x w' (k + d) ∧ But (· = R) wr w') ∨
      (get (tv s) (8 * s.size) k d = none ∧ e = .returned (.int .i64 0) ∧ Df w R w' ∧ But (· = R) wr w') := by
  refine (rget_any d wr h.rg hd).mono ?_
  rintro e w' (⟨a1, rfl, a2, a3, a4⟩ | ⟨a1, rfl, a2, a3⟩)
  · exact .inl ⟨_, get_some a1, Nat.mod_lt _ (Nat.two_pow_pos d), rfl, h.moved a2 a3 a4, a3⟩
  · exact .inr ⟨by unfold Nf.get; rw [if_neg a1], rfl, h.failed a2 a3, a3⟩
theorem dgetF (d : Nat) (h : Df w R wr) :
    Calls Tryz.prog 45 #[.pointer (some ⟨R, 0, none⟩), .int .i64 (d : Int)] wr fun e w' => e = .returned (.int .i64 0) ∧ Df w R w' := by
  refine (rget_bad d wr h.rf).mono ?_
  rintro e w' ⟨rfl, n, rfl⟩
  exact ⟨rfl, h.below (below_drewN (Below.refl _ _) n)⟩
theorem dword (g : Nat) (l : Nat → Nat) (h : Dk w R s out most x wr k) (hW : Wz wr R g 19 l) :
    Calls Tryz.prog 82 #[.pointer (some ⟨R, 0, none⟩), .slice (some ⟨g, 0, none⟩) 19 19] wr fun e w' =>
      (∃ i, wd (tv s) (8 * s.size) l 19 k = some i ∧ i < 19 ∧ 0 < l i ∧ e = .returned (.int .i64 (i : Nat)) ∧ Dk w R s out most x w' (k + l i) ∧ But (· = R) wr w' ∧ Rw R wr w') ∨
      (wd (tv s) (8 * s.size) l 19 k = none ∧ e = .returned (.int .i64 0) ∧ Df w R w' ∧ But (· = R) wr w') := by
  refine (rword_any g 19 l wr h.rg hW.ws hW.le hW.few hW.all).mono ?_
  rintro e w' (⟨i, a1, a2, a3, rfl, a4, a5, a6⟩ | ⟨a1, rfl, a2, a3⟩)
  · exact .inl ⟨i, a1, a2, a3, rfl, h.moved a4 a5 a6, a5, a6⟩
  · exact .inr ⟨a1, rfl, h.failed a2 a3, a3⟩
theorem dcodes (ao : Option Addr) (len cap : Nat) (l : Nat → Nat) (h : Dk w R s out most x wr k) (hP : IsInts wr ao len (zl l)) (hlen : len ≤ 300) (hz : ∀ i, l i ≤ 15) :
    Calls Tryz.prog 83 #[.pointer (some ⟨R, 0, none⟩), .slice ao len cap] wr fun e w' =>
      (Right l len ∧ ∃ g, e = .returned (.slice (some ⟨g, 0, none⟩) len len) ∧ (0 < len → Wz w' R g len l) ∧ wr.heap.size ≤ g ∧ Dk w R s out most x w' k ∧ Below wr.heap.size wr w') ∨
      (¬ Right l len ∧ e = .returned (.slice none 0 0) ∧ Df w R w') := by
  refine (rcodes_any ao len cap l wr h.rg hP hlen (fun i _ => hz i)).mono ?_
  rintro e w' (⟨hr, g, rfl, hws, hg, hb⟩ | ⟨hr, rfl, hf, hb⟩)
  · have hd := h.below hb
    have e2 : rowA w' R 2 = rowA w R 2 := hd.rw.1
    have e11 : rowA w' R 11 = rowA w R 11 := hd.rw.2
    have h2 := h.r2
    have h11 := h.r11
    have hl := h.lt
    have hs := h.size
    exact .inl ⟨hr, g, rfl, fun h0 => ⟨hws, fun i _ => hz i, hlen, by have := right_all (z := zl l) (n := len) (by rw [nat_zl]; exact hr); rwa [nat_zl] at this, by omega, by omega, by omega, by have := World.block_lt_of_cell? _ _ (hws 0 h0); exact this⟩, hg, hd, hb⟩
  · exact .inr ⟨hr, rfl, h.failed hf hb⟩
theorem Wz.but {S : Nat → Prop} {g N : Nat} {l : Nat → Nat} (h : Wz wr R g N l) (hb : But S wr w') (hg : ¬ S g) (hr : Rw R wr w') : Wz w' R g N l := by
  have hl := h.lt
  have hs := hb.size
  exact ⟨fun i hi => (hb.cell (p := ⟨g, i, none⟩) hl hg).trans (h.ws i hi), h.le, h.few, h.all, h.ap1, by rw [hr.1]; exact h.ap2, by rw [hr.2]; exact h.ap3, by omega⟩
/-- A field of the reading is turned. -/
theorem Dk.field5 (h : Dk w R s out most x wr k) (v : Slc) : Dk w R s out most { x with m5 := v } (wr.setCell ⟨R, 5, none⟩ v.1) k := by
  have hb : But (· = R) wr (wr.setCell ⟨R, 5, none⟩ v.1) := (But.refl (· = R) wr).setCell (p := ⟨R, 5, none⟩) rfl v.1
  have hu := h.rg.f5
  have hc : ∀ i, i ≠ 5 → (wr.setCell ⟨R, 5, none⟩ v.1).cell? ⟨R, i, none⟩ = wr.cell? ⟨R, i, none⟩ := fun i hi => by rw [cell_set _ _ _ _ _ _ hu, if_neg hi]
  obtain ⟨a, b⟩ := h.rg.turned (x' := { x with m5 := v }) hb (fun i _ hi => hc i (by omega)) ((hc 1 (by omega)).trans h.rg.at_) ⟨by rw [cell_set _ _ _ _ _ _ hu, if_pos rfl], (hc 6 (by omega)).trans h.rg.f6⟩ ((hc 7 (by omega)).trans h.rg.uses7) ((hc 8 (by omega)).trans h.rg.uses8) ⟨rfl, rfl⟩ ⟨(hc 9 (by omega)).trans h.rg.f9, (hc 10 (by omega)).trans h.rg.f10⟩ (fun i => frozen_set _ _ _ _) h.rg.within
  exact ⟨a, h.but.trans hb, h.rw.trans b, h.lt, h.r2, h.r11⟩
theorem Dk.field6 (h : Dk w R s out most x wr k) (v : Slc) : Dk w R s out most { x with m6 := v } (wr.setCell ⟨R, 6, none⟩ v.1) k := by
  have hb : But (· = R) wr (wr.setCell ⟨R, 6, none⟩ v.1) := (But.refl (· = R) wr).setCell (p := ⟨R, 6, none⟩) rfl v.1
  have hu := h.rg.f6
  have hc : ∀ i, i ≠ 6 → (wr.setCell ⟨R, 6, none⟩ v.1).cell? ⟨R, i, none⟩ = wr.cell? ⟨R, i, none⟩ := fun i hi => by rw [cell_set _ _ _ _ _ _ hu, if_neg hi]
  obtain ⟨a, b⟩ := h.rg.turned (x' := { x with m6 := v }) hb (fun i _ hi => hc i (by omega)) ((hc 1 (by omega)).trans h.rg.at_) ⟨(hc 5 (by omega)).trans h.rg.f5, by rw [cell_set _ _ _ _ _ _ hu, if_pos rfl]⟩ ((hc 7 (by omega)).trans h.rg.uses7) ((hc 8 (by omega)).trans h.rg.uses8) ⟨rfl, rfl⟩ ⟨(hc 9 (by omega)).trans h.rg.f9, (hc 10 (by omega)).trans h.rg.f10⟩ (fun i => frozen_set _ _ _ _) h.rg.within
  exact ⟨a, h.but.trans hb, h.rw.trans b, h.lt, h.r2, h.r11⟩
/-- What a dynamic block's head leaves: the lengths in a row. -/
structure Lrow (w w' : World) (row : List Nat) (many : Nat) (x x' : Ex) : Prop where
  row : ∃ g c, w.heap.size ≤ g ∧ x' = { x with m5 := slc (some ⟨g, 0, none⟩) many c, m6 := slc (some ⟨g, many, none⟩) (row.length - many) (c - many) } ∧ ∀ i, i < row.length → w'.cell? ⟨g, i, none⟩ = some (.int .i64 (row.getD i 0 : Nat))
end

/-- The world behind the two tables. -/
def wD (w : World) : World := (w.alloc (.cells #[.int .i64 16, .int .i64 17, .int .i64 18, .int .i64 0, .int .i64 8, .int .i64 7, .int .i64 9, .int .i64 6, .int .i64 10, .int .i64 5, .int .i64 11, .int .i64 4, .int .i64 12, .int .i64 3, .int .i64 13, .int .i64 2, .int .i64 14, .int .i64 1, .int .i64 15] 3)).alloc (.cells (madeCells #[.int .i64 0] 19) 3)
theorem wD_below (w : World) : Below w.heap.size w (wD w) := ((Below.refl _ _).alloc (Nat.le_refl _) _).alloc (by simp) _
theorem wD_size (w : World) : (wD w).heap.size = w.heap.size + 2 := by simp [wD]
theorem wD_made (w : World) : AR (wD w) (w.heap.size + 1) 19 (fun _ => 0) := by
  have h := AR.made (w.alloc (.cells #[.int .i64 16, .int .i64 17, .int .i64 18, .int .i64 0, .int .i64 8, .int .i64 7, .int .i64 9, .int .i64 6, .int .i64 10, .int .i64 5, .int .i64 11, .int .i64 4, .int .i64 12, .int .i64 3, .int .i64 13, .int .i64 2, .int .i64 14, .int .i64 1, .int .i64 15] 3)) 19 (by omega)
  have e : (w.alloc (.cells #[.int .i64 16, .int .i64 17, .int .i64 18, .int .i64 0, .int .i64 8, .int .i64 7, .int .i64 9, .int .i64 6, .int .i64 10, .int .i64 5, .int .i64 11, .int .i64 4, .int .i64 12, .int .i64 3, .int .i64 13, .int .i64 2, .int .i64 14, .int .i64 1, .int .i64 15] 3)).heap.size = w.heap.size + 1 := by simp
  rw [e] at h
  exact h
theorem wD_order (w : World) (j : Nat) (hj : j < 19) : (wD w).cell? ⟨w.heap.size, j, none⟩ = some (.int .i64 (order.getD j 0 : Nat)) := by
  unfold wD
  rw [World.cell?_alloc_lt _ _ ⟨w.heap.size, j, none⟩ (by simp)]
  have key : ∀ i, i < 19 → (#[.int .i64 16, .int .i64 17, .int .i64 18, .int .i64 0, .int .i64 8, .int .i64 7, .int .i64 9, .int .i64 6, .int .i64 10, .int .i64 5, .int .i64 11, .int .i64 4, .int .i64 12, .int .i64 3, .int .i64 13, .int .i64 2, .int .i64 14, .int .i64 1, .int .i64 15] : Array Value)[i]? = some (Value.int .i64 (order.getD i 0 : Nat))
    | 0, _ => rfl | 1, _ => rfl | 2, _ => rfl | 3, _ => rfl | 4, _ => rfl | 5, _ => rfl | 6, _ => rfl | 7, _ => rfl | 8, _ => rfl | 9, _ => rfl | 10, _ => rfl | 11, _ => rfl | 12, _ => rfl | 13, _ => rfl | 14, _ => rfl | 15, _ => rfl | 16, _ => rfl | 17, _ => rfl | 18, _ => rfl
    | n + 19, h => absurd h (by omega)
  rw [World.cell?_alloc_mark]
  exact key j hj
end Go.Proofs.YtfeljhikeddodadGreatDoor
