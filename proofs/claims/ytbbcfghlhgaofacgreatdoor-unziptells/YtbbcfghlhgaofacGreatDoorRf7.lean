/- The document's reading of symbols in memory: what stays as it was. -/
import Derived.Test.YtbbcfghlhgaofacGreatDoorMg17
namespace Go.Proofs.YtbbcfghlhgaofacGreatDoor
open Go.RowKit Pm Cn Cd Nf

/-- Words of a right code, apart from the reading. -/
structure Wz (w : World) (R g N : Nat) (l : Nat → Nat) : Prop where
  ws : Ws w g N l
  le : ∀ i, i < N → l i ≤ 15
  few : N ≤ 300
  all : all l N ≤ 32768
  ap1 : g ≠ R
  ap2 : g ≠ rowA w R 2
  ap3 : g ≠ rowA w R 11
  lt : g < w.heap.size
theorem Wz.kr {w w' : World} {R g N : Nat} {l : Nat → Nat} {S : Nat → Prop} (h : Wz w R g N l) (hk : KR R S w w') (h0 : ¬ S g) : Wz w' R g N l := by
  have hl := h.lt
  have hs := hk.but.size
  refine ⟨h.ws.kr hk h0 h.ap1 h.ap2 h.ap3, h.le, h.few, h.all, h.ap1, ?_, ?_, by omega⟩
  · rcases hk.row2 with e | e
    · rw [e]; exact h.ap2
    · omega
  · rcases hk.row11 with e | e
    · rw [e]; exact h.ap3
    · omega

/-- A reading inside a run of symbols: W the world in which it began. -/
structure Wk (W : World) (R g : Nat) (s : ByteArray) (w : World) (k : Nat) (out : List UInt8) (most : Nat) (x : Ex) : Prop where
  rg : Rg w R s k out most x
  e7 : x.u7.1 = .slice (some ⟨g, 0, none⟩) 300 300
  e8 : x.u8.1 = .slice (some ⟨g + 1, 0, none⟩) 40 40
  qs : x.q ≤ out.length
  us7 : Ur w g 300 k
  us8 : Ur w (g + 1) 40 k
  kr : KR R (fun j => j = g ∨ j = g + 1) W w
  ltR : R < g
  lt2 : rowA W R 2 < g
  lt11 : rowA W R 11 < g
  size : W.heap.size = g + 2

section
variable {W w w' : World} {R g : Nat} {s : ByteArray} {k k' : Nat} {out : List UInt8} {most : Nat} {x : Ex}

theorem Wk.rows (h : Wk W R g s w k out most x) : (rowA w R 2 < g ∨ g + 2 ≤ rowA w R 2) ∧ (rowA w R 11 < g ∨ g + 2 ≤ rowA w R 11) := by
  have a := h.lt2
  have b := h.lt11
  have c := h.size
  constructor
  · rcases h.kr.row2 with e | e
    · left; omega
    · right; omega
  · rcases h.kr.row11 with e | e
    · left; omega
    · right; omega
theorem Wk.lt (h : Wk W R g s w k out most x) : g + 2 ≤ w.heap.size := by have := h.kr.but.size; have := h.size; omega
theorem Wk.but (h : Wk W R g s w k out most x) (hb : But (· = R) w w') (hr : Rw R w w') (hg : Rg w' R s k' out most x) (hk : k ≤ k') : Wk W R g s w' k' out most x := by
  have := h.ltR
  exact ⟨hg, h.e7, h.e8, h.qs, h.us7.but hb (by omega) hk, h.us8.but hb (by omega) hk, h.kr.trans (KR.of hb hr), h.ltR, h.lt2, h.lt11, h.size⟩
theorem Wk.below (h : Wk W R g s w k out most x) (hb : Below w.heap.size w w') : Wk W R g s w' k out most x := by
  have hl := h.rg.lt
  exact h.but ((But.refl _ _).of_below hb (fun k h1 h2 => by omega)) (h.rg.still hb).2 (h.rg.still hb).1 (Nat.le_refl _)
theorem Wk.use7 (h : Wk W R g s w k out most x) (i y : Nat) (hi : i < 300) (hy : y ≤ k) : Wk W R g s (w.setCell ⟨g, i, none⟩ (.int .i64 (y : Nat))) k out most x := by
  have hr := h.rows
  have hR := h.ltR
  have hb : But (· = g) w (w.setCell ⟨g, i, none⟩ (.int .i64 (y : Nat))) := (But.refl (· = g) w).setCell (p := ⟨g, i, none⟩) rfl _
  obtain ⟨a, b⟩ := h.rg.aparts hb (by omega) (by omega) (by omega)
  exact ⟨a, h.e7, h.e8, h.qs, h.us7.set i y hi hy, h.us8.but hb (by omega) (Nat.le_refl _), h.kr.trans ⟨hb.mono (fun _ _ q => .inl (.inl q)), .inl b.1, .inl b.2⟩, hR, h.lt2, h.lt11, h.size⟩
theorem Wk.use8 (h : Wk W R g s w k out most x) (i y : Nat) (hi : i < 40) (hy : y ≤ k) : Wk W R g s (w.setCell ⟨g + 1, i, none⟩ (.int .i64 (y : Nat))) k out most x := by
  have hr := h.rows
  have hR := h.ltR
  have hb : But (· = g + 1) w (w.setCell ⟨g + 1, i, none⟩ (.int .i64 (y : Nat))) := (But.refl (· = g + 1) w).setCell (p := ⟨g + 1, i, none⟩) rfl _
  obtain ⟨a, b⟩ := h.rg.aparts hb (by omega) (by omega) (by omega)
  exact ⟨a, h.e7, h.e8, h.qs, h.us7.but hb (by omega) (Nat.le_refl _), h.us8.set i y hi hy, h.kr.trans ⟨hb.mono (fun _ _ q => .inl (.inr q)), .inl b.1, .inl b.2⟩, hR, h.lt2, h.lt11, h.size⟩
theorem Wk.grown {out' : List UInt8} {x' : Ex} (h : Wk W R g s w k out most x) (hg : Rg w' R s k out' most x') (hk : KR R (fun _ => False) w w') (h7 : x'.u7 = x.u7) (h8 : x'.u8 = x.u8) (hq : x'.q ≤ out'.length) : Wk W R g s w' k out' most x' := by
  have hr := h.rows
  have hR := h.ltR
  refine ⟨hg, (by rw [h7]; exact h.e7), (by rw [h8]; exact h.e8), hq, h.us7.but hk.but (fun q => ?_) (Nat.le_refl _), h.us8.but hk.but (fun q => ?_) (Nat.le_refl _), h.kr.trans (hk.mono (fun _ _ q => q.elim)), hR, h.lt2, h.lt11, h.size⟩
  · rcases q with q | q | q | q
    · exact q
    · omega
    · omega
    · omega
  · rcases q with q | q | q | q
    · exact q
    · omega
    · omega
    · omega
theorem Wk.pushed {w0 w1 : World} {v v' : Value} {b : UInt8} (h : Wk W R g s w k out most x) (hv : w.cell? ⟨R, 2, none⟩ = some v) (h0 : Below w.heap.size w w0)
    (hown : w1.ownsRow (R + 1) 5 1 v' (out ++ [b]).length (byteVals (out ++ [b]))) (hg : w0.grownBy w1 v.ownBlock) (hat : v'.ownBlock = v.ownBlock ∨ v'.ownBlock = some w0.heap.size) (hm : out.length + 1 ≤ most) :
    Wk W R g s (w1.setCell ⟨R, 2, none⟩ v') k (out ++ [b]) most x := by
  obtain ⟨a, c⟩ := h.rg.pushed (S := fun _ => False) hv h0 hown hg hat hm
  exact h.grown a c rfl rfl (by have := h.qs; simp; omega)
theorem Wk.tokened {w0 w1 : World} {v v' : Value} {xs' : List Value} (h : Wk W R g s w k out most x) (hv : w.cell? ⟨R, 11, none⟩ = some v) (h0 : Below w.heap.size w w0)
    (hown : w1.ownsRow (R + 1) 73 3 v' (x.q + 1) xs') (hg : w0.grownBy w1 v.ownBlock) (hat : v'.ownBlock = v.ownBlock ∨ v'.ownBlock = some w0.heap.size) (hq : x.q + 1 ≤ out.length) :
    Wk W R g s (w1.setCell ⟨R, 11, none⟩ v') k out most { x with q := x.q + 1 } := by
  obtain ⟨a, c⟩ := h.rg.tokened (S := fun _ => False) hv h0 hown hg hat
  exact h.grown a c rfl rfl hq
theorem Wk.bel (h : Wk W R g s w k out most x) (hW : ∃ k0 o0 x0, Rg W R s k0 o0 most x0) : Below R W w := by
  obtain ⟨k0, o0, x0, hg⟩ := hW
  have := h.ltR
  exact h.kr.below hg (fun j q => by rcases q with q | q <;> omega)
theorem Wk.wz {ga N : Nat} {l : Nat → Nat} (h : Wk W R g s w k out most x) (hA : Wz W R ga N l) (hlt : ga < g) : Wz w R ga N l := hA.kr h.kr (fun q => by rcases q with q | q <;> omega)
theorem Wk.count7 (h : Wk W R g s w k out most x) (i : Nat) (hi : i < 300) : ∃ y : Nat, y ≤ k ∧ w.cell? ⟨g, i, none⟩ = some (.int .i64 (y : Int)) ∧ w.frozen? ⟨g, i, none⟩ = false := by
  obtain ⟨⟨y, a, b⟩, c⟩ := h.us7 i hi
  exact ⟨y, a, b, c⟩
theorem Wk.count8 (h : Wk W R g s w k out most x) (i : Nat) (hi : i < 40) : ∃ y : Nat, y ≤ k ∧ w.cell? ⟨g + 1, i, none⟩ = some (.int .i64 (y : Int)) ∧ w.frozen? ⟨g + 1, i, none⟩ = false := by
  obtain ⟨⟨y, a, b⟩, c⟩ := h.us8 i hi
  exact ⟨y, a, b, c⟩
/-- The bound of counts may be raised before the next one: a symbol has been read. -/
theorem Wk.tok (h : Wk W R g s w k out most x) : ∃ a c xs, w.cell? ⟨R, 11, none⟩ = some (.slice a x.q c) ∧ w.ownsRow (R + 1) 73 3 (.slice a x.q c) x.q xs := by
  obtain ⟨v, xs, hv, hown⟩ := h.rg.toks
  obtain ⟨a, c, rfl⟩ := own_shape3 hown
  exact ⟨a, c, xs, hv, hown⟩
end
end Go.Proofs.YtbbcfghlhgaofacGreatDoor
