/- The program's unpacker of codes in memory. -/
import Derived.Test.YtjcoahahponabaaDoorLzd
import Derived.Test.YtjcoahahponabaaDoorMg6
import Derived.Test.YtjcoahahponabaaDoorMg14
import Derived.Test.YtjcoahahponabaaDoorMg4
import Derived.Deep.AppendLies
import Derived.BigRegion
namespace Go.Proofs.YtjcoahahponabaaDoor
open Go.RowKit Lz

def pcVals (l : List (Nat × Nat)) : List Value := l.flatMap fun q => [.int .i64 (q.1 : Int), .int .i64 (q.2 : Int)]
theorem pcVals_append (a b : List (Nat × Nat)) : pcVals (a ++ b) = pcVals a ++ pcVals b := by simp [pcVals]
theorem pcVals_length (l : List (Nat × Nat)) : (pcVals l).length = l.length * 2 := by
  induction l with
  | nil => rfl
  | cons q l ih => rw [show pcVals (q :: l) = [Value.int .i64 (q.1 : Int), .int .i64 (q.2 : Int)] ++ pcVals l from rfl, List.length_append, ih]; simp only [List.length_cons, List.length_nil]; omega
theorem pcVals_at (l : List (Nat × Nat)) : ∀ j, j < l.length → (pcVals l)[2 * j]? = some (.int .i64 ((l.getD j (0, 0)).1 : Int)) ∧ (pcVals l)[2 * j + 1]? = some (.int .i64 ((l.getD j (0, 0)).2 : Int)) := by
  induction l with
  | nil => intro j h; simp at h
  | cons q l ih =>
    intro j h
    cases j with
    | zero => exact ⟨rfl, rfl⟩
    | succ j =>
      have := ih j (by simpa using h)
      rw [show pcVals (q :: l) = .int .i64 (q.1 : Int) :: .int .i64 (q.2 : Int) :: pcVals l from rfl]
      rw [show 2 * (j + 1) = 2 * j + 1 + 1 by omega]
      simpa using this

theorem own_move {w w' : World} {base size n : Nat} {e : TypeId} {v : Value} {xs : List Value} (h : w.ownsRow base e size v n xs) (hb : ∀ g, v.ownBlock = some g → w'.heap[g]? = w.heap[g]?) : w'.ownsRow base e size v n xs := by
  refine ⟨h.1, ?_⟩
  rcases h.2 with h2 | ⟨g, cap, cur, rfl, h3, h4, r⟩
  · exact .inl h2
  · exact .inr ⟨g, cap, cur, rfl, h3, (hb g rfl).trans h4, r⟩
theorem own_apart {w : World} {b1 b2 s1 s2 n1 n2 : Nat} {e1 e2 : TypeId} {v1 v2 : Value} {x1 x2 : List Value} (h1 : w.ownsRow b1 e1 s1 v1 n1 x1) (h2 : w.ownsRow b2 e2 s2 v2 n2 x2) (he : e1 ≠ e2) : ∀ g, v1.ownBlock = some g → v2.ownBlock ≠ some g := by
  intro g q1 q2
  rcases h1.2 with ⟨rfl, _⟩ | ⟨g1, cap1, cur1, rfl, _, a4, _⟩
  · simp [Value.ownBlock] at q1
  · rcases h2.2 with ⟨rfl, _⟩ | ⟨g2, cap2, cur2, rfl, _, c4, _⟩
    · simp [Value.ownBlock] at q2
    · have e1' : g1 = g := by simpa [Value.ownBlock] using q1
      have e2' : g2 = g := by simpa [Value.ownBlock] using q2
      subst e1'; subst e2'
      rw [a4] at c4
      simp only [Option.some.injEq, Obj.cells.injEq] at c4
      exact he c4.2.1
theorem RAt.blk {w w' : World} {r k : Nat} {s : ByteArray} (h : RAt w r s k) (hb : w'.heap[r]? = w.heap[r]?) : RAt w' r s k :=
  ⟨(World.cell?_of_block (a := ⟨r, 0, none⟩) hb).trans h.text, (World.cell?_of_block (a := ⟨r, 1, none⟩) hb).trans h.count, (World.frozen?_of_block (a := ⟨r, 1, none⟩) hb).trans h.free1, h.within, h.small⟩

/-- An unpacker at block p with its reader at block r. -/
structure UN (w : World) (p r : Nat) (s : ByteArray) (k W S N most : Nat) (vL : Value) (pcs : List (Nat × Nat)) (la ll : Nat) (vT : Value) (out : List UInt8) : Prop where
  rd : w.cell? ⟨p, 0, none⟩ = some (.pointer (some ⟨r, 0, none⟩))
  cd : CD w p 1 W S N
  lg : w.cell? ⟨p, 4, none⟩ = some vL
  l0 : w.cell? ⟨p, 5, none⟩ = some (.int .i64 (la : Int))
  l1 : w.cell? ⟨p, 6, none⟩ = some (.int .i64 (ll : Int))
  tx : w.cell? ⟨p, 7, none⟩ = some vT
  ms : w.cell? ⟨p, 8, none⟩ = some (.int .i64 (most : Int))
  free : ∀ j, w.frozen? ⟨p, j, none⟩ = false
  oL : w.ownsRow (p + 1) 135 2 vL pcs.length (pcVals pcs)
  oT : w.ownsRow (p + 1) 5 1 vT out.length (byteVals out)
  bits : RAt w r s k
  ltp : r < p

section
variable {w w' w0 w1 : World} {p r : Nat} {s : ByteArray} {k W S N most : Nat} {vL : Value} {pcs : List (Nat × Nat)} {la ll : Nat} {vT : Value} {out : List UInt8}

theorem UN.lt (h : UN w p r s k W S N most vL pcs la ll vT out) : p < w.heap.size := World.block_lt_of_cell? _ _ h.rd
theorem UN.same (h : UN w p r s k W S N most vL pcs la ll vT out) (hb : ∀ i, r ≤ i → i < w.heap.size → w'.heap[i]? = w.heap[i]?) : UN w' p r s k W S N most vL pcs la ll vT out := by
  have hl := h.lt
  have hr := h.ltp
  have hp := hb p (by omega) hl
  have c : ∀ j, w'.cell? ⟨p, j, none⟩ = w.cell? ⟨p, j, none⟩ := fun j => World.cell?_of_block (a := ⟨p, j, none⟩) hp
  have f : ∀ j, w'.frozen? ⟨p, j, none⟩ = w.frozen? ⟨p, j, none⟩ := fun j => World.frozen?_of_block (a := ⟨p, j, none⟩) hp
  exact ⟨(c 0).trans h.rd, h.cd.same (fun j _ => c j) (fun j _ => f j), (c 4).trans h.lg, (c 5).trans h.l0, (c 6).trans h.l1, (c 7).trans h.tx, (c 8).trans h.ms, fun j => (f j).trans (h.free j),
    own_move h.oL (fun g q => hb g (by have := (h.oL.lt g q).1; omega) (h.oL.lt g q).2), own_move h.oT (fun g q => hb g (by have := (h.oT.lt g q).1; omega) (h.oT.lt g q).2), h.bits.blk (hb r (Nat.le_refl _) (by omega)), hr⟩
theorem UN.below (h : UN w p r s k W S N most vL pcs la ll vT out) (hb : Below w.heap.size w w') : UN w' p r s k W S N most vL pcs la ll vT out := h.same (fun i _ hi => hb.block i hi)
theorem UN.kc {S' N' : Nat} (h : UN w p r s k W S N most vL pcs la ll vT out) (hk : KC p 1 w w') (hc : CD w' p 1 W S' N') : UN w' p r s k W S' N' most vL pcs la ll vT out := by
  have hr := h.ltp
  exact ⟨(hk.cell 0 (by omega) (by omega)).trans h.rd, hc, (hk.cell 4 (by omega) (by omega)).trans h.lg, (hk.cell 5 (by omega) (by omega)).trans h.l0, (hk.cell 6 (by omega) (by omega)).trans h.l1, (hk.cell 7 (by omega) (by omega)).trans h.tx, (hk.cell 8 (by omega) (by omega)).trans h.ms, fun j => (hk.frozen j).trans (h.free j),
    own_move h.oL (fun g q => hk.block g (by have := (h.oL.lt g q).1; omega)), own_move h.oT (fun g q => hk.block g (by have := (h.oT.lt g q).1; omega)), h.bits.blk (hk.block r (by omega)), hr⟩
theorem UN.read {k' : Nat} (h : UN w p r s k W S N most vL pcs la ll vT out) (hb : But (· = r) w w') (hR : RAt w' r s k') : UN w' p r s k' W S N most vL pcs la ll vT out := by
  have hl := h.lt
  have hr := h.ltp
  have hp := hb.block p hl (by show ¬ p = r; omega)
  have c : ∀ j, w'.cell? ⟨p, j, none⟩ = w.cell? ⟨p, j, none⟩ := fun j => World.cell?_of_block (a := ⟨p, j, none⟩) hp
  have f : ∀ j, w'.frozen? ⟨p, j, none⟩ = w.frozen? ⟨p, j, none⟩ := fun j => World.frozen?_of_block (a := ⟨p, j, none⟩) hp
  exact ⟨(c 0).trans h.rd, h.cd.same (fun j _ => c j) (fun j _ => f j), (c 4).trans h.lg, (c 5).trans h.l0, (c 6).trans h.l1, (c 7).trans h.tx, (c 8).trans h.ms, fun j => (f j).trans (h.free j),
    own_move h.oL (fun g q => hb.block g (h.oL.lt g q).2 (by show ¬ g = r; have := (h.oL.lt g q).1; omega)), own_move h.oT (fun g q => hb.block g (h.oT.lt g q).2 (by show ¬ g = r; have := (h.oT.lt g q).1; omega)), hR, hr⟩
/-- The word ahead is another one. -/
theorem UN.setLast (h : UN w p r s k W S N most vL pcs la ll vT out) (la' ll' : Nat) : UN ((w.setCell ⟨p, 5, none⟩ (.int .i64 (la' : Int))).setCell ⟨p, 6, none⟩ (.int .i64 (ll' : Int))) p r s k W S N most vL pcs la' ll' vT out ∧ Below r w ((w.setCell ⟨p, 5, none⟩ (.int .i64 (la' : Int))).setCell ⟨p, 6, none⟩ (.int .i64 (ll' : Int))) := by
  have hr := h.ltp
  have c : ∀ j, j ≠ 5 → j ≠ 6 → ((w.setCell ⟨p, 5, none⟩ (.int .i64 (la' : Int))).setCell ⟨p, 6, none⟩ (.int .i64 (ll' : Int))).cell? ⟨p, j, none⟩ = w.cell? ⟨p, j, none⟩ := fun j h5 h6 => by
    rw [World.cell?_setCell_other _ _ _ _ (by intro e; injection e with _ e2; omega), World.cell?_setCell_other _ _ _ _ (by intro e; injection e with _ e2; omega)]
  have f : ∀ j, ((w.setCell ⟨p, 5, none⟩ (.int .i64 (la' : Int))).setCell ⟨p, 6, none⟩ (.int .i64 (ll' : Int))).frozen? ⟨p, j, none⟩ = w.frozen? ⟨p, j, none⟩ := fun j => by
    rw [World.frozen?_setCell, World.frozen?_setCell]
  have b : ∀ i, i ≠ p → ((w.setCell ⟨p, 5, none⟩ (.int .i64 (la' : Int))).setCell ⟨p, 6, none⟩ (.int .i64 (ll' : Int))).heap[i]? = w.heap[i]? := fun i hi => by
    rw [Below.heap_setCell _ _ _ _ hi, Below.heap_setCell _ _ _ _ hi]
  refine ⟨⟨(c 0 (by omega) (by omega)).trans h.rd, ⟨(c 1 (by omega) (by omega)).trans h.cd.width, (c 2 (by omega) (by omega)).trans h.cd.size, (c 3 (by omega) (by omega)).trans h.cd.next, (f 2).trans h.cd.free1, (f 3).trans h.cd.free2⟩, (c 4 (by omega) (by omega)).trans h.lg, ?_, ?_, (c 7 (by omega) (by omega)).trans h.tx, (c 8 (by omega) (by omega)).trans h.ms, fun j => (f j).trans (h.free j), own_move h.oL (fun g q => b g (by have := (h.oL.lt g q).1; omega)), own_move h.oT (fun g q => b g (by have := (h.oT.lt g q).1; omega)), h.bits.blk (b r (by omega)), hr⟩, ?_⟩
  · rw [World.cell?_setCell_other _ _ _ _ (by intro e; injection e with _ e2; omega)]
    exact World.cell?_setCell_same _ _ _ h.l0
  · have c6 : (w.setCell ⟨p, 5, none⟩ (.int .i64 (la' : Int))).cell? ⟨p, 6, none⟩ = some (.int .i64 (ll : Int)) := by
      rw [World.cell?_setCell_other _ _ _ _ (by intro e; injection e with _ e2; omega)]
      exact h.l1
    exact World.cell?_setCell_same _ _ _ c6
  · exact ((Below.refl r w).setCell (p := ⟨p, 5, none⟩) (by show r ≤ p; omega) _).setCell (p := ⟨p, 6, none⟩) (by show r ≤ p; omega) _
/-- A byte more behind the text. -/
theorem UN.pushT (h : UN w p r s k W S N most vL pcs la ll vT out) {b : UInt8} {v' : Value} (h0 : Below w.heap.size w w0)
    (hown : w1.ownsRow (p + 1) 5 1 v' (out ++ [b]).length (byteVals (out ++ [b]))) (hg : w0.grownBy w1 vT.ownBlock) :
    UN (w1.setCell ⟨p, 7, none⟩ v') p r s k W S N most vL pcs la ll v' (out ++ [b]) ∧ Below r w (w1.setCell ⟨p, 7, none⟩ v') ∧ ∀ i, i ≠ p → i < w.heap.size → vT.ownBlock ≠ some i → (w1.setCell ⟨p, 7, none⟩ v').heap[i]? = w.heap[i]? := by
  have hl := h.lt
  have hr := h.ltp
  have hz := h0.size
  have hblk : ∀ i, i < w.heap.size → vT.ownBlock ≠ some i → w1.heap[i]? = w.heap[i]? := fun i hi hn => by
    rw [hg.block i (by omega) (fun q => hn q.symm), h0.block i hi]
  have hp := hblk p hl (fun q => by have := (h.oT.lt p q).1; omega)
  have c : ∀ j, j ≠ 7 → (w1.setCell ⟨p, 7, none⟩ v').cell? ⟨p, j, none⟩ = w.cell? ⟨p, j, none⟩ := fun j h7 => by
    rw [World.cell?_setCell_other _ _ _ _ (by intro e; injection e with _ e2; omega)]
    exact World.cell?_of_block (a := ⟨p, j, none⟩) hp
  have f : ∀ j, (w1.setCell ⟨p, 7, none⟩ v').frozen? ⟨p, j, none⟩ = w.frozen? ⟨p, j, none⟩ := fun j => by
    rw [World.frozen?_setCell]
    exact World.frozen?_of_block (a := ⟨p, j, none⟩) hp
  have b : ∀ i, i ≠ p → i < w.heap.size → vT.ownBlock ≠ some i → (w1.setCell ⟨p, 7, none⟩ v').heap[i]? = w.heap[i]? := fun i hi hlt hn => by
    rw [Below.heap_setCell _ _ _ _ hi, hblk i hlt hn]
  refine ⟨⟨(c 0 (by omega)).trans h.rd, ⟨(c 1 (by omega)).trans h.cd.width, (c 2 (by omega)).trans h.cd.size, (c 3 (by omega)).trans h.cd.next, (f 2).trans h.cd.free1, (f 3).trans h.cd.free2⟩, (c 4 (by omega)).trans h.lg, (c 5 (by omega)).trans h.l0, (c 6 (by omega)).trans h.l1, ?_, (c 8 (by omega)).trans h.ms, fun j => (f j).trans (h.free j), own_move h.oL (fun g q => b g (by have := (h.oL.lt g q).1; omega) (h.oL.lt g q).2 (own_apart h.oL h.oT (by decide) g q)), ownsRow_setCell_below hown (by show p < p + 1; omega) _, h.bits.blk (b r (by omega) (by omega) (fun q => by have := (h.oT.lt r q).1; omega)), hr⟩, ?_, b⟩
  · exact World.cell?_setCell_same _ _ _ ((World.cell?_of_block (a := ⟨p, 7, none⟩) hp).trans h.tx)
  · refine ⟨hg.os.trans h0.os, hg.tape.trans h0.tape, hg.output.trans h0.output, ?_, fun i hi => ?_⟩
    · have := hg.size
      simp [World.setCell]
      omega
    · exact b i (by omega) (by omega) (fun q => by have := (h.oT.lt i q).1; omega)
/-- A piece more. -/
theorem UN.pushL (h : UN w p r s k W S N most vL pcs la ll vT out) {q : Nat × Nat} {v' : Value} (h0 : Below w.heap.size w w0)
    (hown : w1.ownsRow (p + 1) 135 2 v' (pcs ++ [q]).length (pcVals (pcs ++ [q]))) (hg : w0.grownBy w1 vL.ownBlock) :
    UN (w1.setCell ⟨p, 4, none⟩ v') p r s k W S N most v' (pcs ++ [q]) la ll vT out ∧ Below r w (w1.setCell ⟨p, 4, none⟩ v') := by
  have hl := h.lt
  have hr := h.ltp
  have hz := h0.size
  have hblk : ∀ i, i < w.heap.size → vL.ownBlock ≠ some i → w1.heap[i]? = w.heap[i]? := fun i hi hn => by
    rw [hg.block i (by omega) (fun q => hn q.symm), h0.block i hi]
  have hp := hblk p hl (fun q => by have := (h.oL.lt p q).1; omega)
  have c : ∀ j, j ≠ 4 → (w1.setCell ⟨p, 4, none⟩ v').cell? ⟨p, j, none⟩ = w.cell? ⟨p, j, none⟩ := fun j h7 => by
    rw [World.cell?_setCell_other _ _ _ _ (by intro e; injection e with _ e2; omega)]
    exact World.cell?_of_block (a := ⟨p, j, none⟩) hp
  have f : ∀ j, (w1.setCell ⟨p, 4, none⟩ v').frozen? ⟨p, j, none⟩ = w.frozen? ⟨p, j, none⟩ := fun j => by
    rw [World.frozen?_setCell]
    exact World.frozen?_of_block (a := ⟨p, j, none⟩) hp
  have b : ∀ i, i ≠ p → i < w.heap.size → vL.ownBlock ≠ some i → (w1.setCell ⟨p, 4, none⟩ v').heap[i]? = w.heap[i]? := fun i hi hlt hn => by
    rw [Below.heap_setCell _ _ _ _ hi, hblk i hlt hn]
  refine ⟨⟨(c 0 (by omega)).trans h.rd, ⟨(c 1 (by omega)).trans h.cd.width, (c 2 (by omega)).trans h.cd.size, (c 3 (by omega)).trans h.cd.next, (f 2).trans h.cd.free1, (f 3).trans h.cd.free2⟩, ?_, (c 5 (by omega)).trans h.l0, (c 6 (by omega)).trans h.l1, (c 7 (by omega)).trans h.tx, (c 8 (by omega)).trans h.ms, fun j => (f j).trans (h.free j), ownsRow_setCell_below hown (by show p < p + 1; omega) _, own_move h.oT (fun g q => b g (by have := (h.oT.lt g q).1; omega) (h.oT.lt g q).2 (own_apart h.oT h.oL (by decide) g q)), h.bits.blk (b r (by omega) (by omega) (fun q => by have := (h.oL.lt r q).1; omega)), hr⟩, ?_⟩
  · exact World.cell?_setCell_same _ _ _ ((World.cell?_of_block (a := ⟨p, 4, none⟩) hp).trans h.lg)
  · refine ⟨hg.os.trans h0.os, hg.tape.trans h0.tape, hg.output.trans h0.output, ?_, fun i hi => ?_⟩
    · have := hg.size
      simp [World.setCell]
      omega
    · exact b i (by omega) (by omega) (fun q => by have := (h.oL.lt i q).1; omega)
/-- No pieces any more. -/
theorem UN.setNone (h : UN w p r s k W S N most vL pcs la ll vT out) {a : Option Addr} {n c : Nat} (hv : vL = .slice a n c) : UN (w.setCell ⟨p, 4, none⟩ (.slice a 0 c)) p r s k W S N most (.slice a 0 c) [] la ll vT out ∧ Below r w (w.setCell ⟨p, 4, none⟩ (.slice a 0 c)) := by
  have hr := h.ltp
  have hc : ∀ j, j ≠ 4 → (w.setCell ⟨p, 4, none⟩ (.slice a 0 c)).cell? ⟨p, j, none⟩ = w.cell? ⟨p, j, none⟩ := fun j h4 => World.cell?_setCell_other _ _ _ _ (by intro e; injection e with _ e2; omega)
  have f : ∀ j, (w.setCell ⟨p, 4, none⟩ (.slice a 0 c)).frozen? ⟨p, j, none⟩ = w.frozen? ⟨p, j, none⟩ := fun j => World.frozen?_setCell _ _ _ _
  have b : ∀ i, i ≠ p → (w.setCell ⟨p, 4, none⟩ (.slice a 0 c)).heap[i]? = w.heap[i]? := fun i hi => Below.heap_setCell _ _ _ _ hi
  have hoL : w.ownsRow (p + 1) 135 2 (.slice a 0 c) 0 [] := by
    refine ⟨by simp, ?_⟩
    rcases h.oL.2 with ⟨e, _⟩ | ⟨g, cap, cur, e, h3, h4, h5, h6, h7, _⟩
    · rw [hv] at e
      injection e with e1 e2 e3
      subst e1; subst e3
      exact .inl ⟨rfl, rfl⟩
    · rw [hv] at e
      injection e with e1 e2 e3
      subst e1; subst e3
      exact .inr ⟨g, c, cur, rfl, h3, h4, Nat.zero_le _, h6, h7, by simp⟩
  refine ⟨⟨(hc 0 (by omega)).trans h.rd, ⟨(hc 1 (by omega)).trans h.cd.width, (hc 2 (by omega)).trans h.cd.size, (hc 3 (by omega)).trans h.cd.next, (f 2).trans h.cd.free1, (f 3).trans h.cd.free2⟩, World.cell?_setCell_same _ _ _ h.lg, (hc 5 (by omega)).trans h.l0, (hc 6 (by omega)).trans h.l1, (hc 7 (by omega)).trans h.tx, (hc 8 (by omega)).trans h.ms, fun j => (f j).trans (h.free j), own_move hoL (fun g q => b g (by have := (hoL.lt g q).1; omega)), own_move h.oT (fun g q => b g (by have := (h.oT.lt g q).1; omega)), h.bits.blk (b r (by omega)), hr⟩, ?_⟩
  exact (Below.refl r w).setCell (p := ⟨p, 4, none⟩) (by show r ≤ p; omega) _
end
end Go.Proofs.YtjcoahahponabaaDoor
