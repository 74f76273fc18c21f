/- The document's disk: NewDisk. -/
import Derived.Test.YthkecbgifajmmaaDoorDm3
import Derived.Test.YthkecbgifajmmaaDoorStc
namespace Go.Proofs.YthkecbgifajmmaaDoor
open Go.RowKit

theorem nulB64 : nulB 64 = zeroS := by kernel_rfl

/-- A disk in the making: i sectors of each, then one more kept. -/
structure MQ (w : World) (B p i : Nat) (sk : Option Addr) (ck j : Nat) (sn : Option Addr) (cn : Nat) : Prop where
  box : w.heap[p]? = some (.cells #[.slice sk i ck, .slice sn j cn, .slice none 0 0, .int .i64 (-1)] 44)
  kept : w.ownsRow B 9 1 (.slice sk i ck) i (strL (fun _ => zeroS) i)
  now : w.ownsRow B 9 1 (.slice sn j cn) j (strL (fun _ => zeroS) j)
  pB : B ≤ p
  ap : ∀ b, b ∈ (blkS sk).toList → b ∉ (blkS sn).toList
  pk : ∀ b, b ∈ (blkS sk).toList → b ≠ p
  pn : ∀ b, b ∈ (blkS sn).toList → b ≠ p

theorem MQ.cells {w : World} {B p i : Nat} {sk : Option Addr} {ck j : Nat} {sn : Option Addr} {cn : Nat} (h : MQ w B p i sk ck j sn cn) : w.cell? ⟨p, 0, none⟩ = some (.slice sk i ck) ∧ w.cell? ⟨p, 1, none⟩ = some (.slice sn j cn) ∧ (∀ k, w.frozen? ⟨p, k, none⟩ = false) ∧ p < w.heap.size :=
  ⟨by rw [blk_cell h.box]; rfl, by rw [blk_cell h.box]; rfl, fun k => blk_frozen h.box k, blk_lt h.box⟩
theorem MQ.below {w w' : World} {B p i : Nat} {sk : Option Addr} {ck j : Nat} {sn : Option Addr} {cn : Nat} (h : MQ w B p i sk ck j sn cn) (hb : Below w.heap.size w w') : MQ w' B p i sk ck j sn cn :=
  ⟨(hb.block p (blk_lt h.box)).trans h.box, own_keep h.kept (fun b hk => hb.block b (own_lt h.kept b hk)), own_keep h.now (fun b hk => hb.block b (own_lt h.now b hk)), h.pB, h.ap, h.pk, h.pn⟩
theorem blk_own {s : Option Addr} {n c : Nat} (b : Nat) : (Value.slice s n c).ownBlock = some b ↔ b ∈ (blkS s).toList := by
  rw [own_blkS]
  cases h : blkS s <;> simp
  exact eq_comm
/-- One more kept. -/
theorem MQ.addK {w w6 : World} {B p i : Nat} {sk : Option Addr} {ck j : Nat} {sn : Option Addr} {cn : Nat} (h : MQ w B p i sk ck j sn cn) (g cap : Nat) (hg : w.grownBy w6 (Value.slice sk i ck).ownBlock) (hown : w6.ownsRow B 9 1 (.slice (some ⟨g, 0, none⟩) (i + 1) cap) (i + 1) (strL (fun _ => zeroS) i ++ [.string zeroS])) (hat : (Value.slice sk i ck).ownBlock = some g ∨ w.heap.size ≤ g) :
    MQ (w6.setCell ⟨p, 0, none⟩ (.slice (some ⟨g, 0, none⟩) (i + 1) cap)) B p (i + 1) (some ⟨g, 0, none⟩) cap j sn cn ∧ (B ≤ w.heap.size → Below B w (w6.setCell ⟨p, 0, none⟩ (.slice (some ⟨g, 0, none⟩) (i + 1) cap))) := by
  have hp := blk_lt h.box
  have hln := own_lt h.now
  have far : ∀ k, k < w.heap.size → k ∉ (blkS sk).toList → w6.heap[k]? = w.heap[k]? := fun k hk hm => hg.block k hk (fun e => hm ((blk_own k).1 e.symm))
  have hgw : g ∈ (blkS sk).toList ∨ w.heap.size ≤ g := hat.imp (fun e => (blk_own g).1 e) id
  have gp : g ≠ p := by
    rcases hgw with q | q
    · exact h.pk g q
    · omega
  have hs : ∀ k, k ≠ p → (w6.setCell ⟨p, 0, none⟩ (.slice (some ⟨g, 0, none⟩) (i + 1) cap)).heap[k]? = w6.heap[k]? := fun k hk => Below.heap_setCell _ _ _ _ hk
  refine ⟨⟨?_, ?_, own_keep h.now (fun b hb => (hs b (h.pn b hb)).trans (far b (hln b hb) (fun e => h.ap b e hb))), h.pB, fun b hb hm => ?_, fun b hb => by simp [blkS] at hb; omega, h.pn⟩, fun hB => ?_⟩
  · have hbx := (far p hp (fun e => h.pk p e rfl)).trans h.box
    simp [World.setCell, Array.getElem?_modify, hbx]
  · rw [strL_succ]
    exact own_keep (w := w6) hown (fun b hb => hs b (by simp [blkS] at hb; omega))
  · simp [blkS] at hb
    subst hb
    rcases hgw with q | q
    · exact h.ap _ q hm
    · have := hln _ hm; omega
  · exact ((Below.refl B w).grown hg hB (fun k e => (h.kept.lt k e).1)).setCell (p := ⟨p, 0, none⟩) h.pB _
/-- One more read. -/
theorem MQ.addN {w w6 : World} {B p i : Nat} {sk : Option Addr} {ck j : Nat} {sn : Option Addr} {cn : Nat} (h : MQ w B p i sk ck j sn cn) (g cap : Nat) (hg : w.grownBy w6 (Value.slice sn j cn).ownBlock) (hown : w6.ownsRow B 9 1 (.slice (some ⟨g, 0, none⟩) (j + 1) cap) (j + 1) (strL (fun _ => zeroS) j ++ [.string zeroS])) (hat : (Value.slice sn j cn).ownBlock = some g ∨ w.heap.size ≤ g) :
    MQ (w6.setCell ⟨p, 1, none⟩ (.slice (some ⟨g, 0, none⟩) (j + 1) cap)) B p i sk ck (j + 1) (some ⟨g, 0, none⟩) cap ∧ (B ≤ w.heap.size → Below B w (w6.setCell ⟨p, 1, none⟩ (.slice (some ⟨g, 0, none⟩) (j + 1) cap))) := by
  have hp := blk_lt h.box
  have hlk := own_lt h.kept
  have far : ∀ k, k < w.heap.size → k ∉ (blkS sn).toList → w6.heap[k]? = w.heap[k]? := fun k hk hm => hg.block k hk (fun e => hm ((blk_own k).1 e.symm))
  have hgw : g ∈ (blkS sn).toList ∨ w.heap.size ≤ g := hat.imp (fun e => (blk_own g).1 e) id
  have gp : g ≠ p := by
    rcases hgw with q | q
    · exact h.pn g q
    · omega
  have hs : ∀ k, k ≠ p → (w6.setCell ⟨p, 1, none⟩ (.slice (some ⟨g, 0, none⟩) (j + 1) cap)).heap[k]? = w6.heap[k]? := fun k hk => Below.heap_setCell _ _ _ _ hk
  refine ⟨⟨?_, own_keep h.kept (fun b hb => (hs b (h.pk b hb)).trans (far b (hlk b hb) (fun e => h.ap b hb e))), ?_, h.pB, fun b hb hm => ?_, h.pk, fun b hb => by simp [blkS] at hb; omega⟩, fun hB => ?_⟩
  · have hbx := (far p hp (fun e => h.pn p e rfl)).trans h.box
    simp [World.setCell, Array.getElem?_modify, hbx]
  · rw [strL_succ]
    exact own_keep (w := w6) hown (fun b hb => hs b (by simp [blkS] at hb; omega))
  · simp [blkS] at hm
    subst hm
    rcases hgw with q | q
    · exact h.ap _ hb q
    · have := hlk _ hb; omega
  · exact ((Below.refl B w).grown hg hB (fun k e => (h.now.lt k e).1)).setCell (p := ⟨p, 1, none⟩) h.pB _
end Go.Proofs.YthkecbgifajmmaaDoor
