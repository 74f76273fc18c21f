/- Floods: a place is met: the program's closure. -/
import Derived.Test.YtcicbafdacfbpaiDoorFq0
import Derived.Test.YtcicbafdacfbpaiDoorLm1
import Derived.Test.YtcicbafdacfbpaiDoorTi1
import Derived.Test.YtcicbafdacfbpaiDoorRw0
namespace Go.Proofs.YtcicbafdacfbpaiDoor
open Go.RowKit

/-- The cells of places. -/
def plV (l : List (Nat × Nat)) : List Value := l.flatMap fun q => [.int .i64 (q.1 : Int), .int .i64 (q.2 : Int)]
theorem plV_append (l m : List (Nat × Nat)) : plV (l ++ m) = plV l ++ plV m := by simp [plV]
theorem plV_length (l : List (Nat × Nat)) : (plV l).length = l.length * 2 := by
  induction l with
  | nil => rfl
  | cons x l ih => simp only [plV, List.flatMap_cons, List.length_append, List.length_cons] at *; rw [ih]; simp; omega
theorem place_info : (Tryd.prog.info? 86).map (fun i => (i.zero, i.size, i.bytes)) = some (some (.agg #[.int .i64 0, .int .i64 0]), 2, 16) := by kernel_rfl

/-- The closure's variables: the picture, the pixel that is sought, the marks, those that wait. -/
structure LFS (w : World) (B kp kl km kw W H : Nat) (a : Option Addr) (n c : Nat) (p : Nat → Px) (like : Px) (g : Nat) (f : Nat → Bool) (va : Option Addr) (vc : Nat) (l : List (Nat × Nat)) : Prop where
  pic : w.heap[kp]? = some (.cells #[.int .i64 (W : Int), .int .i64 (H : Int), .slice a n c] 24)
  lik : w.heap[kl]? = some (.cells #[.int .u8 (like.r.toNat : Int), .int .u8 (like.g.toNat : Int), .int .u8 (like.b.toNat : Int), .int .u8 (like.a.toNat : Int)] 26)
  mks : w.heap[km]? = some (.cells #[.int .i64 (W : Int), .slice (some ⟨g, 0, none⟩) n n] 55)
  wai : w.heap[kw]? = some (.cells #[.slice va l.length vc] 83)
  row : w.ownsRow B 86 2 (.slice va l.length vc) l.length (plV l)
  mr : MR w g n f
  px : IsPx w a n p
  ap : ∀ b, (Value.slice va l.length vc).ownBlock = some b → b ≠ kp ∧ b ≠ kl ∧ b ≠ km ∧ b ≠ kw ∧ b ≠ g
/-- Where they lie. -/
structure LFK (B kp kl km kw g : Nat) (a : Option Addr) : Prop where
  hl : B ≤ kl
  hm : B ≤ km
  hw : B ≤ kw
  hg : B ≤ g
  pw : kp ≠ kw
  lw : kl ≠ kw
  mw : km ≠ kw
  gw : g ≠ kw
  gp : g ≠ kp
  gl : g ≠ kl
  gm : g ≠ km
  ha : ∀ x, a = some x → x.block < B
theorem LFS.below {w w' : World} {B kp kl km kw W H n c g vc : Nat} {a va : Option Addr} {p : Nat → Px} {like : Px} {f : Nat → Bool} {l : List (Nat × Nat)} (h : LFS w B kp kl km kw W H a n c p like g f va vc l) (hb : Below w.heap.size w w') : LFS w' B kp kl km kw W H a n c p like g f va vc l :=
  ⟨blk_below h.pic hb (blk_lt h.pic), blk_below h.lik hb (blk_lt h.lik), blk_below h.mks hb (blk_lt h.mks), blk_below h.wai hb (blk_lt h.wai), own_belowP h.row hb, h.mr.below hb h.mr.lt, h.px.below hb, h.ap⟩
/-- What a place's being met leaves as it was. -/
def Keep (w w' : World) (kw g : Nat) (v v' : Value) : Prop := ∀ k, k < w.heap.size → k ≠ kw → k ≠ g → v.ownBlock ≠ some k → w'.heap[k]? = w.heap[k]? ∧ v'.ownBlock ≠ some k
theorem keep_below {w w' : World} {kw g : Nat} {v : Value} (h : Below w.heap.size w w') : Keep w w' kw g v v := fun k hk _ _ h3 => ⟨h.block k hk, h3⟩
/-- A place is marked. -/
theorem LFS.marked {w w' : World} {B kp kl km kw W H n c g vc i : Nat} {a va : Option Addr} {p : Nat → Px} {like : Px} {f : Nat → Bool} {l : List (Nat × Nat)} (h : LFS w B kp kl km kw W H a n c p like g f va vc l) (hk : LFK B kp kl km kw g a) (hm : MR w' g n (updB f i)) (hb : But (· = g) w w') : LFS w' B kp kl km kw W H a n c p like g (updB f i) va vc l := by
  refine ⟨(hb.block _ (blk_lt h.pic) hk.gp.symm).trans h.pic, (hb.block _ (blk_lt h.lik) hk.gl.symm).trans h.lik, (hb.block _ (blk_lt h.mks) hk.gm.symm).trans h.mks, (hb.block _ (blk_lt h.wai) hk.gw.symm).trans h.wai, ?_, hm, ?_, h.ap⟩
  · exact h.row.kept (row := some g) hb.grownBy (.inr (fun e => (h.ap g e).2.2.2.2 rfl))
  · exact isPx_block h.px (fun x hx e => hb.block _ (h.px.lt x hx e) (fun q => by have := hk.ha x hx; have := hk.hg; have q : x.block = g := q; omega))
theorem ftset {w : World} {k j : Nat} {cs : Array Value} {t : TypeId} (h : w.heap[k]? = some (.cells cs t)) (u : Value) : (w.setCell ⟨k, j, none⟩ u).heap[k]? = some (.cells (cs.setIfInBounds j u) t) := by
  simp [World.setCell, Array.getElem?_modify, h]
/-- One more waits. -/
theorem LFS.more {w w3 : World} {B kp kl km kw W H n c g vc gb cap : Nat} {a va : Option Addr} {p : Nat → Px} {like : Px} {f : Nat → Bool} {l : List (Nat × Nat)} {q : Nat × Nat} (h : LFS w B kp kl km kw W H a n c p like g f va vc l) (hk : LFK B kp kl km kw g a)
    (hown : w3.ownsRow B 86 2 (.slice (some ⟨gb, 0, none⟩) (l.length + 1) cap) (l.length + 1) (plV (l ++ [q]))) (hgr : w.grownBy w3 (Value.slice va l.length vc).ownBlock) (hat : (Value.slice va l.length vc).ownBlock = some gb ∨ gb = w.heap.size) :
    LFS (w3.setCell ⟨kw, 0, none⟩ (.slice (some ⟨gb, 0, none⟩) (l.length + 1) cap)) B kp kl km kw W H a n c p like g f (some ⟨gb, 0, none⟩) cap (l ++ [q]) := by
  have hl1 : (l ++ [q]).length = l.length + 1 := by simp
  have apg : gb ≠ kp ∧ gb ≠ kl ∧ gb ≠ km ∧ gb ≠ kw ∧ gb ≠ g := by
    rcases hat with e | e
    · exact h.ap gb e
    · have h1 := blk_lt h.pic
      have h2 := blk_lt h.lik
      have h3 := blk_lt h.mks
      have h4 := blk_lt h.wai
      have h5 := h.mr.lt
      omega
  have hbt := (But.refl (· = kw) w3).setCell (p := ⟨kw, 0, none⟩) rfl (.slice (some ⟨gb, 0, none⟩) (l.length + 1) cap)
  have kp3 : ∀ b, b < w.heap.size → (Value.slice va l.length vc).ownBlock ≠ some b → w3.heap[b]? = w.heap[b]? := fun b hb hn => hgr.block b hb (fun e => hn e.symm)
  have kp4 : ∀ b, b < w.heap.size → (Value.slice va l.length vc).ownBlock ≠ some b → b ≠ kw → (w3.setCell ⟨kw, 0, none⟩ (.slice (some ⟨gb, 0, none⟩) (l.length + 1) cap)).heap[b]? = w.heap[b]? := fun b hb hn hw => (hbt.block b (by have := hgr.size; omega) hw).trans (kp3 b hb hn)
  refine ⟨(kp4 _ (blk_lt h.pic) (fun e => (h.ap _ e).1 rfl) hk.pw).trans h.pic, (kp4 _ (blk_lt h.lik) (fun e => (h.ap _ e).2.1 rfl) hk.lw).trans h.lik, (kp4 _ (blk_lt h.mks) (fun e => (h.ap _ e).2.2.1 rfl) hk.mw).trans h.mks, ?_, ?_, h.mr.block (kp4 _ h.mr.lt (fun e => (h.ap _ e).2.2.2.2 rfl) hk.gw), ?_, fun b e => ?_⟩
  · rw [hl1]
    exact ftset ((kp3 _ (blk_lt h.wai) (fun e => (h.ap _ e).2.2.2.1 rfl)).trans h.wai) _
  · rw [hl1]
    exact hown.kept (row := some kw) hbt.grownBy (.inr (fun e => apg.2.2.2.1 (by simpa [Value.ownBlock] using e)))
  · refine isPx_block h.px (fun x hx e => kp4 _ (h.px.lt x hx e) (fun q => ?_) (fun q => ?_))
    · have := (h.row.lt _ q).1
      have := hk.ha x hx
      omega
    · have := hk.ha x hx
      have := hk.hw
      omega
  · have e : gb = b := by simpa [Value.ownBlock] using e
    subst e
    exact apg

theorem fcell {w wx : World} {k o : Nat} {v : Value} (h : Below w.heap.size w wx) (hl : k < w.heap.size) (c : w.cell? ⟨k, o, none⟩ = some v) : wx.cell? ⟨k, o, none⟩ = some v := (h.cell (p := ⟨k, o, none⟩) hl).trans c
end Go.Proofs.YtcicbafdacfbpaiDoor
