/- A past beside two stacks: what each step does to all three. -/
import Derived.Test.YtkdckcengmkhhajDoorPa2
namespace Go.Proofs.YtkdckcengmkhhajDoor
open Go.RowKit

/-- A past, what is behind, what is ahead: apart from each other. -/
structure PSt (w0 w : World) (q g c most : Nat) (Z : List Int) (k : Nat) (sb : Option Addr) (cb : Nat) (bl : List Int) (sa : Option Addr) (ca : Nat) (al : List Int) : Prop where
  past : PastAt w w0.heap.size q g c Z k most
  stb : Stk w w0.heap.size sb cb bl
  sta : Stk w w0.heap.size sa ca al
  db : ∀ k, blkOf sb = some k → k ≠ q ∧ k ≠ g
  da : ∀ k, blkOf sa = some k → k ≠ q ∧ k ≠ g
  dd : ∀ k, blkOf sb = some k → blkOf sa ≠ some k
  bel : Below w0.heap.size w0 w

variable {w0 w w' : World} {q g c most : Nat} {Z : List Int} {k : Nat} {sb : Option Addr} {cb : Nat} {bl : List Int} {sa : Option Addr} {ca : Nat} {al : List Int}

theorem PSt.below (h : PSt w0 w q g c most Z k sb cb bl sa ca al) (hb : Below w.heap.size w w') : PSt w0 w' q g c most Z k sb cb bl sa ca al :=
  ⟨h.past.below hb, h.stb.below hb, h.sta.below hb, h.db, h.da, h.dd, h.bel.trans (hb.mono h.bel.size)⟩
theorem PSt.box (h : PSt w0 w q g c most Z k sb cb bl sa ca al) {k' : Nat} (hp : PastAt w' w0.heap.size q g c Z k' most) (hb : But (· = q) w w') : PSt w0 w' q g c most Z k' sb cb bl sa ca al :=
  ⟨hp, h.stb.but hb (fun j e => (h.db j e).1), h.sta.but hb (fun j e => (h.da j e).1), h.db, h.da, h.dd, h.bel.trans (hb.below h.bel.size (fun j hj e => by have := h.past.bq; omega))⟩
theorem PSt.alloc (h : PSt w0 w q g c most Z k sb cb bl sa ca al) (o : Obj) : PSt w0 (w.alloc o) q g c most Z k sb cb bl sa ca al :=
  h.below ((Below.refl _ _).alloc (Nat.le_refl _) _)
theorem PSt.noA (h : PSt w0 w q g c most Z k sb cb bl sa ca al) : PSt w0 w q g c most Z k sb cb bl none 0 [] :=
  ⟨h.past, h.stb, stk_nil _ _, h.db, fun _ e => (by cases e), fun _ _ e => (by cases e), h.bel⟩
theorem PSt.popB {x : Int} (h : PSt w0 w q g c most Z k sb cb (bl ++ [x]) sa ca al) : PSt w0 w q g c most Z k sb cb bl sa ca al :=
  ⟨h.past, h.stb.last.2, h.sta, h.db, h.da, h.dd, h.bel⟩
theorem PSt.popA {x : Int} (h : PSt w0 w q g c most Z k sb cb bl sa ca (al ++ [x])) : PSt w0 w q g c most Z k sb cb bl sa ca al :=
  ⟨h.past, h.stb, h.sta.last.2, h.db, h.da, h.dd, h.bel⟩
theorem PSt.dropB {x : Int} (h : PSt w0 w q g c most Z k sb cb (x :: bl) sa ca al) : ∃ g1 o1 s', sb = some ⟨g1, o1, none⟩ ∧ (if cb = 1 then s' = some ⟨g1, o1, none⟩ else s' = some ⟨g1, o1 + 1, none⟩) ∧ PSt w0 w q g c most Z k s' (cb - 1) bl sa ca al := by
  obtain ⟨g1, o1, s', e1, e2, h3, h4⟩ := h.stb.rest
  exact ⟨g1, o1, s', e1, e2, ⟨h.past, h3, h.sta, by rw [h4]; exact h.db, h.da, by rw [h4]; exact h.dd, h.bel⟩⟩

theorem ps_kept (h : PSt w0 w q g c most Z k sb cb bl sa ca al) (hZ : Z.length ≤ 1000) (m : Nat) (hm : Z.length = k + 1 + m) :
    Calls Tryd.prog 27 #[.pointer (some ⟨q, 0, none⟩)] w fun e w' => e = .returned (.tuple #[.int .i64 (k : Int), .int .i64 (m : Int)]) ∧ PSt w0 w' q g c most Z k sb cb bl sa ca al := by
  refine (pkept_any _ q g c k most Z w h.past hZ).mono ?_
  rintro e w1 ⟨rfl, hb⟩
  exact ⟨by rw [show Z.length - 1 - k = m by omega], h.below hb⟩
theorem ps_now (h : PSt w0 w q g c most Z k sb cb bl sa ca al) (x : Int) (hx : Z[k]? = some x) :
    Calls Tryd.prog 28 #[.pointer (some ⟨q, 0, none⟩)] w fun e w' => e = .returned (.int .i64 x) ∧ PSt w0 w' q g c most Z k sb cb bl sa ca al := by
  refine (pnow_any _ q g c k most Z x w h.past hx).mono ?_
  rintro e w1 ⟨rfl, hb⟩
  exact ⟨rfl, h.below hb⟩
theorem ps_undo (h : PSt w0 w q g c most Z k sb cb bl sa ca al) (hZ : Z.length ≤ 1000) (b : Bool) (k' : Nat) (hb : decide (0 < k) = b) (hk : k - 1 = k') :
    Calls Tryd.prog 25 #[.pointer (some ⟨q, 0, none⟩)] w fun e w' => e = .returned (.bool b) ∧ PSt w0 w' q g c most Z k' sb cb bl sa ca al := by
  subst hb hk
  refine (pundo_any _ q g c k most Z w h.past hZ).mono ?_
  rintro e w1 ⟨rfl, hp, hb⟩
  exact ⟨rfl, h.box hp hb⟩
theorem ps_redo (h : PSt w0 w q g c most Z k sb cb bl sa ca al) (hZ : Z.length ≤ 1000) (b : Bool) (k' : Nat) (hb : decide (k + 1 < Z.length) = b) (hk : (if k + 1 < Z.length then k + 1 else k) = k') :
    Calls Tryd.prog 26 #[.pointer (some ⟨q, 0, none⟩)] w fun e w' => e = .returned (.bool b) ∧ PSt w0 w' q g c most Z k' sb cb bl sa ca al := by
  subst hb hk
  refine (predo_any _ q g c k most Z w h.past hZ).mono ?_
  rintro e w1 ⟨rfl, hp, hb⟩
  exact ⟨rfl, h.box hp hb⟩
theorem ps_do (h : PSt w0 w q g c most Z k sb cb bl sa ca al) (hZ : Z.length ≤ 1000) (hm : most ≤ 20) (x : Int) :
    Calls Tryd.prog 24 #[.pointer (some ⟨q, 0, none⟩), .int .i64 x] w fun e w' => e = .returned (.tuple #[]) ∧ ∃ g' c', PSt w0 w' q g' c' most ((Z.take (k + 1)).drop (k + 1 - most) ++ [x]) (k + 1 - (k + 1 - most)) sb cb bl none 0 [] := by
  refine (pdo_any _ q g c k most Z x w h.past hZ hm).mono ?_
  rintro e w1 ⟨rfl, g', c', hg, _, hp, hb⟩
  exact ⟨rfl, g', c', ⟨hp, h.stb.but hb (fun j e => (h.db j e).1), stk_nil _ _, fun j e => ⟨(h.db j e).1, by have := (h.stb.lt j e).2; omega⟩, fun _ e => (by cases e), fun _ _ e => (by cases e), h.bel.trans (hb.below h.bel.size (fun j hj e => by have := h.past.bq; omega))⟩⟩

theorem wpList_pushB {ops : Array Oper} {rest : List Oper} {o : Oper} {a : Act} {Q : Exit → Act → World → Prop} (hgd : o.guard = none) (sx x : Operand)
    (ho : o.op = .call { callee := .builtin .append, args := #[sx, x], argTypes := #[63, 63] }) (b : Nat) (z : Int) (h : PSt w0 w q g c most Z k sb cb bl sa ca al) (hs : a.eval sx = .slice sb bl.length cb) (hx : a.eval x = .slice (some ⟨b, 0, none⟩) 1 1)
    (hq : w.cell? ⟨b, 0, none⟩ = some (.int .i64 z)) (hl : bl.length ≤ 1000)
    (hK : ∀ s' c' w', PSt w0 w' q g c most Z k s' c' (bl ++ [z]) sa ca al → wpList Tryd.prog ops Q rest (a.put o.dst (.slice s' (bl.length + 1) c')) w') : wpList Tryd.prog ops Q (o :: rest) a w := by
  refine wpList_push w hgd sx x ho w0.heap.size cb b sb bl z hs hx hq h.stb hl h.bel.size ?_
  intro s' c' w' hst hbut hblk
  have hq := blk_lt h.past.box
  obtain ⟨cur, hcur, _⟩ := h.past.row
  have hg := blk_lt hcur
  have key : ∀ j, blkOf s' = some j → blkOf sb = some j ∨ j = w.heap.size := fun j e => by
    rcases hblk with e1 | e1
    · exact .inl (by rw [← e1]; exact e)
    · rw [e1] at e
      injection e with e
      exact .inr e.symm
  refine hK s' c' w' ⟨h.past.but hbut (fun e => (h.db _ e).1 rfl) (fun e => (h.db _ e).2 rfl), hst, h.sta.but hbut (fun j e e2 => h.dd j e2 e), fun j e => ?_, h.da, fun j e e2 => ?_, h.bel.trans (hbut.below h.bel.size (fun j hj e => by have := (h.stb.lt j e).1; omega))⟩
  · rcases key j e with e1 | e1
    · exact h.db j e1
    · omega
  · rcases key j e with e1 | e1
    · exact h.dd j e1 e2
    · have := (h.sta.lt j e2).2
      omega
theorem wpList_pushA {ops : Array Oper} {rest : List Oper} {o : Oper} {a : Act} {Q : Exit → Act → World → Prop} (hgd : o.guard = none) (sx x : Operand)
    (ho : o.op = .call { callee := .builtin .append, args := #[sx, x], argTypes := #[63, 63] }) (b : Nat) (z : Int) (h : PSt w0 w q g c most Z k sb cb bl sa ca al) (hs : a.eval sx = .slice sa al.length ca) (hx : a.eval x = .slice (some ⟨b, 0, none⟩) 1 1)
    (hq : w.cell? ⟨b, 0, none⟩ = some (.int .i64 z)) (hl : al.length ≤ 1000)
    (hK : ∀ s' c' w', PSt w0 w' q g c most Z k sb cb bl s' c' (al ++ [z]) → wpList Tryd.prog ops Q rest (a.put o.dst (.slice s' (al.length + 1) c')) w') : wpList Tryd.prog ops Q (o :: rest) a w := by
  refine wpList_push w hgd sx x ho w0.heap.size ca b sa al z hs hx hq h.sta hl h.bel.size ?_
  intro s' c' w' hst hbut hblk
  have hq := blk_lt h.past.box
  obtain ⟨cur, hcur, _⟩ := h.past.row
  have hg := blk_lt hcur
  have key : ∀ j, blkOf s' = some j → blkOf sa = some j ∨ j = w.heap.size := fun j e => by
    rcases hblk with e1 | e1
    · exact .inl (by rw [← e1]; exact e)
    · rw [e1] at e
      injection e with e
      exact .inr e.symm
  refine hK s' c' w' ⟨h.past.but hbut (fun e => (h.da _ e).1 rfl) (fun e => (h.da _ e).2 rfl), h.stb.but hbut (fun j e e2 => h.dd j e e2), hst, h.db, fun j e => ?_, fun j e e2 => ?_, h.bel.trans (hbut.below h.bel.size (fun j hj e => by have := (h.sta.lt j e).1; omega))⟩
  · rcases key j e with e1 | e1
    · exact h.da j e1
    · omega
  · rcases key j e2 with e1 | e1
    · exact h.dd j e e1
    · have := (h.stb.lt j e).2
      omega
end Go.Proofs.YtkdckcengmkhhajDoor
