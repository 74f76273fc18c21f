/- Walks of the writer of blocks: numbers, heads, the text of pieces. Walks of the closed fact of three bits, and of the writer that goes on to a whole byte. Walks of the getting of bits. All is as it was but for some blocks. Walks of the reader of bits: nothing else is turned. A reader of bits goes on to a whole byte; all else is as it was. A row of a call's own, and a byte more in it. Numbers appended to a row of one's own. -/
import Derived.Test.YtfeljhikeddodadGreatDoorMh2
import Derived.Test.YtfeljhikeddodadGreatDoorMh3
import Derived.Test.YtfeljhikeddodadGreatDoorMh1
import Derived.Below
import Derived.BigQuiet
import Derived.Deep.OwnRows
import Derived.Maps.AppendAt
namespace Go.Proofs.YtfeljhikeddodadGreatDoor
open Go.RowKit Pm Cn Nf Ps

theorem wnumber_any (p : Nat) (l : List Pc) (n d : Nat) (w : World) (hW : WP w p l) (hd : d ≤ 16) (hn : n < 2 ^ d) (hc : len l + 40 ≤ 4000000) :
    Calls Tryz.prog 95 #[.pointer (some ⟨p, 0, none⟩), .int .i64 (n : Int), .int .i64 (d : Int)] w fun e w' => e = .returned (.tuple #[]) ∧ WP w' p (l ++ [(n, d)]) ∧ Kept p w w' := by
  have hn16 : n < 65536 := Nat.lt_of_lt_of_le hn (Nat.pow_le_pow_right (n := 2) (j := 16) (by omega) hd)
  have HP := hide (put_yes p (len l) (val l) n d w hW (by omega) hn hc)
  have hc32 : (n : Int) % 4294967296 = (n : Int) := by omega
  clear hW hn hc
  go_enter Tryz.func95, Tryz.ntmps95
  go_wp2_with fail
  refine (unhide HP).mono ?_; rintro e w1 ⟨rfl, hW1, hk⟩
  have HW1 : Hid (WP w1 p (l ++ [(n, d)])) := by
    show WAt _ _ _ _
    rw [len_append, val_append]
    simpa [len, val] using hW1
  clear hW1 HP
  go_wp2
  go_end0
  exact ⟨rfl, unhide HW1, hk⟩
theorem whead_any (p : Nat) (l : List Pc) (last : Bool) (kind : Nat) (w : World) (hW : WP w p l) (hk : kind < 3) (hc : len l + 100 ≤ 4000000) :
    Calls Tryz.prog 62 #[.pointer (some ⟨p, 0, none⟩), .bool last, .int .i64 (kind : Int)] w fun e w' => e = .returned (.tuple #[]) ∧ WP w' p (l ++ [(last.toNat, 1), (kind, 2)]) ∧ Kept p w w' := by
  have H1 : Hid (Calls Tryz.prog 95 #[.pointer (some ⟨p, 0, none⟩), .int .i64 ((last.toNat : Nat) : Int), .int .i64 ((1 : Nat) : Int)] w fun e w' => e = .returned (.tuple #[]) ∧ WP w' p (l ++ [(last.toNat, 1)]) ∧ Kept p w w') := wnumber_any p l last.toNat 1 w hW (by omega) (by cases last <;> decide) (by omega)
  have hl2 : len (l ++ [(last.toNat, 1)]) = len l + 1 := by rw [len_append]; rfl
  have H2 : Hid (∀ w1, WP w1 p (l ++ [(last.toNat, 1)]) → Calls Tryz.prog 95 #[.pointer (some ⟨p, 0, none⟩), .int .i64 (kind : Int), .int .i64 ((2 : Nat) : Int)] w1 fun e w' => e = .returned (.tuple #[]) ∧ WP w' p ((l ++ [(last.toNat, 1)]) ++ [(kind, 2)]) ∧ Kept p w1 w') := fun w1 h1 => wnumber_any p _ kind 2 w1 h1 (by omega) (by omega) (by omega)
  clear hW hl2 hc
  cases last with
  | false =>
    go_enter Tryz.func62, Tryz.ntmps62
    go_wp2_with fail
    refine (unhide H1).mono ?_; rintro e w1 ⟨rfl, hW1, hk1⟩
    have HC := hide (unhide H2 w1 hW1)
    clear H1 H2 hW1
    go_wp2_with fail
    refine (unhide HC).mono ?_; rintro e w2 ⟨rfl, hW2, hk2⟩
    have HW2 := hide hW2
    clear HC hW2
    go_wp2
    go_end0
    exact ⟨rfl, by have := unhide HW2; rwa [List.append_assoc] at this, hk1.trans hk2⟩
  | true =>
    go_enter Tryz.func62, Tryz.ntmps62
    go_wp2_with fail
    refine (unhide H1).mono ?_; rintro e w1 ⟨rfl, hW1, hk1⟩
    have HC := hide (unhide H2 w1 hW1)
    clear H1 H2 hW1
    go_wp2_with fail
    refine (unhide HC).mono ?_; rintro e w2 ⟨rfl, hW2, hk2⟩
    have HW2 := hide hW2
    clear HC hW2
    go_wp2
    go_end0
    exact ⟨rfl, by have := unhide HW2; rwa [List.append_assoc] at this, hk1.trans hk2⟩
theorem new_writer2 (w : World) : WP (w.alloc (.cells #[.slice none 0 0, .int .i64 0] 96)) w.heap.size [] :=
  ⟨⟨.slice none 0 0, by simp, World.ownsRow_nil _ _ _ _⟩, by simp [len], by simp, by simp, by simp [len, val], by simp [len]⟩
end Go.Proofs.YtfeljhikeddodadGreatDoor
namespace Go.Proofs.YtfeljhikeddodadGreatDoor
open Go.RowKit

theorem align_end (w : World) (p c N : Nat) (hW : WAt w p c N) (hc : c + 7 ≤ 4000000) : WAt (w.setCell ⟨p, 1, none⟩ (.int .i64 ((8 * ((c + 7) / 8) : Nat) : Int))) p (8 * ((c + 7) / 8)) N ∧
    Kept p w (w.setCell ⟨p, 1, none⟩ (.int .i64 ((8 * ((c + 7) / 8) : Nat) : Int))) := by
  obtain ⟨⟨v, hv, hown⟩, hcnt, f0, f1, hfit, hsm⟩ := hW
  have hcell : (w.setCell ⟨p, 1, none⟩ (.int .i64 ((8 * ((c + 7) / 8) : Nat) : Int))).cell? ⟨p, 0, none⟩ = w.cell? ⟨p, 0, none⟩ := World.cell?_setCell_other _ _ _ _ (by intro e; injection e with _ e2; omega)
  refine ⟨⟨⟨v, hcell.trans hv, ?_⟩, World.cell?_setCell_same _ _ _ hcnt, ?_, ?_, Bt.lt_wide hfit (by omega), by omega⟩, ⟨rfl, rfl, rfl, by simp [World.setCell], ?_, .inl (rowOf_same hcell), fun j hj => ⟨World.cell?_setCell_other _ _ _ _ (by intro e; injection e with _ e2; omega), World.frozen?_setCell _ _ _ _⟩⟩⟩
  · rw [show (8 * ((c + 7) / 8) + 7) / 8 = (c + 7) / 8 from by omega]
    exact ownsRow_setCell_below hown (by show p < p + 1; omega) _
  · rw [World.frozen?_setCell]; exact f0
  · rw [World.frozen?_setCell]; exact f1
  · intro k _ h1 _
    exact Below.heap_setCell _ _ _ _ h1
theorem align_any (p c N : Nat) (w : World) (hW : WAt w p c N) (hc : c + 7 ≤ 4000000) :
    Calls Tryz.prog 134 #[.pointer (some ⟨p, 0, none⟩)] w fun e w' => e = .returned (.tuple #[]) ∧ WAt w' p (8 * ((c + 7) / 8)) N ∧ Kept p w w' := by
  have hend := hide (align_end w p c N hW hc)
  obtain ⟨⟨v, hv, hown⟩, hcnt, f0, f1, hfit, hsm⟩ := hW
  obtain ⟨a, cap, rfl⟩ := shape_of hown
  clear hown f0
  have hm : (c + 7) / 8 ≤ 4000000 := by omega
  generalize (c + 7) / 8 = m at *
  have h8 : (m : Int) * 8 = ((8 * m : Nat) : Int) := by omega
  go_enter Tryz.func134, Tryz.ntmps134
  go_wp2
  go_end0
  exact ⟨rfl, unhide hend⟩
end Go.Proofs.YtfeljhikeddodadGreatDoor
namespace Go.Proofs.YtfeljhikeddodadGreatDoor
open Go.RowKit

theorem got_lt (V a k : Nat) (h : k ≤ 32) : V / 2 ^ a % 2 ^ k < 4294967296 :=
  Nat.lt_of_lt_of_le (Nat.mod_lt _ (Nat.two_pow_pos k)) (Nat.pow_le_pow_right (n := 2) (j := 32) (by omega) h)
end Go.Proofs.YtfeljhikeddodadGreatDoor
namespace Go.Proofs.YtfeljhikeddodadGreatDoor
open Go.RowKit

/-- Of what was there all is as it was but for the blocks S; the streams are as they were; no block has gone. -/
structure But (S : Nat → Prop) (w w' : World) : Prop where
  os : w'.os = w.os
  tape : w'.tape = w.tape
  output : w'.output = w.output
  size : w.heap.size ≤ w'.heap.size
  block : ∀ k, k < w.heap.size → ¬ S k → w'.heap[k]? = w.heap[k]?
theorem But.refl (S : Nat → Prop) (w : World) : But S w w := ⟨rfl, rfl, rfl, Nat.le_refl _, fun _ _ _ => rfl⟩
theorem But.trans {S : Nat → Prop} {a b c : World} (h : But S a b) (k : But S b c) : But S a c :=
  ⟨k.os.trans h.os, k.tape.trans h.tape, k.output.trans h.output, Nat.le_trans h.size k.size, fun i hi hs => (k.block i (Nat.lt_of_lt_of_le hi h.size) hs).trans (h.block i hi hs)⟩
theorem But.mono {S T : Nat → Prop} {w w' : World} (h : But S w w') (hs : ∀ k, k < w.heap.size → S k → T k) : But T w w' := ⟨h.os, h.tape, h.output, h.size, fun k hk ht => h.block k hk (fun s => ht (hs k hk s))⟩
theorem But.drew {S : Nat → Prop} {a w : World} (h : But S a w) : But S a w.drew := ⟨h.os, h.tape, h.output, h.size, h.block⟩
theorem But.drewN {S : Nat → Prop} {a w : World} (h : But S a w) (n : Nat) : But S a (w.drewN n) := h.trans ⟨rfl, rfl, rfl, Nat.le_refl _, fun _ _ _ => rfl⟩
theorem But.alloc {S : Nat → Prop} {a w : World} (h : But S a w) (o : Obj) : But S a (w.alloc o) :=
  h.trans ⟨rfl, rfl, rfl, by simp, fun k hk _ => Below.heap_alloc _ _ _ hk⟩
theorem But.setCell {S : Nat → Prop} {a w : World} (h : But S a w) {p : Addr} (hp : S p.block) (u : Value) : But S a (w.setCell p u) :=
  h.trans ⟨rfl, rfl, rfl, by simp [World.setCell], fun k _ hs => Below.heap_setCell _ _ _ _ (fun e => hs (by rw [e]; exact hp))⟩
theorem But.cell {S : Nat → Prop} {w w' : World} (h : But S w w') {p : Addr} (h0 : p.block < w.heap.size) (hs : ¬ S p.block) : w'.cell? p = w.cell? p := World.cell?_of_block (w := w) (h.block p.block h0 hs)
theorem But.frozen {S : Nat → Prop} {w w' : World} (h : But S w w') {p : Addr} (h0 : p.block < w.heap.size) (hs : ¬ S p.block) : w'.frozen? p = w.frozen? p := World.frozen?_of_block (w := w) (h.block p.block h0 hs)
theorem But.grown {S : Nat → Prop} {a w w' : World} {row : Option Nat} (h : But S a w) (hg : w.grownBy w' row) (hr : ∀ k, row = some k → k < a.heap.size → S k) : But S a w' :=
  ⟨hg.os.trans h.os, hg.tape.trans h.tape, hg.output.trans h.output, Nat.le_trans h.size hg.size, fun k hk hs => by rw [hg.block k (Nat.lt_of_lt_of_le hk h.size) (fun e => hs (hr k e.symm hk))]; exact h.block k hk hs⟩
theorem But.of_below {S : Nat → Prop} {a w w' : World} (h : But S a w) {B : Nat} (hb : Below B w w') (hB : ∀ k, k < a.heap.size → B ≤ k → S k) : But S a w' :=
  ⟨hb.os.trans h.os, hb.tape.trans h.tape, hb.output.trans h.output, Nat.le_trans h.size hb.size, fun k hk hs => by
    rw [hb.block k (by rcases Nat.lt_or_ge k B with c | c; exact c; exact absurd (hB k hk c) hs)]; exact h.block k hk hs⟩
theorem But.below {S : Nat → Prop} {w w' : World} (h : But S w w') {B : Nat} (hB : B ≤ w.heap.size) (hs : ∀ k, k < B → ¬ S k) : Below B w w' :=
  ⟨h.os, h.tape, h.output, h.size, fun k hk => h.block k (by omega) (hs k hk)⟩
theorem But.grownBy {w w' : World} {g : Nat} (h : But (· = g) w w') : w.grownBy w' (some g) := ⟨h.os, h.tape, h.output, h.size, fun k hk e => h.block k hk (fun q => e (by rw [q]))⟩
theorem own_rebase {w : World} {base base' size n : Nat} {e : TypeId} {v : Value} {xs : List Value} (h : w.ownsRow base e size v n xs) (hb : base' ≤ base) : w.ownsRow base' e size v n xs := by
  refine ⟨h.1, ?_⟩
  rcases h.2 with h2 | ⟨g, cap, cur, e, hg, r⟩
  · exact .inl h2
  · exact .inr ⟨g, cap, cur, e, by omega, r⟩
end Go.Proofs.YtfeljhikeddodadGreatDoor
namespace Go.Proofs.YtfeljhikeddodadGreatDoor
open Go.RowKit

theorem RAt.but {w w' : World} {p k : Nat} {s : ByteArray} {S : Nat → Prop} (h : RAt w p s k) (hb : But S w w') (hs : ¬ S p) : RAt w' p s k :=
  ⟨(hb.cell h.lt hs).trans h.text, (hb.cell h.lt hs).trans h.count, (hb.frozen h.lt hs).trans h.free1, h.within, h.small⟩
end Go.Proofs.YtfeljhikeddodadGreatDoor
namespace Go.Proofs.YtfeljhikeddodadGreatDoor
open Go.RowKit

end Go.Proofs.YtfeljhikeddodadGreatDoor
namespace Go.Proofs.YtfeljhikeddodadGreatDoor
open Go.RowKit

theorem addr_add (g o j : Nat) : (⟨g, o, none⟩ : Addr).add j = ⟨g, o + j, none⟩ := by unfold Addr.add; split <;> simp_all
theorem own_shape {w : World} {base n : Nat} {e : TypeId} {v : Value} {xs : List Value} (h : w.ownsRow base e 1 v n xs) : ∃ a c, v = .slice a n c ∧ (0 < n → ∃ g, a = some ⟨g, 0, none⟩ ∧ base ≤ g) := by
  rcases h.2 with ⟨rfl, rfl⟩ | ⟨g, c, cur, rfl, hb, _⟩
  · exact ⟨none, 0, rfl, fun h => by omega⟩
  · exact ⟨_, c, rfl, fun _ => ⟨g, rfl, hb⟩⟩
/-! ### A byte more -/
theorem app_u8 (w : World) (base q : Nat) (v : Value) (l : List UInt8) (b : UInt8) (t : TypeId) (hown : w.ownsRow base 5 1 v l.length (byteVals l)) (hq : w.cell? ⟨q, 0, none⟩ = some (.int .u8 (b.toNat : Int))) (hl : l.length ≤ 1000000) (hb : base ≤ w.heap.size) :
    ∃ v' w', (Builtin.append_ #[54, 54] t #[v, .slice (some ⟨q, 0, none⟩) 1 1]).run Tryz.prog w = .ok v' w' ∧ w'.ownsRow base 5 1 v' (l ++ [b]).length (byteVals (l ++ [b])) ∧ w.grownBy w' v.ownBlock ∧ (v'.ownBlock = v.ownBlock ∨ v'.ownBlock = some w.heap.size) := by
  obtain ⟨i0, hi, hz0, hz1, hz2⟩ := info_parts info_u8
  obtain ⟨v', w', h1, h2, h3, h4, h5⟩ := run_append_own_at (P := Tryz.prog) w base 54 t 5 i0 (.int .u8 0) 1 1 Tryz.underlying54 hi hz0 hz1 hz2 rfl (by omega) v l.length (byteVals l) hown ⟨q, 0, none⟩ 1 1 [.int .u8 (b.toNat : Int)] rfl (fun j u hj => by
    match j, hj with
    | 0, hj => rw [addr_add, Nat.zero_add, hq]; simpa using hj) (fun u hu => by rw [List.mem_singleton] at hu; subst hu; rfl) (by unfold maxLen; omega) (by omega) hb
  refine ⟨v', w', h1, ?_, h3, h5⟩
  rw [byteVals_append, List.length_append]
  exact h2
theorem wpList_appB (w : World) {ops : Array Oper} {rest : List Oper} {o : Oper} {a : Act} {Q : Exit → Act → World → Prop} (hgd : o.guard = none) (s x : Operand)
    (ho : o.op = .call { callee := .builtin .append, args := #[s, x], argTypes := #[54, 54] }) (base q : Nat) (v : Value) (l : List UInt8) (b : UInt8) (hs : a.eval s = v) (hx : a.eval x = .slice (some ⟨q, 0, none⟩) 1 1)
    (hown : w.ownsRow base 5 1 v l.length (byteVals l)) (hq : w.cell? ⟨q, 0, none⟩ = some (.int .u8 (b.toNat : Int))) (hl : l.length ≤ 1000000) (hb : base ≤ w.heap.size)
    (h : ∀ v' w', w'.ownsRow base 5 1 v' (l ++ [b]).length (byteVals (l ++ [b])) → w.grownBy w' v.ownBlock → (v'.ownBlock = v.ownBlock ∨ v'.ownBlock = some w.heap.size) → wpList Tryz.prog ops Q rest (a.put o.dst v') w') : wpList Tryz.prog ops Q (o :: rest) a w := by
  obtain ⟨v', w', h1, h2, h3, h4⟩ := app_u8 w base q v l b o.type hown hq hl hb
  refine wpList_plain hgd fun _ hK => ?_
  unfold Oper.wp execOp
  simp only [ho, resolve, invoke, builtin, Sem.run_bind, Sem.run_pure, Result.andThen_ok, List.map_toArray, List.map_cons, List.map_nil, hs, hx, h1]
  exact hK _ _ (h v' w' h2 h3 h4)
/-- .. as one step of a statement that draws its order. -/
theorem step_appB {w : World} {ops : Array Oper} {o : Oper} {a : Act} {K : Act → World → Prop} {Q : Exit → Act → World → Prop} {E : Prop} (hgd : o.guard = none) (s x : Operand)
    (ho : o.op = .call { callee := .builtin .append, args := #[s, x], argTypes := #[54, 54] }) (base q : Nat) (v : Value) (l : List UInt8) (b : UInt8) (hs : a.eval s = v) (hx : a.eval x = .slice (some ⟨q, 0, none⟩) 1 1)
    (hown : w.ownsRow base 5 1 v l.length (byteVals l)) (hq : w.cell? ⟨q, 0, none⟩ = some (.int .u8 (b.toNat : Int))) (hl : l.length ≤ 1000000) (hb : base ≤ w.heap.size)
    (h : ∀ v' w', w'.ownsRow base 5 1 v' (l ++ [b]).length (byteVals (l ++ [b])) → w.grownBy w' v.ownBlock → (v'.ownBlock = v.ownBlock ∨ v'.ownBlock = some w.heap.size) → K (a.put o.dst v') w') : if Region.wanted o (yielded ops a.tmps) = true then Oper.wp Tryz.prog o a w K Q else E := by
  have hw : Region.wanted o (yielded ops a.tmps) = true := by simp [Region.wanted, hgd]
  rw [if_pos hw]
  obtain ⟨v', w', h1, h2, h3, h5⟩ := app_u8 w base q v l b o.type hown hq hl hb
  unfold Oper.wp execOp
  simp only [ho, resolve, invoke, builtin, Sem.run_bind, Sem.run_pure, Result.andThen_ok, List.map_toArray, List.map_cons, List.map_nil, hs, hx, h1]
  exact h v' w' h2 h3 h5
end Go.Proofs.YtfeljhikeddodadGreatDoor
namespace Go.Proofs.YtfeljhikeddodadGreatDoor
open Go.RowKit

/-- Numbers as cells. -/
def natVals (F : List Nat) : List Value := F.map fun (x : Nat) => .int .i64 (x : Int)
theorem natVals_length (F : List Nat) : (natVals F).length = F.length := by simp [natVals]
theorem natVals_at (F : List Nat) (j : Nat) : (natVals F)[j]? = F[j]?.map fun (x : Nat) => .int .i64 (x : Int) := by simp [natVals]
theorem natVals_append (F G : List Nat) : natVals (F ++ G) = natVals F ++ natVals G := by simp [natVals]
theorem natVals_one (F : List Nat) : ∀ u ∈ natVals F, u.oneCell' = true := fun u hu => by
  obtain ⟨i, _, rfl⟩ := List.mem_map.1 hu
  rfl
/-- What is appended: nothing, or numbers that stand somewhere. -/
def SrcI (w : World) (u : Value) (G : List Nat) : Prop := (u = .slice none 0 0 ∧ G = []) ∨ ∃ ad c, u = .slice (some ad) G.length c ∧ ∀ j v, (natVals G)[j]? = some v → w.cell? (ad.add j) = some v
theorem wpList_app_ints (w : World) {ops : Array Oper} {rest : List Oper} {o : Oper} {a : Act} {Q : Exit → Act → World → Prop} (hgd : o.guard = none) (s x : Operand)
    (ho : o.op = .call { callee := .builtin .append, args := #[s, x], argTypes := #[38, 38] }) (base : Nat) (v u : Value) (F G : List Nat) (hs : a.eval s = v) (hx : a.eval x = u)
    (hown : w.ownsRow base 3 1 v F.length (natVals F)) (hsrc : SrcI w u G) (hlen : F.length + G.length ≤ 1000000) (hbase : base ≤ w.heap.size)
    (h : ∀ v' w', w'.ownsRow base 3 1 v' (F ++ G).length (natVals (F ++ G)) → w.grownBy w' v.ownBlock → (v'.ownBlock = v.ownBlock ∨ v'.ownBlock = some w.heap.size) → wpList Tryz.prog ops Q rest (a.put o.dst v') w') : wpList Tryz.prog ops Q (o :: rest) a w := by
  obtain ⟨i0, hi, hz0, hz1, hz2⟩ := info_parts info_i64
  have key : ∃ v' w', (Builtin.append_ #[38, 38] o.type #[v, u]).run Tryz.prog w = .ok v' w' ∧ w'.ownsRow base 3 1 v' (F ++ G).length (natVals (F ++ G)) ∧ w.grownBy w' v.ownBlock ∧ (v'.ownBlock = v.ownBlock ∨ v'.ownBlock = some w.heap.size) := by
    rcases hsrc with ⟨rfl, rfl⟩ | ⟨ad, c, rfl, hc⟩
    · refine ⟨v, w, run_append_owned_none w base 38 o.type 3 i0 1 Tryz.underlying38 hi v _ _ hown, by rw [List.append_nil]; exact hown, ⟨rfl, rfl, rfl, Nat.le_refl _, fun _ _ _ => rfl⟩, .inl rfl⟩
    · obtain ⟨v', w', h1, h2, h3, h4, h5⟩ := run_append_own_at (P := Tryz.prog) w base 38 o.type 3 i0 (.int .i64 0) 1 8 Tryz.underlying38 hi hz0 hz1 hz2 rfl (by omega) v F.length (natVals F) hown ad G.length c (natVals G) (by rw [natVals_length, Nat.mul_one]) hc (natVals_one G) (by unfold maxLen; omega) (by omega) hbase
      exact ⟨v', w', h1, by rw [natVals_append, List.length_append]; exact h2, h3, h5⟩
  obtain ⟨v', w', h1, h2, h3, h4⟩ := key
  refine wpList_plain hgd fun _ hK => ?_
  unfold Oper.wp execOp
  simp only [ho, resolve, invoke, builtin, Sem.run_bind, Sem.run_pure, Result.andThen_ok, List.map_toArray, List.map_cons, List.map_nil, hs, hx, h1]
  exact hK _ _ (h v' w' h2 h3 h4)
theorem own_below {w w' : World} {B n : Nat} {e : TypeId} {k : Nat} {v : Value} {xs : List Value} (h : w.ownsRow B e k v n xs) (hb : Below w.heap.size w w') : w'.ownsRow B e k v n xs := by
  refine h.kept (row := none) ⟨hb.os, hb.tape, hb.output, hb.size, fun k hk _ => hb.block k hk⟩ ?_
  cases v.ownBlock with
  | none => exact .inl rfl
  | some k => exact .inr (by simp)
theorem own_fix {w : World} {base n : Nat} {v : Value} {G : List Nat} (h : w.ownsRow base 3 1 v n (natVals G)) : w.ownsRow base 3 1 v G.length (natVals G) := by
  have e := h.1
  rw [natVals_length, Nat.mul_one] at e
  rw [e]; exact h
theorem own_cell {w : World} {base g cap : Nat} {F : List Nat} (h : w.ownsRow base 3 1 (.slice (some ⟨g, 0, none⟩) F.length cap) F.length (natVals F)) (j : Nat) (hj : j < F.length) : w.cell? ⟨g, j, none⟩ = some (.int .i64 (F[j] : Nat)) := by
  rw [h.cellAt j (by omega), natVals_at, List.getElem?_eq_getElem hj]
  rfl
theorem src_one {w : World} {h c : Nat} (hc : w.cell? ⟨h, 0, none⟩ = some (.int .i64 (c : Int))) : SrcI w (.slice (some ⟨h, 0, none⟩) 1 1) [c] := by
  refine .inr ⟨⟨h, 0, none⟩, 1, rfl, fun j v hj => ?_⟩
  cases j with
  | zero =>
    have : v = .int .i64 (c : Int) := by simpa [natVals] using hj.symm
    rw [addr_add, Nat.zero_add, hc, this]
  | succ j => simp [natVals] at hj
end Go.Proofs.YtfeljhikeddodadGreatDoor
