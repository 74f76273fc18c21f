/- Walks of the writer of blocks: numbers, heads, the text of pieces. Walks of the reader of bits. Texts of pieces, read. Walks of the closed fact of three bits, and of the writer that goes on to a whole byte. A row of a call's own, and a byte more in it. Numbers appended to a row of one's own. -/
import Derived.Test.YtbbcfghlhgaofadGreatDoorMg2
import Derived.Test.YtbbcfghlhgaofadGreatDoorPs
import Derived.BigQuiet
import Derived.Test.YtbbcfghlhgaofadGreatDoorMg1
import Derived.Below
import Derived.Test.YtbbcfghlhgaofadGreatDoorMg3
import Derived.Deep.OwnRows
import Derived.Maps.AppendAt
namespace Go.Proofs.YtbbcfghlhgaofadGreatDoor
open Go.RowKit Pm Cn Nf Ps

/-- A writer at block p that holds these pieces. -/
def WP (w : World) (p : Nat) (l : List Pc) : Prop := WAt w p (len l) (val l)
theorem WP.lt {w : World} {p : Nat} {l : List Pc} (h : WP w p l) : p < w.heap.size := WAt.lt h
theorem WP.row {w : World} {p : Nat} {l : List Pc} (h : WP w p l) : p ≤ rowOf w p ∧ rowOf w p < w.heap.size := WAt.row h
theorem WP.below {w w' : World} {p : Nat} {l : List Pc} (h : WP w p l) (hb : Below w.heap.size w w') : WP w' p l := WAt.below h hb
theorem WP.keep {w w' : World} {p : Nat} {l : List Pc} (h : WP w p l) (hb : Below w.heap.size w w') : Kept p w w' := Kept.of_below h hb

theorem wnumber_any (p : Nat) (l : List Pc) (n d : Nat) (w : World) (hW : WP w p l) (hd : d ≤ 16) (hn : n < 2 ^ d) (hc : len l + 40 ≤ 4000000) :
    Calls Tryz.prog 95 #[.pointer (some ⟨p, 0, none⟩), .int .i64 (n : Int), .int .i64 (d : Int)] w fun e w' => e = .returned (.tuple #[]) ∧ WP w' p (l ++ [(n, d)]) ∧ Kept p w w' := by
  have hn16 : n < 65536 := Nat.lt_of_lt_of_le hn (Nat.pow_le_pow_right (n := 2) (j := 16) (by omega) hd)
  have HP := hide (put_yes p (len l) (val l) n d w hW (by omega) hn hc)
  have hc32 : (n : Int) % 4294967296 = (n : Int) := by omega
  clear hW hn hc
  go_enter Tryz.func95, Tryz.ntmps95
  go_wp2_with fail
  refine (unhide HP).mono ?_; rintro e w1 ⟨rfl, hW1, hk⟩
  have HW1 : Hid (WP w1 p (l ++ [(n, d)])) := by
    show WAt _ _ _ _
    rw [len_append, val_append]
    simpa [len, val] using hW1
  clear hW1 HP
  go_wp2
  go_end0
  exact ⟨rfl, unhide HW1, hk⟩

theorem whead_any (p : Nat) (l : List Pc) (last : Bool) (kind : Nat) (w : World) (hW : WP w p l) (hk : kind < 3) (hc : len l + 100 ≤ 4000000) :
    Calls Tryz.prog 62 #[.pointer (some ⟨p, 0, none⟩), .bool last, .int .i64 (kind : Int)] w fun e w' => e = .returned (.tuple #[]) ∧ WP w' p (l ++ [(last.toNat, 1), (kind, 2)]) ∧ Kept p w w' := by
  have H1 : Hid (Calls Tryz.prog 95 #[.pointer (some ⟨p, 0, none⟩), .int .i64 ((last.toNat : Nat) : Int), .int .i64 ((1 : Nat) : Int)] w fun e w' => e = .returned (.tuple #[]) ∧ WP w' p (l ++ [(last.toNat, 1)]) ∧ Kept p w w') := wnumber_any p l last.toNat 1 w hW (by omega) (by cases last <;> decide) (by omega)
  have hl2 : len (l ++ [(last.toNat, 1)]) = len l + 1 := by rw [len_append]; rfl
  have H2 : Hid (∀ w1, WP w1 p (l ++ [(last.toNat, 1)]) → Calls Tryz.prog 95 #[.pointer (some ⟨p, 0, none⟩), .int .i64 (kind : Int), .int .i64 ((2 : Nat) : Int)] w1 fun e w' => e = .returned (.tuple #[]) ∧ WP w' p ((l ++ [(last.toNat, 1)]) ++ [(kind, 2)]) ∧ Kept p w1 w') := fun w1 h1 => wnumber_any p _ kind 2 w1 h1 (by omega) (by omega) (by omega)
  clear hW hl2 hc
  cases last with
  | false =>
    go_enter Tryz.func62, Tryz.ntmps62
    go_wp2_with fail
    refine (unhide H1).mono ?_; rintro e w1 ⟨rfl, hW1, hk1⟩
    have HC := hide (unhide H2 w1 hW1)
    clear H1 H2 hW1
    go_wp2_with fail
    refine (unhide HC).mono ?_; rintro e w2 ⟨rfl, hW2, hk2⟩
    have HW2 := hide hW2
    clear HC hW2
    go_wp2
    go_end0
    exact ⟨rfl, by have := unhide HW2; rwa [List.append_assoc] at this, hk1.trans hk2⟩
  | true =>
    go_enter Tryz.func62, Tryz.ntmps62
    go_wp2_with fail
    refine (unhide H1).mono ?_; rintro e w1 ⟨rfl, hW1, hk1⟩
    have HC := hide (unhide H2 w1 hW1)
    clear H1 H2 hW1
    go_wp2_with fail
    refine (unhide HC).mono ?_; rintro e w2 ⟨rfl, hW2, hk2⟩
    have HW2 := hide hW2
    clear HC hW2
    go_wp2
    go_end0
    exact ⟨rfl, by have := unhide HW2; rwa [List.append_assoc] at this, hk1.trans hk2⟩
theorem new_writer2 (w : World) : WP (w.alloc (.cells #[.slice none 0 0, .int .i64 0] 96)) w.heap.size [] :=
  ⟨⟨.slice none 0 0, by simp, World.ownsRow_nil _ _ _ _⟩, by simp [len], by simp, by simp, by simp [len, val], by simp [len]⟩

/-- The bytes that pieces are. -/
def textP (l : List Pc) : ByteArray := ⟨(Bt.yl ((len l + 7) / 8) (val l)).toArray⟩

theorem wtext_any (p : Nat) (l : List Pc) (w : World) (h : WP w p l) : Calls Tryz.prog 67 #[.pointer (some ⟨p, 0, none⟩)] w fun e w' => e = .returned (.string (textP l)) ∧ w' = w := text_any p _ _ w h
end Go.Proofs.YtbbcfghlhgaofadGreatDoor
namespace Go.Proofs.YtbbcfghlhgaofadGreatDoor
open Go.RowKit

/-- A reader at block p, of a text, so many bits read. -/
structure RAt (w : World) (p : Nat) (s : ByteArray) (k : Nat) : Prop where
  text : w.cell? ⟨p, 0, none⟩ = some (.string s)
  count : w.cell? ⟨p, 1, none⟩ = some (.int .i64 (k : Int))
  free1 : w.frozen? ⟨p, 1, none⟩ = false
  within : k ≤ 8 * s.size
  small : s.size ≤ 1000000

theorem RAt.lt {w : World} {p k : Nat} {s : ByteArray} (h : RAt w p s k) : p < w.heap.size := World.block_lt_of_cell? _ _ h.count
theorem RAt.below {w w' : World} {p k : Nat} {s : ByteArray} (h : RAt w p s k) (hb : Below w.heap.size w w') : RAt w' p s k :=
  ⟨(hb.cell h.lt).trans h.text, (hb.cell h.lt).trans h.count, (hb.frozen h.lt).trans h.free1, h.within, h.small⟩
theorem RAt.drew {w : World} {p k : Nat} {s : ByteArray} (h : RAt w p s k) : RAt w.drew p s k := ⟨h.text, h.count, h.free1, h.within, h.small⟩
theorem RAt.moved {w : World} {p k : Nat} {s : ByteArray} (h : RAt w p s k) (m : Nat) (hm : m ≤ 8 * s.size) : RAt (w.setCell ⟨p, 1, none⟩ (.int .i64 (m : Int))) p s m ∧ Below p w (w.setCell ⟨p, 1, none⟩ (.int .i64 (m : Int))) := by
  refine ⟨⟨?_, World.cell?_setCell_same _ _ _ h.count, ?_, hm, h.small⟩, (Below.refl p w).setCell (p := ⟨p, 1, none⟩) (Nat.le_refl p) _⟩
  · rw [World.cell?_setCell_other _ _ _ _ (by intro e; injection e with _ e2; omega)]; exact h.text
  · rw [World.frozen?_setCell]; exact h.free1

/-- A text as a number. -/
def tv (s : ByteArray) : Nat := Crc.num s.data.toList

theorem newReader_any (s : ByteArray) (w : World) (hs : s.size ≤ 1000000) :
    Calls Tryz.prog 70 #[.string s] w fun e w' => e = .returned (.pointer (some ⟨w.heap.size, 0, none⟩)) ∧ RAt w' w.heap.size s 0 ∧ Below w.heap.size w w' := by
  go_enter Tryz.func70, Tryz.ntmps70
  go_wp2
  go_ret
  exact ⟨rfl, ⟨by simp, by simp, by simp, by omega, hs⟩, (Below.refl _ _).alloc (Nat.le_refl _) _⟩

theorem at_any (p k : Nat) (s : ByteArray) (w : World) (h : RAt w p s k) :
    Calls Tryz.prog 77 #[.pointer (some ⟨p, 0, none⟩)] w fun e w' => e = .returned (.int .i64 (k : Int)) ∧ w' = w := by
  have h1 := h.count
  clear h
  go_enter Tryz.func77, Tryz.ntmps77
  go_wp2
  go_ret
  exact ⟨rfl, rfl⟩

theorem left_any (p k lf : Nat) (s : ByteArray) (w : World) (h : RAt w p s k) (hlf : lf + k = 8 * s.size) :
    Calls Tryz.prog 111 #[.pointer (some ⟨p, 0, none⟩)] w fun e w' => e = .returned (.int .i64 (lf : Int)) ∧ Below w.heap.size w w' := by
  have h0 := h.text
  have h1 := h.count
  have h2 := h.within
  have h3 := h.small
  have Hlf := hide hlf
  clear h hlf
  go_enter Tryz.func111, Tryz.ntmps111
  go_wp2
  go_region
  go_wp2
  go_ret
  exact ⟨ret_int (by have := unhide Hlf; omega), (Below.refl _ _).drew⟩

theorem one_bit (s : ByteArray) (q r : Nat) (hq : q < s.size) (hr : r < 8) : s[q].toNat / 2 ^ r % 2 = Bt.bit (tv s) (8 * q + r) := by
  unfold tv
  rw [Bt.bit_num s.data.toList q r (by simpa using hq) hr]
  rfl

theorem rone_any (p k : Nat) (s : ByteArray) (w : World) (h : RAt w p s k) (hk : k < 8 * s.size) :
    Calls Tryz.prog 146 #[.pointer (some ⟨p, 0, none⟩)] w fun e w' => e = .returned (.int .u32 (Bt.bit (tv s) k : Nat)) ∧ RAt w' p s (k + 1) ∧ Below p w w' := by
  have h0 := h.text
  have h1 := h.count
  have h2 := h.within
  have h3 := h.small
  have h4 := h.free1
  have hm := hide (h.moved (k + 1) (by omega))
  clear h
  obtain ⟨q, hq⟩ : ∃ q, q = k / 8 := ⟨_, rfl⟩
  have hq1 : (k : Int) / 8 = (q : Int) := by omega
  obtain ⟨r, hr⟩ : ∃ r, r = k % 8 := ⟨_, rfl⟩
  have hr1 : (k : Int) % 8 = (r : Int) := by omega
  have hqs : q < s.size := by omega
  have hqi : (q : Int) < (s.size : Int) := by omega
  have hrl : r < 8 := by omega
  have Hbit := hide (one_bit s q r hqs hrl)
  rw [show 8 * q + r = k from by omega] at Hbit
  have hx := s[q].toNat_lt
  have hsh : (s[q].toNat : Int) / 2 ^ r = ((s[q].toNat / 2 ^ r : Nat) : Int) := by simp
  have hyl : s[q].toNat / 2 ^ r < 256 := Nat.lt_of_le_of_lt (Nat.div_le_self _ _) hx
  generalize s[q].toNat / 2 ^ r = y at *
  have hand : bits .and .u8 (y : Int) 1 = ((y % 2 : Nat) : Int) := by
    have := u8_and_nat y 1 hyl (by omega)
    rw [nat_mask1] at this
    exact this
  obtain ⟨z, hz⟩ : ∃ z, z = y % 2 := ⟨_, rfl⟩
  rw [← hz] at hand Hbit
  have hzl : z < 2 := by omega
  clear hq hr hz
  go_enter Tryz.func146, Tryz.ntmps146
  go_wp2
  go_region
  go_wp2
  go_ret
  rw [← unhide Hbit]
  exact ⟨rfl, (unhide hm).1.drew, (unhide hm).2.drew⟩
end Go.Proofs.YtbbcfghlhgaofadGreatDoor
namespace Go.Proofs.YtbbcfghlhgaofadGreatDoor
open Pm Cn Nf Ps

/-- The bytes of pieces, read, are the pieces; whatever stands behind. -/
theorem tv_textP {l : List Pc} (h : Fit l) : tv (textP l) = val l := by
  unfold tv textP
  rw [show (⟨(Bt.yl ((len l + 7) / 8) (val l)).toArray⟩ : ByteArray).data.toList = Bt.yl ((len l + 7) / 8) (val l) by simp, Bt.num_yl]
  refine Nat.mod_eq_of_lt (Nat.lt_of_lt_of_le (val_lt h) ?_)
  rw [Bt.pow256]
  exact Nat.pow_le_pow_right (by omega) (by omega)
theorem textP_size (l : List Pc) : (textP l).size = (len l + 7) / 8 := by
  show (Bt.yl ((len l + 7) / 8) (val l)).toArray.size = _
  simp [Bt.yl_length]
theorem at_text {l : List Pc} (h : Fit l) (more : ByteArray) : At (tv (textP l ++ more)) (8 * (textP l ++ more).size) 0 l := by
  have e : tv (textP l ++ more) = val l + 2 ^ len l * (2 ^ (8 * (textP l).size - len l) * tv more) := by
    unfold tv
    rw [ByteArray.data_append, Array.toList_append, Bt.num_append]
    have h1 : Crc.num (textP l).data.toList = val l := tv_textP h
    have h2 : (textP l).data.toList.length = (textP l).size := Array.length_toList
    rw [h1, h2, ← Nat.mul_assoc, ← Nat.pow_add]
    have := textP_size l
    rw [show len l + (8 * (textP l).size - len l) = 8 * (textP l).size by omega]
  rw [e]
  have := textP_size l
  have hs : 8 * (textP l ++ more).size = len l + (8 * (textP l ++ more).size - len l) := by
    rw [ByteArray.size_append]; omega
  rw [hs]
  exact at_front h

end Go.Proofs.YtbbcfghlhgaofadGreatDoor
namespace Go.Proofs.YtbbcfghlhgaofadGreatDoor
open Go.RowKit

theorem align_end (w : World) (p c N : Nat) (hW : WAt w p c N) (hc : c + 7 ≤ 4000000) : WAt (w.setCell ⟨p, 1, none⟩ (.int .i64 ((8 * ((c + 7) / 8) : Nat) : Int))) p (8 * ((c + 7) / 8)) N ∧
    Kept p w (w.setCell ⟨p, 1, none⟩ (.int .i64 ((8 * ((c + 7) / 8) : Nat) : Int))) := by
  obtain ⟨⟨v, hv, hown⟩, hcnt, f0, f1, hfit, hsm⟩ := hW
  have hcell : (w.setCell ⟨p, 1, none⟩ (.int .i64 ((8 * ((c + 7) / 8) : Nat) : Int))).cell? ⟨p, 0, none⟩ = w.cell? ⟨p, 0, none⟩ := World.cell?_setCell_other _ _ _ _ (by intro e; injection e with _ e2; omega)
  refine ⟨⟨⟨v, hcell.trans hv, ?_⟩, World.cell?_setCell_same _ _ _ hcnt, ?_, ?_, Bt.lt_wide hfit (by omega), by omega⟩, ⟨rfl, rfl, rfl, by simp [World.setCell], ?_, .inl (rowOf_same hcell)⟩⟩
  · rw [show (8 * ((c + 7) / 8) + 7) / 8 = (c + 7) / 8 from by omega]
    exact ownsRow_setCell_below hown (by show p < p + 1; omega) _
  · rw [World.frozen?_setCell]; exact f0
  · rw [World.frozen?_setCell]; exact f1
  · intro k _ h1 _
    exact Below.heap_setCell _ _ _ _ h1

theorem align_any (p c N : Nat) (w : World) (hW : WAt w p c N) (hc : c + 7 ≤ 4000000) :
    Calls Tryz.prog 134 #[.pointer (some ⟨p, 0, none⟩)] w fun e w' => e = .returned (.tuple #[]) ∧ WAt w' p (8 * ((c + 7) / 8)) N ∧ Kept p w w' := by
  have hend := hide (align_end w p c N hW hc)
  obtain ⟨⟨v, hv, hown⟩, hcnt, f0, f1, hfit, hsm⟩ := hW
  obtain ⟨a, cap, rfl⟩ := shape_of hown
  clear hown f0
  have hm : (c + 7) / 8 ≤ 4000000 := by omega
  generalize (c + 7) / 8 = m at *
  have h8 : (m : Int) * 8 = ((8 * m : Nat) : Int) := by omega
  go_enter Tryz.func134, Tryz.ntmps134
  go_wp2
  go_end0
  exact ⟨rfl, unhide hend⟩
end Go.Proofs.YtbbcfghlhgaofadGreatDoor
namespace Go.Proofs.YtbbcfghlhgaofadGreatDoor
open Go.RowKit

theorem addr_add (g o j : Nat) : (⟨g, o, none⟩ : Addr).add j = ⟨g, o + j, none⟩ := by unfold Addr.add; split <;> simp_all
theorem own_shape {w : World} {base n : Nat} {e : TypeId} {v : Value} {xs : List Value} (h : w.ownsRow base e 1 v n xs) : ∃ a c, v = .slice a n c ∧ (0 < n → ∃ g, a = some ⟨g, 0, none⟩ ∧ base ≤ g) := by
  rcases h.2 with ⟨rfl, rfl⟩ | ⟨g, c, cur, rfl, hb, _⟩
  · exact ⟨none, 0, rfl, fun h => by omega⟩
  · exact ⟨_, c, rfl, fun _ => ⟨g, rfl, hb⟩⟩


/-! ### A byte more -/
theorem app_u8 (w : World) (base q : Nat) (v : Value) (l : List UInt8) (b : UInt8) (t : TypeId) (hown : w.ownsRow base 5 1 v l.length (byteVals l)) (hq : w.cell? ⟨q, 0, none⟩ = some (.int .u8 (b.toNat : Int))) (hl : l.length ≤ 1000000) (hb : base ≤ w.heap.size) :
    ∃ v' w', (Builtin.append_ #[54, 54] t #[v, .slice (some ⟨q, 0, none⟩) 1 1]).run Tryz.prog w = .ok v' w' ∧ w'.ownsRow base 5 1 v' (l ++ [b]).length (byteVals (l ++ [b])) ∧ w.grownBy w' v.ownBlock ∧ (v'.ownBlock = v.ownBlock ∨ v'.ownBlock = some w.heap.size) := by
  obtain ⟨i0, hi, hz0, hz1, hz2⟩ := info_parts info_u8
  obtain ⟨v', w', h1, h2, h3, h4, h5⟩ := run_append_own_at (P := Tryz.prog) w base 54 t 5 i0 (.int .u8 0) 1 1 Tryz.underlying54 hi hz0 hz1 hz2 rfl (by omega) v l.length (byteVals l) hown ⟨q, 0, none⟩ 1 1 [.int .u8 (b.toNat : Int)] rfl (fun j u hj => by
    match j, hj with
    | 0, hj => rw [addr_add, Nat.zero_add, hq]; simpa using hj) (fun u hu => by rw [List.mem_singleton] at hu; subst hu; rfl) (by unfold maxLen; omega) (by omega) hb
  refine ⟨v', w', h1, ?_, h3, h5⟩
  rw [byteVals_append, List.length_append]
  exact h2

theorem wpList_appB (w : World) {ops : Array Oper} {rest : List Oper} {o : Oper} {a : Act} {Q : Exit → Act → World → Prop} (hgd : o.guard = none) (s x : Operand)
    (ho : o.op = .call { callee := .builtin .append, args := #[s, x], argTypes := #[54, 54] }) (base q : Nat) (v : Value) (l : List UInt8) (b : UInt8) (hs : a.eval s = v) (hx : a.eval x = .slice (some ⟨q, 0, none⟩) 1 1)
    (hown : w.ownsRow base 5 1 v l.length (byteVals l)) (hq : w.cell? ⟨q, 0, none⟩ = some (.int .u8 (b.toNat : Int))) (hl : l.length ≤ 1000000) (hb : base ≤ w.heap.size)
    (h : ∀ v' w', w'.ownsRow base 5 1 v' (l ++ [b]).length (byteVals (l ++ [b])) → w.grownBy w' v.ownBlock → (v'.ownBlock = v.ownBlock ∨ v'.ownBlock = some w.heap.size) → wpList Tryz.prog ops Q rest (a.put o.dst v') w') : wpList Tryz.prog ops Q (o :: rest) a w := by
  obtain ⟨v', w', h1, h2, h3, h4⟩ := app_u8 w base q v l b o.type hown hq hl hb
  refine wpList_plain hgd fun _ hK => ?_
  unfold Oper.wp execOp
  simp only [ho, resolve, invoke, builtin, Sem.run_bind, Sem.run_pure, Result.andThen_ok, List.map_toArray, List.map_cons, List.map_nil, hs, hx, h1]
  exact hK _ _ (h v' w' h2 h3 h4)

/-- .. as one step of a statement that draws its order. -/
theorem step_appB {w : World} {ops : Array Oper} {o : Oper} {a : Act} {K : Act → World → Prop} {Q : Exit → Act → World → Prop} {E : Prop} (hgd : o.guard = none) (s x : Operand)
    (ho : o.op = .call { callee := .builtin .append, args := #[s, x], argTypes := #[54, 54] }) (base q : Nat) (v : Value) (l : List UInt8) (b : UInt8) (hs : a.eval s = v) (hx : a.eval x = .slice (some ⟨q, 0, none⟩) 1 1)
    (hown : w.ownsRow base 5 1 v l.length (byteVals l)) (hq : w.cell? ⟨q, 0, none⟩ = some (.int .u8 (b.toNat : Int))) (hl : l.length ≤ 1000000) (hb : base ≤ w.heap.size)
    (h : ∀ v' w', w'.ownsRow base 5 1 v' (l ++ [b]).length (byteVals (l ++ [b])) → w.grownBy w' v.ownBlock → (v'.ownBlock = v.ownBlock ∨ v'.ownBlock = some w.heap.size) → K (a.put o.dst v') w') : if Region.wanted o (yielded ops a.tmps) = true then Oper.wp Tryz.prog o a w K Q else E := by
  have hw : Region.wanted o (yielded ops a.tmps) = true := by simp [Region.wanted, hgd]
  rw [if_pos hw]
  obtain ⟨v', w', h1, h2, h3, h5⟩ := app_u8 w base q v l b o.type hown hq hl hb
  unfold Oper.wp execOp
  simp only [ho, resolve, invoke, builtin, Sem.run_bind, Sem.run_pure, Result.andThen_ok, List.map_toArray, List.map_cons, List.map_nil, hs, hx, h1]
  exact h v' w' h2 h3 h5

end Go.Proofs.YtbbcfghlhgaofadGreatDoor
namespace Go.Proofs.YtbbcfghlhgaofadGreatDoor
open Go.RowKit

/-- Numbers as cells. -/
def natVals (F : List Nat) : List Value := F.map fun (x : Nat) => .int .i64 (x : Int)
theorem natVals_length (F : List Nat) : (natVals F).length = F.length := by simp [natVals]
theorem natVals_at (F : List Nat) (j : Nat) : (natVals F)[j]? = F[j]?.map fun (x : Nat) => .int .i64 (x : Int) := by simp [natVals]
theorem natVals_append (F G : List Nat) : natVals (F ++ G) = natVals F ++ natVals G := by simp [natVals]
theorem natVals_one (F : List Nat) : ∀ u ∈ natVals F, u.oneCell' = true := fun u hu => by
  obtain ⟨i, _, rfl⟩ := List.mem_map.1 hu
  rfl

/-- What is appended: nothing, or numbers that stand somewhere. -/
def SrcI (w : World) (u : Value) (G : List Nat) : Prop := (u = .slice none 0 0 ∧ G = []) ∨ ∃ ad c, u = .slice (some ad) G.length c ∧ ∀ j v, (natVals G)[j]? = some v → w.cell? (ad.add j) = some v

theorem wpList_app_ints (w : World) {ops : Array Oper} {rest : List Oper} {o : Oper} {a : Act} {Q : Exit → Act → World → Prop} (hgd : o.guard = none) (s x : Operand)
    (ho : o.op = .call { callee := .builtin .append, args := #[s, x], argTypes := #[38, 38] }) (base : Nat) (v u : Value) (F G : List Nat) (hs : a.eval s = v) (hx : a.eval x = u)
    (hown : w.ownsRow base 3 1 v F.length (natVals F)) (hsrc : SrcI w u G) (hlen : F.length + G.length ≤ 1000000) (hbase : base ≤ w.heap.size)
    (h : ∀ v' w', w'.ownsRow base 3 1 v' (F ++ G).length (natVals (F ++ G)) → w.grownBy w' v.ownBlock → (v'.ownBlock = v.ownBlock ∨ v'.ownBlock = some w.heap.size) → wpList Tryz.prog ops Q rest (a.put o.dst v') w') : wpList Tryz.prog ops Q (o :: rest) a w := by
  obtain ⟨i0, hi, hz0, hz1, hz2⟩ := info_parts info_i64
  have key : ∃ v' w', (Builtin.append_ #[38, 38] o.type #[v, u]).run Tryz.prog w = .ok v' w' ∧ w'.ownsRow base 3 1 v' (F ++ G).length (natVals (F ++ G)) ∧ w.grownBy w' v.ownBlock ∧ (v'.ownBlock = v.ownBlock ∨ v'.ownBlock = some w.heap.size) := by
    rcases hsrc with ⟨rfl, rfl⟩ | ⟨ad, c, rfl, hc⟩
    · refine ⟨v, w, run_append_owned_none w base 38 o.type 3 i0 1 Tryz.underlying38 hi v _ _ hown, by rw [List.append_nil]; exact hown, ⟨rfl, rfl, rfl, Nat.le_refl _, fun _ _ _ => rfl⟩, .inl rfl⟩
    · obtain ⟨v', w', h1, h2, h3, h4, h5⟩ := run_append_own_at (P := Tryz.prog) w base 38 o.type 3 i0 (.int .i64 0) 1 8 Tryz.underlying38 hi hz0 hz1 hz2 rfl (by omega) v F.length (natVals F) hown ad G.length c (natVals G) (by rw [natVals_length, Nat.mul_one]) hc (natVals_one G) (by unfold maxLen; omega) (by omega) hbase
      exact ⟨v', w', h1, by rw [natVals_append, List.length_append]; exact h2, h3, h5⟩
  obtain ⟨v', w', h1, h2, h3, h4⟩ := key
  refine wpList_plain hgd fun _ hK => ?_
  unfold Oper.wp execOp
  simp only [ho, resolve, invoke, builtin, Sem.run_bind, Sem.run_pure, Result.andThen_ok, List.map_toArray, List.map_cons, List.map_nil, hs, hx, h1]
  exact hK _ _ (h v' w' h2 h3 h4)

theorem own_below {w w' : World} {B n : Nat} {e : TypeId} {k : Nat} {v : Value} {xs : List Value} (h : w.ownsRow B e k v n xs) (hb : Below w.heap.size w w') : w'.ownsRow B e k v n xs := by
  refine h.kept (row := none) ⟨hb.os, hb.tape, hb.output, hb.size, fun k hk _ => hb.block k hk⟩ ?_
  cases v.ownBlock with
  | none => exact .inl rfl
  | some k => exact .inr (by simp)
theorem own_fix {w : World} {base n : Nat} {v : Value} {G : List Nat} (h : w.ownsRow base 3 1 v n (natVals G)) : w.ownsRow base 3 1 v G.length (natVals G) := by
  have e := h.1
  rw [natVals_length, Nat.mul_one] at e
  rw [e]; exact h
theorem own_cell {w : World} {base g cap : Nat} {F : List Nat} (h : w.ownsRow base 3 1 (.slice (some ⟨g, 0, none⟩) F.length cap) F.length (natVals F)) (j : Nat) (hj : j < F.length) : w.cell? ⟨g, j, none⟩ = some (.int .i64 (F[j] : Nat)) := by
  rw [h.cellAt j (by omega), natVals_at, List.getElem?_eq_getElem hj]
  rfl

theorem src_take {w : World} {base g cap : Nat} {F : List Nat} (h : w.ownsRow base 3 1 (.slice (some ⟨g, 0, none⟩) F.length cap) F.length (natVals F)) (k c : Nat) (hk : k ≤ F.length) : SrcI w (.slice (some ⟨g, 0, none⟩) k c) (F.take k) := by
  refine .inr ⟨⟨g, 0, none⟩, c, by rw [List.length_take, Nat.min_eq_left hk], fun j v hj => ?_⟩
  rw [natVals_at] at hj
  by_cases hjk : j < k
  · rw [List.getElem?_take_of_lt hjk, List.getElem?_eq_getElem (by omega)] at hj
    rw [addr_add, Nat.zero_add, own_cell h j (by omega), ← hj]
    rfl
  · rw [List.getElem?_eq_none (by rw [List.length_take]; omega)] at hj
    cases hj
theorem src_drop {w : World} {base g cap : Nat} {F : List Nat} (h : w.ownsRow base 3 1 (.slice (some ⟨g, 0, none⟩) F.length cap) F.length (natVals F)) (k c : Nat) : SrcI w (.slice (some ⟨g, k, none⟩) (F.length - k) c) (F.drop k) := by
  refine .inr ⟨⟨g, k, none⟩, c, by rw [List.length_drop], fun j v hj => ?_⟩
  rw [natVals_at, List.getElem?_drop] at hj
  by_cases hjk : k + j < F.length
  · rw [List.getElem?_eq_getElem hjk] at hj
    rw [addr_add, own_cell h (k + j) hjk, ← hj]
    rfl
  · rw [List.getElem?_eq_none (by omega)] at hj
    cases hj
theorem src_end (w : World) (ad : Addr) (F : List Nat) (k c : Nat) (h : F.length ≤ k) : SrcI w (.slice (some ad) 0 c) (F.drop k) := by
  have e : (F.drop k).length = 0 := by rw [List.length_drop]; omega
  refine .inr ⟨ad, c, by rw [e], fun j v hj => ?_⟩
  rw [natVals_at, List.getElem?_eq_none (by omega)] at hj
  cases hj
theorem src_one {w : World} {h c : Nat} (hc : w.cell? ⟨h, 0, none⟩ = some (.int .i64 (c : Int))) : SrcI w (.slice (some ⟨h, 0, none⟩) 1 1) [c] := by
  refine .inr ⟨⟨h, 0, none⟩, 1, rfl, fun j v hj => ?_⟩
  cases j with
  | zero =>
    have : v = .int .i64 (c : Int) := by simpa [natVals] using hj.symm
    rw [addr_add, Nat.zero_add, hc, this]
  | succ j => simp [natVals] at hj
end Go.Proofs.YtbbcfghlhgaofadGreatDoor
