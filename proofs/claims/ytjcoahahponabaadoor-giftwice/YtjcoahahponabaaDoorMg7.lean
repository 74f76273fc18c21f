/- Walk of the writer of bits, the lowest first. Walks of the rest of the writer of bits; the closed fact on bits. A writer that holds pieces. A call as one step of a statement that draws its order. Walks of the reader of bits. Texts of pieces, read. -/
import Derived.Test.YtjcoahahponabaaDoorBWa
import Derived.Test.YtjcoahahponabaaDoorMg3
import Derived.Test.YtjcoahahponabaaDoorMg1
import Derived.Deep.RegionHeld
import Derived.OwnWalk
import Derived.Shelf.Abstract
import Derived.BigQuiet
namespace Go.Proofs.YtjcoahahponabaaDoor
open Go.RowKit

theorem put_yes (p c N n d : Nat) (w : World) (hW : WAt w p c N) (hd : d ≤ 32) (hn : n < 2 ^ d) (hc : c + 40 ≤ 4000000) :
    Calls Tryd.prog 78 #[.pointer (some ⟨p, 0, none⟩), .int .u32 (n : Int), .int .i64 (d : Int)] w fun e w' => e = .returned .nilIface ∧ WAt w' p (c + d) (N + 2 ^ c * n) ∧ Kept p w w' := by
  have hn32 : n < 4294967296 := Nat.lt_of_lt_of_le hn (Nat.pow_le_pow_right (n := 2) (j := 32) (by omega) hd)
  have HW := hide hW
  have Hfit : decide (n / 2 ^ d = 0) = true := by simpa using Nat.div_eq_of_lt hn
  have Hn := hide hn
  clear hW hn
  go_enter Tryd.func78, Tryd.ntmps78
  go_wp2_with fail
  refine (fits_in n d true _ hd Hfit).mono ?_; rintro e w1 ⟨rfl, rfl⟩
  clear Hfit
  go_wp2
  go_loopw [14] (fun i wr => ∃ k : Nat, k ≤ d ∧ i = .int .i64 k ∧ WAt wr p (c + k) (N + 2 ^ c * (n % 2 ^ k)) ∧ Kept p w1 wr) (fun i _ => d - (intOf i).toNat)
  case atStart => exact ⟨0, by omega, rfl, by simpa [Nat.mod_one] using unhide HW, Kept.refl _ _⟩
  case round =>
    obtain ⟨k, hk, rfl, hWk, hbk⟩ := hrel
    by_cases hlt : k < d
    · have hdk : decide ((k : Int) < (d : Int)) = true := by simp; omega
      have hq : (n : Int) / 2 ^ k = ((n / 2 ^ k : Nat) : Int) := by simp
      have hsucc := hide (Bt.low_succ c N n k)
      have ht := shr_lt n k hn32
      have Hbit := hide (show Bt.bit n k = n / 2 ^ k % 2 from rfl)
      have HWk := hide hWk
      clear hWk
      generalize n / 2 ^ k = t at *
      go_wp2_with fail
      refine (one_any p (c + k) _ t _ (unhide HWk) ht (by omega)).mono ?_; rintro e w2 ⟨rfl, hW2, hb2⟩
      have HW2 := hide hW2
      clear hW2
      go_wp2
      go_roundw
      case rel => exact ⟨k + 1, by omega, by go_num, by rw [unhide hsucc, unhide Hbit]; exact unhide HW2, hbk.trans hb2⟩
      case measure => simp [intOf]; omega
    · have : k = d := by omega
      subst this
      have hdk : decide ((k : Int) < (k : Int)) = false := by simp
      rw [Nat.mod_eq_of_lt (unhide Hn)] at hWk
      have HWk := hide hWk
      clear hWk
      go_wp2
      go_ret
      exact ⟨rfl, unhide HWk, hbk⟩

end Go.Proofs.YtjcoahahponabaaDoor
namespace Go.Proofs.YtjcoahahponabaaDoor
open Go.RowKit

theorem text_any (p c N : Nat) (w : World) (hW : WAt w p c N) :
    Calls Tryd.prog 60 #[.pointer (some ⟨p, 0, none⟩)] w fun e w' => e = .returned (.string ⟨(Bt.yl ((c + 7) / 8) N).toArray⟩) ∧ w' = w := by
  obtain ⟨v, hv, hown⟩ := hW.whole
  have ht := own_text w _ _ _ _ hown
  clear hW hown
  generalize (⟨(Bt.yl ((c + 7) / 8) N).toArray⟩ : ByteArray) = s at *
  go_enter Tryd.func60, Tryd.ntmps60
  go_wp2
  go_ret
  exact ⟨rfl, rfl⟩

theorem new_writer (w : World) : WAt (w.alloc (.cells #[.slice none 0 0, .int .i64 0] 115)) w.heap.size 0 0 := by
  refine ⟨⟨.slice none 0 0, by simp, World.ownsRow_nil _ _ _ _⟩, by simp, by simp, by simp, by simp, by omega⟩
end Go.Proofs.YtjcoahahponabaaDoor
namespace Go.Proofs.YtjcoahahponabaaDoor
open Go.RowKit Ps

/-- A writer at block p that holds these pieces. -/
def WP (w : World) (p : Nat) (l : List Pc) : Prop := WAt w p (len l) (val l)
theorem WP.lt {w : World} {p : Nat} {l : List Pc} (h : WP w p l) : p < w.heap.size := WAt.lt h
theorem WP.row {w : World} {p : Nat} {l : List Pc} (h : WP w p l) : p ≤ rowOf w p ∧ rowOf w p < w.heap.size := WAt.row h
theorem WP.below {w w' : World} {p : Nat} {l : List Pc} (h : WP w p l) (hb : Below w.heap.size w w') : WP w' p l := WAt.below h hb
theorem WP.keep {w w' : World} {p : Nat} {l : List Pc} (h : WP w p l) (hb : Below w.heap.size w w') : Kept p w w' := Kept.of_below h hb

theorem wput_any (p : Nat) (l : List Pc) (n d : Nat) (w : World) (hW : WP w p l) (hd : d ≤ 32) (hn : n < 2 ^ d) (hc : len l + 40 ≤ 4000000) :
    Calls Tryd.prog 78 #[.pointer (some ⟨p, 0, none⟩), .int .u32 (n : Int), .int .i64 (d : Int)] w fun e w' => e = .returned .nilIface ∧ WP w' p (l ++ [(n, d)]) ∧ Kept p w w' := by
  refine (put_yes p (len l) (val l) n d w hW hd hn hc).mono ?_
  rintro e w1 ⟨rfl, hW1, hk⟩
  refine ⟨rfl, ?_, hk⟩
  show WAt _ _ _ _
  rw [len_append, val_append]
  simpa [len, val] using hW1

/-- The bytes that pieces are. -/
def textP (l : List Pc) : ByteArray := ⟨(Bt.yl ((len l + 7) / 8) (val l)).toArray⟩

theorem wtext_any (p : Nat) (l : List Pc) (w : World) (h : WP w p l) : Calls Tryd.prog 60 #[.pointer (some ⟨p, 0, none⟩)] w fun e w' => e = .returned (.string (textP l)) ∧ w' = w := text_any p _ _ w h
end Go.Proofs.YtjcoahahponabaaDoor
namespace Go.Proofs.YtjcoahahponabaaDoor
open Go.RowKit

set_option maxRecDepth 100000 in
/-- A call of a Go function, as one step of a statement that draws its order. -/
theorem step_calls {ops : Array Oper} {o : Oper} {a : Act} {w : World} {K : Act → World → Prop} {Q : Exit → Act → World → Prop} {E : Prop} (hgd : o.guard = none) (f : Nat) (xs : List Operand) (ts : Array TypeId)
    (ho : o.op = .call { callee := .value (.func f), args := xs.toArray, argTypes := ts }) (us : List Value) (hx : xs.map a.eval = us) (ent : ∀ args w, (callFunc f args).run Tryd.prog w = .ok (.enter f args) w)
    (h : Calls Tryd.prog f us.toArray w fun e w' => (∃ v, e = .returned v ∧ K (a.put o.dst v) w') ∨ ∃ ch, e = .panicked ch ∧ Q (.panic ch) a w') : if Region.wanted o (yielded ops a.tmps) = true then Oper.wp Tryd.prog o a w K Q else E := by
  have hw : Region.wanted o (yielded ops a.tmps) = true := by simp [Region.wanted, hgd]
  rw [if_pos hw]
  unfold Oper.wp execOp
  have e1 : a.eval (.func f) = Value.func (.func f) #[] #[] := rfl
  have e2 : ∀ ar : Array Value, ar ++ #[] = ar := fun ar => by simp
  have e3 : ∀ ar : Array Value, #[] ++ ar = ar := fun ar => by simp
  simp only [ho, resolve, invoke, Deferred.ofValue, e1, e2, e3, Sem.run_bind, Sem.run_pure, Result.andThen_ok, List.map_toArray, hx, ent]
  rw [Oper.upon_enter]
  refine h.mono ?_
  rintro e w' (⟨v, rfl, hk⟩ | ⟨ch, rfl, hq⟩)
  · exact hk
  · exact hq

end Go.Proofs.YtjcoahahponabaaDoor
namespace Go.Proofs.YtjcoahahponabaaDoor
open Go.RowKit

/-- A reader at block p, of a text, so many bits read. -/
structure RAt (w : World) (p : Nat) (s : ByteArray) (k : Nat) : Prop where
  text : w.cell? ⟨p, 0, none⟩ = some (.string s)
  count : w.cell? ⟨p, 1, none⟩ = some (.int .i64 (k : Int))
  free1 : w.frozen? ⟨p, 1, none⟩ = false
  within : k ≤ 8 * s.size
  small : s.size ≤ 1000000

theorem RAt.lt {w : World} {p k : Nat} {s : ByteArray} (h : RAt w p s k) : p < w.heap.size := World.block_lt_of_cell? _ _ h.count
theorem RAt.below {w w' : World} {p k : Nat} {s : ByteArray} (h : RAt w p s k) (hb : Below w.heap.size w w') : RAt w' p s k :=
  ⟨(hb.cell h.lt).trans h.text, (hb.cell h.lt).trans h.count, (hb.frozen h.lt).trans h.free1, h.within, h.small⟩
theorem RAt.drew {w : World} {p k : Nat} {s : ByteArray} (h : RAt w p s k) : RAt w.drew p s k := ⟨h.text, h.count, h.free1, h.within, h.small⟩
theorem RAt.moved {w : World} {p k : Nat} {s : ByteArray} (h : RAt w p s k) (m : Nat) (hm : m ≤ 8 * s.size) : RAt (w.setCell ⟨p, 1, none⟩ (.int .i64 (m : Int))) p s m ∧ Below p w (w.setCell ⟨p, 1, none⟩ (.int .i64 (m : Int))) := by
  refine ⟨⟨?_, World.cell?_setCell_same _ _ _ h.count, ?_, hm, h.small⟩, (Below.refl p w).setCell (p := ⟨p, 1, none⟩) (Nat.le_refl p) _⟩
  · rw [World.cell?_setCell_other _ _ _ _ (by intro e; injection e with _ e2; omega)]; exact h.text
  · rw [World.frozen?_setCell]; exact h.free1

/-- A text as a number. -/
def tv (s : ByteArray) : Nat := Crc.num s.data.toList

theorem newReader_any (s : ByteArray) (w : World) (hs : s.size ≤ 1000000) :
    Calls Tryd.prog 79 #[.string s] w fun e w' => e = .returned (.pointer (some ⟨w.heap.size, 0, none⟩)) ∧ RAt w' w.heap.size s 0 ∧ Below w.heap.size w w' := by
  go_enter Tryd.func79, Tryd.ntmps79
  go_wp2
  go_ret
  exact ⟨rfl, ⟨by simp, by simp, by simp, by omega, hs⟩, (Below.refl _ _).alloc (Nat.le_refl _) _⟩

theorem at_any (p k : Nat) (s : ByteArray) (w : World) (h : RAt w p s k) :
    Calls Tryd.prog 82 #[.pointer (some ⟨p, 0, none⟩)] w fun e w' => e = .returned (.int .i64 (k : Int)) ∧ w' = w := by
  have h1 := h.count
  clear h
  go_enter Tryd.func82, Tryd.ntmps82
  go_wp2
  go_ret
  exact ⟨rfl, rfl⟩

theorem left_any (p k lf : Nat) (s : ByteArray) (w : World) (h : RAt w p s k) (hlf : lf + k = 8 * s.size) :
    Calls Tryd.prog 86 #[.pointer (some ⟨p, 0, none⟩)] w fun e w' => e = .returned (.int .i64 (lf : Int)) ∧ Below w.heap.size w w' := by
  have h0 := h.text
  have h1 := h.count
  have h2 := h.within
  have h3 := h.small
  have Hlf := hide hlf
  clear h hlf
  go_enter Tryd.func86, Tryd.ntmps86
  go_wp2
  go_region
  go_wp2
  go_ret
  exact ⟨ret_int (by have := unhide Hlf; omega), (Below.refl _ _).drew⟩

theorem one_bit (s : ByteArray) (q r : Nat) (hq : q < s.size) (hr : r < 8) : s[q].toNat / 2 ^ r % 2 = Bt.bit (tv s) (8 * q + r) := by
  unfold tv
  rw [Bt.bit_num s.data.toList q r (by simpa using hq) hr]
  rfl

theorem rone_any (p k : Nat) (s : ByteArray) (w : World) (h : RAt w p s k) (hk : k < 8 * s.size) :
    Calls Tryd.prog 87 #[.pointer (some ⟨p, 0, none⟩)] w fun e w' => e = .returned (.int .u32 (Bt.bit (tv s) k : Nat)) ∧ RAt w' p s (k + 1) ∧ Below p w w' := by
  have h0 := h.text
  have h1 := h.count
  have h2 := h.within
  have h3 := h.small
  have h4 := h.free1
  have hm := hide (h.moved (k + 1) (by omega))
  clear h
  obtain ⟨q, hq⟩ : ∃ q, q = k / 8 := ⟨_, rfl⟩
  have hq1 : (k : Int) / 8 = (q : Int) := by omega
  obtain ⟨r, hr⟩ : ∃ r, r = k % 8 := ⟨_, rfl⟩
  have hr1 : (k : Int) % 8 = (r : Int) := by omega
  have hqs : q < s.size := by omega
  have hqi : (q : Int) < (s.size : Int) := by omega
  have hrl : r < 8 := by omega
  have Hbit := hide (one_bit s q r hqs hrl)
  rw [show 8 * q + r = k from by omega] at Hbit
  have hx := s[q].toNat_lt
  have hsh : (s[q].toNat : Int) / 2 ^ r = ((s[q].toNat / 2 ^ r : Nat) : Int) := by simp
  have hyl : s[q].toNat / 2 ^ r < 256 := Nat.lt_of_le_of_lt (Nat.div_le_self _ _) hx
  generalize s[q].toNat / 2 ^ r = y at *
  have hand : bits .and .u8 (y : Int) 1 = ((y % 2 : Nat) : Int) := by
    have := u8_and_nat y 1 hyl (by omega)
    rw [nat_mask1] at this
    exact this
  obtain ⟨z, hz⟩ : ∃ z, z = y % 2 := ⟨_, rfl⟩
  rw [← hz] at hand Hbit
  have hzl : z < 2 := by omega
  clear hq hr hz
  go_enter Tryd.func87, Tryd.ntmps87
  go_wp2
  go_region
  go_wp2
  go_ret
  rw [← unhide Hbit]
  exact ⟨rfl, (unhide hm).1.drew, (unhide hm).2.drew⟩
end Go.Proofs.YtjcoahahponabaaDoor
namespace Go.Proofs.YtjcoahahponabaaDoor
open Ps

/-- The bytes of pieces, read, are the pieces; whatever stands behind. -/
theorem tv_textP {l : List Pc} (h : Fit l) : tv (textP l) = val l := by
  unfold tv textP
  rw [show (⟨(Bt.yl ((len l + 7) / 8) (val l)).toArray⟩ : ByteArray).data.toList = Bt.yl ((len l + 7) / 8) (val l) by simp, Bt.num_yl]
  refine Nat.mod_eq_of_lt (Nat.lt_of_lt_of_le (val_lt h) ?_)
  rw [Bt.pow256]
  exact Nat.pow_le_pow_right (by omega) (by omega)
theorem textP_size (l : List Pc) : (textP l).size = (len l + 7) / 8 := by
  show (Bt.yl ((len l + 7) / 8) (val l)).toArray.size = _
  simp [Bt.yl_length]
theorem at_text {l : List Pc} (h : Fit l) (more : ByteArray) : At (tv (textP l ++ more)) (8 * (textP l ++ more).size) 0 l := by
  have e : tv (textP l ++ more) = val l + 2 ^ len l * (2 ^ (8 * (textP l).size - len l) * tv more) := by
    unfold tv
    rw [ByteArray.data_append, Array.toList_append, Bt.num_append]
    have h1 : Crc.num (textP l).data.toList = val l := tv_textP h
    have h2 : (textP l).data.toList.length = (textP l).size := Array.length_toList
    rw [h1, h2, ← Nat.mul_assoc, ← Nat.pow_add]
    have := textP_size l
    rw [show len l + (8 * (textP l).size - len l) = 8 * (textP l).size by omega]
  rw [e]
  have := textP_size l
  have hs : 8 * (textP l ++ more).size = len l + (8 * (textP l ++ more).size - len l) := by
    rw [ByteArray.size_append]; omega
  rw [hs]
  exact at_front h

end Go.Proofs.YtjcoahahponabaaDoor
