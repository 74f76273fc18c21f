/- Walk of the writer of bits, the lowest first. Walks of the rest of the writer of bits; the closed fact on bits. A writer that holds pieces. A call as one step of a statement that draws its order. Walks of the reader of bits. Texts of pieces, read. Walks of the packer of numbers: a code told; nothing packed. A map of the call's own whose keys are pairs of numbers. -/
import Derived.Test.YtjcoahahponabaaGreatDoorMh6
import Derived.Test.YtjcoahahponabaaGreatDoorMh3
import Derived.Test.YtjcoahahponabaaGreatDoorMh1
import Derived.Deep.RegionHeld
import Derived.OwnWalk
import Derived.Shelf.Abstract
import Derived.BigQuiet
import Derived.Maps.Own
import Derived.Maps.OwnSet
import Derived.Maps.Views
import Derived.DeepKeys4
import Derived.MapKept
namespace Go.Proofs.YtjcoahahponabaaGreatDoor
open Go.RowKit

theorem put_yes (p c N n d : Nat) (w : World) (hW : WAt w p c N) (hd : d ≤ 32) (hn : n < 2 ^ d) (hc : c + 40 ≤ 4000000) :
    Calls Tryz.prog 178 #[.pointer (some ⟨p, 0, none⟩), .int .u32 (n : Int), .int .i64 (d : Int)] w fun e w' => e = .returned .nilIface ∧ WAt w' p (c + d) (N + 2 ^ c * n) ∧ Kept p w w' := by
  have hn32 : n < 4294967296 := Nat.lt_of_lt_of_le hn (Nat.pow_le_pow_right (n := 2) (j := 32) (by omega) hd)
  have HW := hide hW
  have Hfit : decide (n / 2 ^ d = 0) = true := by simpa using Nat.div_eq_of_lt hn
  have Hn := hide hn
  clear hW hn
  go_enter Tryz.func178, Tryz.ntmps178
  go_wp2_with fail
  refine (fits_in n d true _ hd Hfit).mono ?_; rintro e w1 ⟨rfl, rfl⟩
  clear Hfit
  go_wp2
  go_loopw [14] (fun i wr => ∃ k : Nat, k ≤ d ∧ i = .int .i64 k ∧ WAt wr p (c + k) (N + 2 ^ c * (n % 2 ^ k)) ∧ Kept p w1 wr) (fun i _ => d - (intOf i).toNat)
  case atStart => exact ⟨0, by omega, rfl, by simpa [Nat.mod_one] using unhide HW, Kept.refl _ _⟩
  case round =>
    obtain ⟨k, hk, rfl, hWk, hbk⟩ := hrel
    by_cases hlt : k < d
    · have hdk : decide ((k : Int) < (d : Int)) = true := by simp; omega
      have hq : (n : Int) / 2 ^ k = ((n / 2 ^ k : Nat) : Int) := by simp
      have hsucc := hide (Bt.low_succ c N n k)
      have ht := shr_lt n k hn32
      have Hbit := hide (show Bt.bit n k = n / 2 ^ k % 2 from rfl)
      have HWk := hide hWk
      clear hWk
      generalize n / 2 ^ k = t at *
      go_wp2_with fail
      refine (one_any p (c + k) _ t _ (unhide HWk) ht (by omega)).mono ?_; rintro e w2 ⟨rfl, hW2, hb2⟩
      have HW2 := hide hW2
      clear hW2
      go_wp2
      go_roundw
      case rel => exact ⟨k + 1, by omega, by go_num, by rw [unhide hsucc, unhide Hbit]; exact unhide HW2, hbk.trans hb2⟩
      case measure => simp [intOf]; omega
    · have : k = d := by omega
      subst this
      have hdk : decide ((k : Int) < (k : Int)) = false := by simp
      rw [Nat.mod_eq_of_lt (unhide Hn)] at hWk
      have HWk := hide hWk
      clear hWk
      go_wp2
      go_ret
      exact ⟨rfl, unhide HWk, hbk⟩

end Go.Proofs.YtjcoahahponabaaGreatDoor
namespace Go.Proofs.YtjcoahahponabaaGreatDoor
open Go.RowKit

theorem text_any (p c N : Nat) (w : World) (hW : WAt w p c N) :
    Calls Tryz.prog 152 #[.pointer (some ⟨p, 0, none⟩)] w fun e w' => e = .returned (.string ⟨(Bt.yl ((c + 7) / 8) N).toArray⟩) ∧ w' = w := by
  obtain ⟨v, hv, hown⟩ := hW.whole
  have ht := own_text w _ _ _ _ hown
  clear hW hown
  generalize (⟨(Bt.yl ((c + 7) / 8) N).toArray⟩ : ByteArray) = s at *
  go_enter Tryz.func152, Tryz.ntmps152
  go_wp2
  go_ret
  exact ⟨rfl, rfl⟩

theorem new_writer (w : World) : WAt (w.alloc (.cells #[.slice none 0 0, .int .i64 0] 218)) w.heap.size 0 0 := by
  refine ⟨⟨.slice none 0 0, by simp, World.ownsRow_nil _ _ _ _⟩, by simp, by simp, by simp, by simp, by omega⟩
end Go.Proofs.YtjcoahahponabaaGreatDoor
namespace Go.Proofs.YtjcoahahponabaaGreatDoor
open Go.RowKit Ps

/-- A writer at block p that holds these pieces. -/
def WP (w : World) (p : Nat) (l : List Pc) : Prop := WAt w p (len l) (val l)
theorem WP.lt {w : World} {p : Nat} {l : List Pc} (h : WP w p l) : p < w.heap.size := WAt.lt h
theorem WP.row {w : World} {p : Nat} {l : List Pc} (h : WP w p l) : p ≤ rowOf w p ∧ rowOf w p < w.heap.size := WAt.row h
theorem WP.below {w w' : World} {p : Nat} {l : List Pc} (h : WP w p l) (hb : Below w.heap.size w w') : WP w' p l := WAt.below h hb
theorem WP.keep {w w' : World} {p : Nat} {l : List Pc} (h : WP w p l) (hb : Below w.heap.size w w') : Kept p w w' := Kept.of_below h hb

theorem wput_any (p : Nat) (l : List Pc) (n d : Nat) (w : World) (hW : WP w p l) (hd : d ≤ 32) (hn : n < 2 ^ d) (hc : len l + 40 ≤ 4000000) :
    Calls Tryz.prog 178 #[.pointer (some ⟨p, 0, none⟩), .int .u32 (n : Int), .int .i64 (d : Int)] w fun e w' => e = .returned .nilIface ∧ WP w' p (l ++ [(n, d)]) ∧ Kept p w w' := by
  refine (put_yes p (len l) (val l) n d w hW hd hn hc).mono ?_
  rintro e w1 ⟨rfl, hW1, hk⟩
  refine ⟨rfl, ?_, hk⟩
  show WAt _ _ _ _
  rw [len_append, val_append]
  simpa [len, val] using hW1

/-- The bytes that pieces are. -/
def textP (l : List Pc) : ByteArray := ⟨(Bt.yl ((len l + 7) / 8) (val l)).toArray⟩

theorem wtext_any (p : Nat) (l : List Pc) (w : World) (h : WP w p l) : Calls Tryz.prog 152 #[.pointer (some ⟨p, 0, none⟩)] w fun e w' => e = .returned (.string (textP l)) ∧ w' = w := text_any p _ _ w h
end Go.Proofs.YtjcoahahponabaaGreatDoor
namespace Go.Proofs.YtjcoahahponabaaGreatDoor
open Go.RowKit

set_option maxRecDepth 100000 in
/-- A call of a Go function, as one step of a statement that draws its order. -/
theorem step_calls {ops : Array Oper} {o : Oper} {a : Act} {w : World} {K : Act → World → Prop} {Q : Exit → Act → World → Prop} {E : Prop} (hgd : o.guard = none) (f : Nat) (xs : List Operand) (ts : Array TypeId)
    (ho : o.op = .call { callee := .value (.func f), args := xs.toArray, argTypes := ts }) (us : List Value) (hx : xs.map a.eval = us) (ent : ∀ args w, (callFunc f args).run Tryz.prog w = .ok (.enter f args) w)
    (h : Calls Tryz.prog f us.toArray w fun e w' => (∃ v, e = .returned v ∧ K (a.put o.dst v) w') ∨ ∃ ch, e = .panicked ch ∧ Q (.panic ch) a w') : if Region.wanted o (yielded ops a.tmps) = true then Oper.wp Tryz.prog o a w K Q else E := by
  have hw : Region.wanted o (yielded ops a.tmps) = true := by simp [Region.wanted, hgd]
  rw [if_pos hw]
  unfold Oper.wp execOp
  have e1 : a.eval (.func f) = Value.func (.func f) #[] #[] := rfl
  have e2 : ∀ ar : Array Value, ar ++ #[] = ar := fun ar => by simp
  have e3 : ∀ ar : Array Value, #[] ++ ar = ar := fun ar => by simp
  simp only [ho, resolve, invoke, Deferred.ofValue, e1, e2, e3, Sem.run_bind, Sem.run_pure, Result.andThen_ok, List.map_toArray, hx, ent]
  rw [Oper.upon_enter]
  refine h.mono ?_
  rintro e w' (⟨v, rfl, hk⟩ | ⟨ch, rfl, hq⟩)
  · exact hk
  · exact hq

end Go.Proofs.YtjcoahahponabaaGreatDoor
namespace Go.Proofs.YtjcoahahponabaaGreatDoor
open Go.RowKit

/-- A reader at block p, of a text, so many bits read. -/
structure RAt (w : World) (p : Nat) (s : ByteArray) (k : Nat) : Prop where
  text : w.cell? ⟨p, 0, none⟩ = some (.string s)
  count : w.cell? ⟨p, 1, none⟩ = some (.int .i64 (k : Int))
  free1 : w.frozen? ⟨p, 1, none⟩ = false
  within : k ≤ 8 * s.size
  small : s.size ≤ 1000000

theorem RAt.lt {w : World} {p k : Nat} {s : ByteArray} (h : RAt w p s k) : p < w.heap.size := World.block_lt_of_cell? _ _ h.count
theorem RAt.below {w w' : World} {p k : Nat} {s : ByteArray} (h : RAt w p s k) (hb : Below w.heap.size w w') : RAt w' p s k :=
  ⟨(hb.cell h.lt).trans h.text, (hb.cell h.lt).trans h.count, (hb.frozen h.lt).trans h.free1, h.within, h.small⟩
theorem RAt.drew {w : World} {p k : Nat} {s : ByteArray} (h : RAt w p s k) : RAt w.drew p s k := ⟨h.text, h.count, h.free1, h.within, h.small⟩
theorem RAt.moved {w : World} {p k : Nat} {s : ByteArray} (h : RAt w p s k) (m : Nat) (hm : m ≤ 8 * s.size) : RAt (w.setCell ⟨p, 1, none⟩ (.int .i64 (m : Int))) p s m ∧ Below p w (w.setCell ⟨p, 1, none⟩ (.int .i64 (m : Int))) := by
  refine ⟨⟨?_, World.cell?_setCell_same _ _ _ h.count, ?_, hm, h.small⟩, (Below.refl p w).setCell (p := ⟨p, 1, none⟩) (Nat.le_refl p) _⟩
  · rw [World.cell?_setCell_other _ _ _ _ (by intro e; injection e with _ e2; omega)]; exact h.text
  · rw [World.frozen?_setCell]; exact h.free1

/-- A text as a number. -/
def tv (s : ByteArray) : Nat := Crc.num s.data.toList

theorem newReader_any (s : ByteArray) (w : World) (hs : s.size ≤ 1000000) :
    Calls Tryz.prog 179 #[.string s] w fun e w' => e = .returned (.pointer (some ⟨w.heap.size, 0, none⟩)) ∧ RAt w' w.heap.size s 0 ∧ Below w.heap.size w w' := by
  go_enter Tryz.func179, Tryz.ntmps179
  go_wp2
  go_ret
  exact ⟨rfl, ⟨by simp, by simp, by simp, by omega, hs⟩, (Below.refl _ _).alloc (Nat.le_refl _) _⟩

theorem at_any (p k : Nat) (s : ByteArray) (w : World) (h : RAt w p s k) :
    Calls Tryz.prog 182 #[.pointer (some ⟨p, 0, none⟩)] w fun e w' => e = .returned (.int .i64 (k : Int)) ∧ w' = w := by
  have h1 := h.count
  clear h
  go_enter Tryz.func182, Tryz.ntmps182
  go_wp2
  go_ret
  exact ⟨rfl, rfl⟩

theorem left_any (p k lf : Nat) (s : ByteArray) (w : World) (h : RAt w p s k) (hlf : lf + k = 8 * s.size) :
    Calls Tryz.prog 186 #[.pointer (some ⟨p, 0, none⟩)] w fun e w' => e = .returned (.int .i64 (lf : Int)) ∧ Below w.heap.size w w' := by
  have h0 := h.text
  have h1 := h.count
  have h2 := h.within
  have h3 := h.small
  have Hlf := hide hlf
  clear h hlf
  go_enter Tryz.func186, Tryz.ntmps186
  go_wp2
  go_region
  go_wp2
  go_ret
  exact ⟨ret_int (by have := unhide Hlf; omega), (Below.refl _ _).drew⟩

theorem one_bit (s : ByteArray) (q r : Nat) (hq : q < s.size) (hr : r < 8) : s[q].toNat / 2 ^ r % 2 = Bt.bit (tv s) (8 * q + r) := by
  unfold tv
  rw [Bt.bit_num s.data.toList q r (by simpa using hq) hr]
  rfl

theorem rone_any (p k : Nat) (s : ByteArray) (w : World) (h : RAt w p s k) (hk : k < 8 * s.size) :
    Calls Tryz.prog 187 #[.pointer (some ⟨p, 0, none⟩)] w fun e w' => e = .returned (.int .u32 (Bt.bit (tv s) k : Nat)) ∧ RAt w' p s (k + 1) ∧ Below p w w' := by
  have h0 := h.text
  have h1 := h.count
  have h2 := h.within
  have h3 := h.small
  have h4 := h.free1
  have hm := hide (h.moved (k + 1) (by omega))
  clear h
  obtain ⟨q, hq⟩ : ∃ q, q = k / 8 := ⟨_, rfl⟩
  have hq1 : (k : Int) / 8 = (q : Int) := by omega
  obtain ⟨r, hr⟩ : ∃ r, r = k % 8 := ⟨_, rfl⟩
  have hr1 : (k : Int) % 8 = (r : Int) := by omega
  have hqs : q < s.size := by omega
  have hqi : (q : Int) < (s.size : Int) := by omega
  have hrl : r < 8 := by omega
  have Hbit := hide (one_bit s q r hqs hrl)
  rw [show 8 * q + r = k from by omega] at Hbit
  have hx := s[q].toNat_lt
  have hsh : (s[q].toNat : Int) / 2 ^ r = ((s[q].toNat / 2 ^ r : Nat) : Int) := by simp
  have hyl : s[q].toNat / 2 ^ r < 256 := Nat.lt_of_le_of_lt (Nat.div_le_self _ _) hx
  generalize s[q].toNat / 2 ^ r = y at *
  have hand : bits .and .u8 (y : Int) 1 = ((y % 2 : Nat) : Int) := by
    have := u8_and_nat y 1 hyl (by omega)
    rw [nat_mask1] at this
    exact this
  obtain ⟨z, hz⟩ : ∃ z, z = y % 2 := ⟨_, rfl⟩
  rw [← hz] at hand Hbit
  have hzl : z < 2 := by omega
  clear hq hr hz
  go_enter Tryz.func187, Tryz.ntmps187
  go_wp2
  go_region
  go_wp2
  go_ret
  rw [← unhide Hbit]
  exact ⟨rfl, (unhide hm).1.drew, (unhide hm).2.drew⟩
end Go.Proofs.YtjcoahahponabaaGreatDoor
namespace Go.Proofs.YtjcoahahponabaaGreatDoor
open Ps

/-- The bytes of pieces, read, are the pieces; whatever stands behind. -/
theorem tv_textP {l : List Pc} (h : Fit l) : tv (textP l) = val l := by
  unfold tv textP
  rw [show (⟨(Bt.yl ((len l + 7) / 8) (val l)).toArray⟩ : ByteArray).data.toList = Bt.yl ((len l + 7) / 8) (val l) by simp, Bt.num_yl]
  refine Nat.mod_eq_of_lt (Nat.lt_of_lt_of_le (val_lt h) ?_)
  rw [Bt.pow256]
  exact Nat.pow_le_pow_right (by omega) (by omega)
theorem textP_size (l : List Pc) : (textP l).size = (len l + 7) / 8 := by
  show (Bt.yl ((len l + 7) / 8) (val l)).toArray.size = _
  simp [Bt.yl_length]
theorem at_text {l : List Pc} (h : Fit l) (more : ByteArray) : At (tv (textP l ++ more)) (8 * (textP l ++ more).size) 0 l := by
  have e : tv (textP l ++ more) = val l + 2 ^ len l * (2 ^ (8 * (textP l).size - len l) * tv more) := by
    unfold tv
    rw [ByteArray.data_append, Array.toList_append, Bt.num_append]
    have h1 : Crc.num (textP l).data.toList = val l := tv_textP h
    have h2 : (textP l).data.toList.length = (textP l).size := Array.length_toList
    rw [h1, h2, ← Nat.mul_assoc, ← Nat.pow_add]
    have := textP_size l
    rw [show len l + (8 * (textP l).size - len l) = 8 * (textP l).size by omega]
  rw [e]
  have := textP_size l
  have hs : 8 * (textP l ++ more).size = len l + (8 * (textP l ++ more).size - len l) := by
    rw [ByteArray.size_append]; omega
  rw [hs]
  exact at_front h

end Go.Proofs.YtjcoahahponabaaGreatDoor
namespace Go.Proofs.YtjcoahahponabaaGreatDoor
open Go.RowKit Ps

theorem WAt.kc {w w' : World} {p c N : Nat} (h : WAt w p c N) (hk : KC p 2 w w') : WAt w' p c N := by
  obtain ⟨⟨v, hv, hown⟩, hcnt, f0, f1, hfit, hsm⟩ := h
  refine ⟨⟨v, (hk.cell 0 (by omega) (by omega)).trans hv, hown.kept (row := some p) hk.grown ?_⟩, (hk.cell 1 (by omega) (by omega)).trans hcnt, (hk.frozen 0).trans f0, (hk.frozen 1).trans f1, hfit, hsm⟩
  cases hq : v.ownBlock with
  | none => exact .inl rfl
  | some k => exact .inr (fun e => by have := (hown.lt k hq).1; injection e with e1; omega)
theorem WP.kc {w w' : World} {p : Nat} {l : List Pc} (h : WP w p l) (hk : KC p 2 w w') : WP w' p l := WAt.kc h hk
theorem CD.kept {w w' : World} {p W S N : Nat} (h : CD w p 2 W S N) (hk : Kept p w w') : CD w' p 2 W S N :=
  h.same (fun j hj => (hk.rest j hj).1) (fun j hj => (hk.rest j hj).2)

set_option maxRecDepth 100000 in
theorem tell_any (p : Nat) (l : List Pc) (c d : Nat) (w : World) (hW : WP w p l) (hS : w.cell? ⟨p, 3, none⟩ = some (.int .i64 (d : Int))) (hd : d ≤ 12) (hn : c < 2 ^ d) (hc : len l + 40 ≤ 4000000) :
    Calls Tryz.prog 167 #[.pointer (some ⟨p, 0, none⟩), .int .i64 (c : Int)] w fun e w' => e = .returned (.tuple #[]) ∧ WP w' p (l ++ [(c, d)]) ∧ Kept p w w' := by
  have hn12 : c < 4096 := Nat.lt_of_lt_of_le hn (Nat.pow_le_pow_right (n := 2) (j := 12) (by omega) hd)
  have HP : Hid (Calls Tryz.prog 178 #[.pointer (some ⟨p, 0, none⟩), .int .u32 (c : Int), .int .i64 (d : Int)] w.drew fun e w' => e = .returned .nilIface ∧ WP w' p (l ++ [(c, d)]) ∧ Kept p w.drew w') := wput_any p l c d w.drew (hW.below (Below.refl _ _).drew) (by omega) hn hc
  have hc32 : (c : Int) % 4294967296 = (c : Int) := by omega
  have hcw : IntKind.u32.wrap (c : Int) = (c : Int) := by rw [IntKind.wrap_u32]; omega
  have HK := hide (hW.keep (Below.refl _ _).drew)
  have HR : Hid (∀ w', Kept p w.drew w' → w'.cell? ⟨p, 3, none⟩ = some (.int .i64 (d : Int))) := fun w' hk => ((hk.rest 3 (by omega)).1).trans hS
  have entT : ∀ args w, (callFunc 178 args).run Tryz.prog w = .ok (.enter 178 args) w := enters_of Tryz.func178 (by kernel_rfl) rfl
  have hSd : w.drew.cell? ⟨p, 3, none⟩ = some (.int .i64 (d : Int)) := hS
  have HSd := hide hSd
  clear hW hn hc hS hSd
  go_enter Tryz.func167, Tryz.ntmps167
  go_wp2_with fail
  refine wp_region_held_drew (S := fun w' => w'.cell? ⟨p, 3, none⟩ = some (.int .i64 (d : Int))) (by kernel_rfl) (unhide HSd) (fun hHeld => ?_)
  refine wpAnyH_take (i := 0) (v := .pointer (some ⟨p, 0, none⟩)) rfl (by kernel_rfl) (by kernel_rfl) (by kernel_rfl) (fun _ _ _ h => h) (Or.inl ⟨by rfl, ?_⟩) hHeld ?_
  · intro w' hSw
    go_simp
  simp only [Act.put, List.setIfInBounds_toArray]
  refine wpAnyH_take (i := 1) (v := .pointer (some ⟨p, 0, none⟩)) rfl (by kernel_rfl) (by kernel_rfl) (by kernel_rfl) (fun _ _ _ h => h) (Or.inl ⟨by rfl, ?_⟩) hHeld ?_
  · intro w' hSw
    go_simp
  simp only [Act.put]
  refine wpAnyH_take (i := 2) (v := .pointer (some ⟨p, 0, none⟩)) rfl (by kernel_rfl) (by kernel_rfl) (by kernel_rfl) (fun _ _ _ h => h) (Or.inl ⟨by rfl, ?_⟩) hHeld ?_
  · intro w' hSw
    go_simp
  simp only [Act.put]
  refine wpAnyH_take (i := 3) (v := .int .i64 (c : Int)) rfl (by kernel_rfl) (by kernel_rfl) (by kernel_rfl) (fun _ _ _ h => h) (Or.inl ⟨by rfl, ?_⟩) hHeld ?_
  · intro w' hSw
    go_simp
  simp only [Act.put]
  refine wpAnyH_take (i := 4) (v := .int .u32 (c : Int)) rfl (by kernel_rfl) (by kernel_rfl) (by kernel_rfl) (fun _ _ _ h => h) (Or.inl ⟨by rfl, ?_⟩) hHeld ?_
  · intro w' hSw
    go_simp
  simp only [Act.put]
  refine wpAnyH_take (i := 5) (v := .pointer (some ⟨p, 0, none⟩)) rfl (by kernel_rfl) (by kernel_rfl) (by kernel_rfl) (fun _ _ _ h => h) (Or.inl ⟨by rfl, ?_⟩) hHeld ?_
  · intro w' hSw
    go_simp
  simp only [Act.put]
  refine wpAnyH_take (i := 6) (v := .pointer (some ⟨p, 0, none⟩)) rfl (by kernel_rfl) (by kernel_rfl) (by kernel_rfl) (fun _ _ _ h => h) (Or.inl ⟨by rfl, ?_⟩) hHeld ?_
  · intro w' hSw
    go_simp
  simp only [Act.put]
  refine wpAnyH_take (i := 7) (v := .pointer (some ⟨p, 2, none⟩)) rfl (by kernel_rfl) (by kernel_rfl) (by kernel_rfl) (fun _ _ _ h => h) (Or.inl ⟨by rfl, ?_⟩) hHeld ?_
  · intro w' hSw
    go_simp
  simp only [Act.put]
  refine wpAnyH_take (i := 8) (v := .pointer (some ⟨p, 3, none⟩)) rfl (by kernel_rfl) (by kernel_rfl) (by kernel_rfl) (fun _ _ _ h => h) (Or.inl ⟨by rfl, ?_⟩) hHeld ?_
  · intro w' hSw
    go_simp
  simp only [Act.put]
  refine wpAnyH_take (i := 9) (v := .int .i64 (d : Int)) rfl (by kernel_rfl) (by kernel_rfl) (by kernel_rfl) (fun _ _ _ h => h) (Or.inl ⟨by rfl, ?_⟩) hHeld ?_
  · intro w' hSw
    go_simp
  simp only [Act.put]
  refine wpAnyH_ready (rs := [10]) (by kernel_rfl) (by simp) ?_
  refine AllReadyH.cons rfl (fun K hK => ?_) AllReadyH.nil
  refine step_calls rfl 178 [.tmp 6, .tmp 8, .tmp 13] #[218, 146, 3] rfl [.pointer (some ⟨p, 0, none⟩), .int .u32 (c : Int), .int .i64 (d : Int)] (by simp [Act.eval]) entT ?_
  refine (unhide HP).mono ?_
  rintro e w2 ⟨rfl, hW2, hk2⟩
  refine .inl ⟨_, rfl, ?_⟩
  have HW2 := hide hW2
  have hkw := (unhide HK).trans hk2
  refine hK.out _ _ (unhide HR w2 hk2) (fun hHeld => ?_)
  clear hK K HP hW2 HR
  simp only [Act.put]
  refine wpAnyH_done (by kernel_rfl) ?_ _
  go_wp2
  go_end0
  exact ⟨rfl, unhide HW2, hkw⟩

/-- The world behind a new packer. -/
def newPk (w : World) (W : Nat) : World := (w.alloc (.map #[] 0)).alloc (.cells #[.slice none 0 0, .int .i64 0, .int .i64 (W : Int), .int .i64 0, .int .i64 0, .map (some w.heap.size)] 223)

theorem newPk_is (w : World) (W : Nat) : WP (newPk w W) (w.heap.size + 1) [] ∧ CD (newPk w W) (w.heap.size + 1) 2 W 0 0 ∧ (newPk w W).cell? ⟨w.heap.size + 1, 5, none⟩ = some (.map (some w.heap.size)) ∧ Below w.heap.size w (newPk w W) := by
  have hs : (w.alloc (.map #[] 0)).heap.size = w.heap.size + 1 := by simp
  have hb : Below w.heap.size w (newPk w W) := ((Below.refl w.heap.size w).alloc (Nat.le_refl _) _).alloc (by simp) _
  unfold newPk at *
  generalize hw1 : w.alloc (.map #[] 0) = w1 at *
  rw [← hs]
  generalize w.heap.size = q at *
  exact ⟨⟨⟨.slice none 0 0, by simp, World.ownsRow_nil _ _ _ _⟩, by simp [len], by simp, by simp, by simp [len, val], by simp [len]⟩, ⟨by simp, by simp, by simp, by simp, by simp⟩, by simp, hb⟩

theorem newPacker_any (W : Nat) (w : World) (_h : W ≤ 8) :
    Calls Tryz.prog 150 #[.int .i64 (W : Int)] w fun e w' => e = .returned (.pointer (some ⟨w.heap.size + 1, 0, none⟩)) ∧ w' = newPk w W := by
  have hmm := @run_makeMap Tryz.prog
  go_enter Tryz.func150, Tryz.ntmps150
  go_wp2
  go_ret
  exact ⟨rfl, rfl⟩

theorem pow_two (W : Nat) (h : 2 ≤ W) (h8 : W ≤ 8) : 4 ≤ 2 ^ W ∧ 2 ^ W ≤ 256 ∧ 2 ^ (W + 1) = 2 ^ W + 2 ^ W := by
  have h1 : 2 ^ 2 ≤ 2 ^ W := Nat.pow_le_pow_right (by omega) h
  have h2 : 2 ^ W ≤ 2 ^ 8 := Nat.pow_le_pow_right (by omega) h8
  refine ⟨h1, h2, ?_⟩
  rw [Nat.pow_succ]; omega

theorem pack_none (p W S N : Nat) (w : World) (hW : WP w p []) (hC : CD w p 2 W S N) (hw2 : 2 ≤ W) (hw : W ≤ 8) :
    Calls Tryz.prog 151 #[.pointer (some ⟨p, 0, none⟩), .string ⟨#[]⟩] w fun e w' => e = .returned (.tuple #[]) ∧ WP w' p [(2 ^ W, W + 1), (2 ^ W + 1, W + 1)] ∧ Below p w w' := by
  obtain ⟨h4, h256, hdb⟩ := pow_two W hw2 hw
  have HR := hide (restart_any p 2 W S N w hC (by omega))
  have HT : Hid (∀ (l : List Pc) (c : Nat) w, WP w p l → CD w p 2 W (W + 1) (2 ^ W + 2) → c < 2 ^ (W + 1) → len l ≤ 1000 → Calls Tryz.prog 167 #[.pointer (some ⟨p, 0, none⟩), .int .i64 (c : Int)] w fun e w' => e = .returned (.tuple #[]) ∧ WP w' p (l ++ [(c, W + 1)]) ∧ Kept p w w') := fun l c w h1 h2 h3 h4 => tell_any p l c (W + 1) w h1 h2.size (by omega) h3 (by omega)
  have HCL : Hid (∀ w, CD w p 2 W (W + 1) (2 ^ W + 2) → Calls Tryz.prog 168 #[.pointer (some ⟨p, 2, none⟩)] w fun e w' => e = .returned (.int .i64 ((2 ^ W : Nat) : Int)) ∧ w' = w) := fun w h => clearCode_any p 2 W (W + 1) (2 ^ W + 2) w h (by omega)
  have HEN : Hid (∀ w, CD w p 2 W (W + 1) (2 ^ W + 2) → Calls Tryz.prog 172 #[.pointer (some ⟨p, 2, none⟩)] w fun e w' => e = .returned (.int .i64 ((2 ^ W + 1 : Nat) : Int)) ∧ w' = w) := fun w h => endCode_any p 2 W (W + 1) (2 ^ W + 2) w h (by omega)
  have HW := hide hW
  clear hW hC
  generalize 2 ^ (W + 1) = Y at *
  generalize 2 ^ W = X at *
  go_enter Tryz.func151, Tryz.ntmps151
  go_wp2_with fail
  refine (unhide HR).mono ?_; rintro e w1 ⟨rfl, hC1, hk1⟩
  have HW1 := hide ((unhide HW).kc hk1)
  have HC1 := hide hC1
  have HB1 := hide hk1.below
  have HX := hide (unhide HCL w1 hC1)
  clear HR HW hk1 hC1
  go_wp2_with fail
  refine (unhide HX).mono ?_; rintro e w2 ⟨rfl, rfl⟩
  clear HX
  have HX := hide (unhide HT [] X w2 (unhide HW1) (unhide HC1) (by omega) (by simp [len]))
  go_wp2_with fail
  refine (unhide HX).mono ?_; rintro e w3 ⟨rfl, hW3, hk3⟩
  clear HX
  have HW3 := hide hW3
  have HC3 := hide ((unhide HC1).kept hk3)
  have HB3 := hide ((unhide HB1).trans (hk3.below (unhide HW1) (Nat.le_refl _)))
  have HX := hide (unhide HEN w3 (unhide HC3))
  clear hW3 hk3 HW1 HC1 HB1 HCL HEN
  go_wp2_with fail
  refine (unhide HX).mono ?_; rintro e w4 ⟨rfl, rfl⟩
  clear HX
  have HX := hide (unhide HT [(X, W + 1)] (X + 1) w4 (unhide HW3) (unhide HC3) (by omega) (by simp [len]; omega))
  go_wp2_with fail
  refine (unhide HX).mono ?_; rintro e w5 ⟨rfl, hW5, hk5⟩
  clear HX
  have HW5 := hide hW5
  have HB5 := hide ((unhide HB3).trans (hk5.below (unhide HW3) (Nat.le_refl _)))
  clear hW5 hk5
  go_wp2
  go_end0
  exact ⟨rfl, unhide HW5, unhide HB5⟩

theorem wide_yes (W : Nat) (w : World) (h2 : 2 ≤ W) (h8 : W ≤ 8) :
    Calls Tryz.prog 149 #[.int .i64 (W : Int)] w fun e w' => e = .returned (.bool true) ∧ w' = w := by
  have g1 : decide ((2 : Int) ≤ (W : Int)) = true := by simp; omega
  have g2 : decide ((W : Int) ≤ 8) = true := by simp; omega
  go_enter Tryz.func149, Tryz.ntmps149
  go_wp2
  go_ret
  exact ⟨rfl, rfl⟩
theorem wide_no (n : Int) (w : World) (h : n < 2 ∨ 8 < n) :
    Calls Tryz.prog 149 #[.int .i64 n] w fun e w' => e = .returned (.bool false) ∧ w' = w := by
  rcases h with h | h
  · have g1 : decide ((2 : Int) ≤ n) = false := by simp; omega
    go_enter Tryz.func149, Tryz.ntmps149
    go_wp2
    go_ret
    exact ⟨rfl, rfl⟩
  · have g1 : decide ((2 : Int) ≤ n) = true := by simp; omega
    have g2 : decide (n ≤ 8) = false := by simp; omega
    go_enter Tryz.func149, Tryz.ntmps149
    go_wp2
    go_ret
    exact ⟨rfl, rfl⟩

theorem end_text : textP [(2 ^ 2, 2 + 1), (2 ^ 2 + 1, 2 + 1)] = ⟨#[44]⟩ := by decide +kernel

theorem pack_blank (w : World) :
    Calls Tryz.prog 123 #[.string ⟨#[]⟩, .int .i64 2] w fun e w' => e = .returned (.tuple #[.string ⟨#[44]⟩, .nilIface]) ∧ Below w.heap.size w w' := by
  have H1 : Hid (Calls Tryz.prog 149 #[.int .i64 2] w fun e w' => e = .returned (.bool true) ∧ w' = w) := wide_yes 2 w (by omega) (by omega)
  have H2 : Hid (Calls Tryz.prog 150 #[.int .i64 2] w fun e w' => e = .returned (.pointer (some ⟨w.heap.size + 1, 0, none⟩)) ∧ w' = newPk w 2) := newPacker_any 2 w (by omega)
  obtain ⟨n1, n2, _, n4⟩ := newPk_is w 2
  have H3 := hide (pack_none (w.heap.size + 1) 2 0 0 (newPk w 2) n1 n2 (by omega) (by omega))
  have HB := hide n4
  clear n1 n2 n4
  go_enter Tryz.func123, Tryz.ntmps123
  go_wp2_with fail
  refine (unhide H1).mono ?_; rintro e w1 ⟨rfl, rfl⟩
  go_wp2
  go_loopw [19] (fun i wr => i = .int .i64 0 ∧ wr = w1) (fun _ _ => 0)
  case atStart => exact ⟨rfl, rfl⟩
  case round =>
  obtain ⟨rfl, rfl⟩ := hrel
  go_wp2_with fail
  refine (unhide H2).mono ?_; rintro e w2 ⟨rfl, rfl⟩
  go_wp2_with fail
  refine (unhide H3).mono ?_; rintro e w3 ⟨rfl, hW3, hb3⟩
  have HX := hide (wtext_any _ _ _ hW3)
  rw [end_text] at HX
  have HB3 := hide ((unhide HB).trans (hb3.mono (by omega)))
  clear hW3 hb3 H1 H2 H3 HB
  go_wp2_with fail
  refine (unhide HX).mono ?_; rintro e w4 ⟨rfl, rfl⟩
  go_wp2
  go_ret2
  exact ⟨rfl, unhide HB3⟩

end Go.Proofs.YtjcoahahponabaaGreatDoor
namespace Go.Proofs.YtjcoahahponabaaGreatDoor
open Go.RowKit Go.Maps

theorem laidOutP : laidOutB Tryz.prog = true := by kernel_rfl
theorem keyedP : Keyed Tryz.prog 257 := Keyed.of_law (deep_law_laid laidOutP (m := 2) (by omega) (of_decide_eq_true (by kernel_rfl)) (by kernel_rfl) (by rw [Tryz.underlying257]))
def pairV (x y : Nat) : Value := .agg #[.int .i64 (x : Int), .int .i64 (y : Int)]
theorem cellsP : Tryz.prog.cellsOf 257 = 2 := by kernel_rfl
theorem cellsI : Tryz.prog.cellsOf 3 = 1 := by kernel_rfl
theorem keyTP : Tryz.prog.keyType 257 = true := by kernel_rfl
theorem wf64 (v : Nat) (hv : v ≤ 1000000) : (Lit.int .i64 (v : Int)).wf = true := by
  have h0 : IntKind.i64.min = -9223372036854775808 := by decide
  have h9 : IntKind.i64.max = 9223372036854775807 := by decide
  simp only [Lit.wf, h0, h9, Bool.and_eq_true, decide_eq_true_eq]
  omega
theorem keyP (x y : Nat) (hx : x ≤ 1000000) (hy : y ≤ 1000000) : ∃ kl, keyOf Tryz.prog 257 (pairV x y) = some kl := by
  have hf : (pairV x y).formed Tryz.prog 257 = true := by simp [pairV, Value.formed, Tryz.underlying257, cellsP]
  unfold keyOf
  rw [Tryz.underlying257]
  simp only [keyTP, hf, Bool.and_self, if_true]
  obtain ⟨m, hm⟩ : ∃ m, Tryz.prog.types.size = m + 1 := ⟨Tryz.prog.types.size - 1, by
    have : 0 < Tryz.prog.types.size := of_decide_eq_true (by kernel_rfl)
    omega⟩
  rw [hm]
  simp [Program.keyLits, Tryz.underlying257, Tryz.underlying3, pairV, Value.cells, cellsI, cellsP, wf64 x hx, wf64 y hy]

/-- The map at block bm tells f. -/
def LP (w : World) (bm nn : Nat) (f : Nat → Nat → Option Nat) : Prop :=
  ∃ D : DataW Unit, w.ownsMap Tryz.prog 257 (plainElem Tryz.prog 3) bm nn D ∧ ∀ x y, x ≤ 1000000 → y ≤ 1000000 → ∀ kl, keyOf Tryz.prog 257 (pairV x y) = some kl → Maps.has D kl = (f x y).isSome ∧ ∀ v, f x y = some v → D.atKey kl (.lit (.int .i64 0)) = .lit (.int .i64 (v : Nat))

theorem LP.made (w : World) : LP (w.alloc (.map #[] 0)) w.heap.size 0 (fun _ _ => none) := ⟨.map [], World.ownsMap_made _ _ _ _, fun _ _ _ _ _ _ => ⟨rfl, fun v h => by cases h⟩⟩
theorem LP.kept {w w' : World} {bm nn : Nat} {f : Nat → Nat → Option Nat} {row : Option Nat} (h : LP w bm nn f) (hg : w.grownBy w' row) (hne : some bm ≠ row) : LP w' bm nn f := by
  obtain ⟨D, h1, h2⟩ := h
  exact ⟨D, h1.kept hg hne, h2⟩
theorem LP.lt {w : World} {bm nn : Nat} {f : Nat → Nat → Option Nat} (h : LP w bm nn f) : bm < w.heap.size := by
  obtain ⟨D, h1, _⟩ := h
  exact h1.lt
theorem LP.look {w : World} {bm nn : Nat} {f : Nat → Nat → Option Nat} (h : LP w bm nn f) (x y : Nat) (hx : x ≤ 1000000) (hy : y ≤ 1000000) :
    (Instr.lookup 221 (.map (some bm)) (pairV x y) true).run Tryz.prog w = .ok (.tuple #[.int .i64 ((f x y).getD 0 : Nat), .bool (f x y).isSome]) w := by
  obtain ⟨D, h1, h2⟩ := h
  obtain ⟨kl, hk⟩ := keyP x y hx hy
  obtain ⟨v, ps, hrun, hv⟩ := h1.look_ok keyedP Tryz.underlying221 (Tryz.zeroValue3 w) (plainElem_int Tryz.underlying3 (by decide)) hk
  obtain ⟨c, rfl, hc, _⟩ := plainElem_int_inv Tryz.underlying3 hv
  obtain ⟨q1, q2⟩ := h2 x y hx hy kl hk
  have e2 := congrArg Prod.fst hc
  simp only at e2
  rw [hrun, q1]
  cases hf : f x y with
  | some v =>
    rw [q2 v hf] at e2
    simp only [DataW.lit.injEq, Lit.int.injEq, true_and] at e2
    rw [← e2]
    rfl
  | none =>
    rw [hf] at q1
    rw [atKey_of_not_has (by simpa using q1)] at e2
    simp only [DataW.lit.injEq, Lit.int.injEq, true_and] at e2
    rw [← e2]
    rfl
theorem LP.same {w w' : World} {bm nn : Nat} {f : Nat → Nat → Option Nat} (h : LP w bm nn f) (hb : w'.heap[bm]? = w.heap[bm]?) : LP w' bm nn f := by
  obtain ⟨D, ⟨es, clock, h1, F, hs, hD⟩, h2⟩ := h
  exact ⟨D, ⟨es, clock, hb.trans h1, F, hs, hD⟩, h2⟩
theorem LP.congr {w : World} {bm nn : Nat} {f g : Nat → Nat → Option Nat} (h : LP w bm nn f) (hfg : ∀ x y, f x y = g x y) : LP w bm nn g := by
  have : f = g := funext fun x => funext fun y => hfg x y
  rw [← this]; exact h
theorem LP.put {w : World} {bm nn : Nat} {f : Nat → Nat → Option Nat} (h : LP w bm nn f) (x y v : Nat) (hx : x ≤ 1000000) (hy : y ≤ 1000000) (hv : v ≤ 1000000) (hn : nn ≤ 1000000) :
    ∃ w', (Instr.mapUpdate 221 (.map (some bm)) (pairV x y) (.int .i64 (v : Int))).run Tryz.prog w = .ok () w' ∧ LP w' bm (nn + 1) (fun a b => if a = x ∧ b = y then some v else f a b) ∧ w.grownBy w' (some bm) := by
  obtain ⟨D, h1, h2⟩ := h
  obtain ⟨kl, hk⟩ := keyP x y hx hy
  obtain ⟨w', hrun, hm, hg⟩ := h1.update keyedP Tryz.underlying221 (by unfold maxLen; omega) hk (plainElem_int Tryz.underlying3 (wf64 v hv))
  refine ⟨w', hrun, ⟨_, hm, fun a b ha hb kl' hk' => ?_⟩, hg⟩
  by_cases e : a = x ∧ b = y
  · obtain ⟨rfl, rfl⟩ := e
    obtain rfl := Option.some.inj (hk.symm.trans hk')
    refine ⟨?_, fun v' h' => ?_⟩
    · rw [has_put_same h1.isMap (keyedP.key hk)]; simp
    · simp only [and_self, if_true, Option.some.injEq] at h'
      subst h'
      rw [atKey_put_same h1.isMap (keyedP.key hk)]
  · have hne : kl' ≠ kl := fun q => e (by
      subst q
      have := keyedP.inj hk' hk
      simp only [pairV, Value.agg.injEq, Array.mk.injEq, List.cons.injEq, Value.int.injEq, true_and, and_true] at this
      omega)
    obtain ⟨q1, q2⟩ := h2 a b ha hb kl' hk'
    simp only [if_neg e]
    exact ⟨by rw [has_put_other hne]; exact q1, fun v' h' => by rw [atKey_put_other hne]; exact q2 v' h'⟩
theorem LP.cleared {w : World} {bm nn : Nat} {f : Nat → Nat → Option Nat} (h : LP w bm nn f) (ty : TypeId) :
    ∃ w', (Builtin.clear_ #[221] ty #[.map (some bm)]).run Tryz.prog w = .ok (.tuple #[]) w' ∧ LP w' bm 0 (fun _ _ => none) ∧ w.grownBy w' (some bm) := by
  obtain ⟨D, ⟨es, clock, hb, _⟩, _⟩ := h
  have hlt : bm < w.heap.size := by
    rcases Nat.lt_or_ge bm w.heap.size with h' | h'
    · exact h'
    · simp [Array.getElem?_eq_none h'] at hb
  have hrun : (Builtin.clear_ #[221] ty #[.map (some bm)]).run Tryz.prog w = .ok (.tuple #[]) { w with heap := w.heap.setIfInBounds bm (.map #[] clock) } := by
    simp [Builtin.clear_, run_underlying Tryz.underlying221, MapKept.run_getObj_map hb, MapKept.run_setObj_map _ hb, Result.andThen]
  refine ⟨_, hrun, ⟨.map [], ⟨#[], clock, by simp [hlt], ⟨by simp, MapKept.stamped_empty clock, by simp⟩, Nat.le_refl _, rfl⟩, fun _ _ _ _ _ _ => ⟨rfl, fun v h => by cases h⟩⟩, ⟨rfl, rfl, rfl, by simp, fun k hk hne => ?_⟩⟩
  have : bm ≠ k := fun e => hne (by rw [e])
  simp [this]
end Go.Proofs.YtjcoahahponabaaGreatDoor
