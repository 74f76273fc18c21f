/- Walks: ofTokens at a dynamic block, Dynamic. Walks of the closed fact of three bits, and of the writer that goes on to a whole byte. Walks of the getting of bits. Walks of the reader of bits: nothing else is turned. A reader of bits goes on to a whole byte; all else is as it was. Plain facts on reading words in their order, bit by bit: how many words are shorter, and how far the word so far is behind the last one of its length. Walks of the program's tree: it is read from lengths; the next symbol. Walk of the program's tree: it is read from lengths, in new memory. -/
import Derived.Test.YtfeljhikeddodaeGreatDoorMg20
import Derived.Test.YtfeljhikeddodaeGreatDoorMg21
import Derived.Test.YtfeljhikeddodaeGreatDoorMg16
import Derived.Test.YtfeljhikeddodaeGreatDoorMg3
import Derived.Test.YtfeljhikeddodaeGreatDoorMg14
import Derived.Test.YtfeljhikeddodaeGreatDoorMg7
import Derived.RegionTactic
import Derived.ChangeAlike
import Derived.BigRegion
import Derived.OneCell
namespace Go.Proofs.YtfeljhikeddodaeGreatDoor
open Go.RowKit Ps Nf Pm Cn

theorem ofDynamic_any (ao : Option Addr) (n cap : Nat) (t : Tks) (w : World) (uT : TypeId) (uV v1 : Value) (hS : w.cell? ⟨3, 0, none⟩ = some (.iface uT uV)) (h1 : w.cell? ⟨0, 0, none⟩ = some v1) (hP : IsTokens w ao n t) (hB : Bl w) (hn : 6 ≤ w.heap.size) (hlen : n ≤ 80000)
    (hsm : ∀ i, i ≤ n → (∀ j, j < i → t.good j) → (t.out i).length ≤ 300000) :
    Calls Tryz.prog 17 #[.slice ao n cap, .func (.func 19) #[] #[]] w fun e w' =>
      (∃ ns nd nc l0 l1 l2 ss, (∀ j, j < n → t.good j) ∧ e = .returned (.tuple #[.string (textP (dynP ns nd nc l0 l1 l2 ss t n)), .nilIface]) ∧ DynOf t n ns nd nc l0 l1 l2 ss ∧ Below w.heap.size w w') ∨
      (∃ i q, Wrong w' w.heap.size t (.iface uT uV) i q n ∧ e = .returned (.tuple #[.string ⟨#[]⟩, .iface 133 (.pointer (some ⟨q, 0, none⟩))]) ∧ Below w.heap.size w w') := by
  have HE := hide (expand_any ao n cap t w uT uV hS hP (by omega) hsm)
  have HX : Hid (∀ w1, Below w.heap.size w w1 → (∀ j, j < n → t.good j) → Calls Tryz.prog 19 #[.string ⟨(t.out n).toArray⟩, .slice ao n cap] w1 fun e w' => ∃ ns nd nc l0 l1 l2 ss, e = .returned (.string (textP (dynP ns nd nc l0 l1 l2 ss t n))) ∧ DynOf t n ns nd nc l0 l1 l2 ss ∧ Below w1.heap.size w1 w') := fun w1 hb hg =>
    dynamic_any _ ao n cap t v1 (.iface uT uV) w1 (hP.below hb) (hB.below hb hn) (Nat.le_trans hn hb.size) ((hb.cell (World.block_lt_of_cell? _ _ h1)).trans h1) ((hb.cell (World.block_lt_of_cell? _ _ hS)).trans hS) (fun i hi => (hg i hi).1) (by omega)
  clear hS h1 hP hB hsm
  go_enter Tryz.func17, Tryz.ntmps17
  go_wp2_with fail
  refine (unhide HE).mono ?_
  rintro e w1 (⟨hg, rfl, hb1⟩ | ⟨i, q, hw, rfl, hb1⟩)
  · have HC := hide (unhide HX w1 hb1 hg)
    have HG := hide hg
    clear HE HX hg
    go_wp2_with fail
    refine (unhide HC).mono ?_
    rintro e w2 ⟨ns, nd, nc, l0, l1, l2, ss, rfl, hdo, hb2⟩
    have HB2 := hide (hb1.trans (hb2.mono hb1.size))
    have HDO := hide hdo
    obtain ⟨tx, htx⟩ : ∃ tx, tx = textP (dynP ns nd nc l0 l1 l2 ss t n) := ⟨_, rfl⟩
    rw [← htx]
    have HTX := hide htx
    clear HC hb1 hb2 hdo htx
    go_wp2
    go_ret2
    exact .inl ⟨ns, nd, nc, l0, l1, l2, ss, unhide HG, by rw [← unhide HTX]; rfl, unhide HDO, unhide HB2⟩
  · have HW := hide hw
    clear HE HX hw
    go_wp2
    go_ret2
    exact .inr ⟨i, q, unhide HW, rfl, hb1⟩
theorem dynamicF_any (ao : Option Addr) (n cap : Nat) (t : Tks) (w : World) (uT : TypeId) (uV v1 : Value) (hS : w.cell? ⟨3, 0, none⟩ = some (.iface uT uV)) (h1 : w.cell? ⟨0, 0, none⟩ = some v1) (hP : IsTokens w ao n t) (hB : Bl w) (hn : 6 ≤ w.heap.size) (hlen : n ≤ 80000)
    (hsm : ∀ i, i ≤ n → (∀ j, j < i → t.good j) → (t.out i).length ≤ 300000) :
    Calls Tryz.prog 7 #[.slice ao n cap] w fun e w' =>
      (∃ ns nd nc l0 l1 l2 ss, (∀ j, j < n → t.good j) ∧ e = .returned (.tuple #[.string (textP (dynP ns nd nc l0 l1 l2 ss t n)), .nilIface]) ∧ DynOf t n ns nd nc l0 l1 l2 ss ∧ Below w.heap.size w w') ∨
      (∃ i q, Wrong w' w.heap.size t (.iface uT uV) i q n ∧ e = .returned (.tuple #[.string ⟨#[]⟩, .iface 133 (.pointer (some ⟨q, 0, none⟩))]) ∧ Below w.heap.size w w') := by
  have HO := hide (ofDynamic_any ao n cap t w uT uV v1 hS h1 hP hB hn hlen hsm)
  clear hS h1 hP hB hsm
  go_enter Tryz.func7, Tryz.ntmps7
  go_wp2_with fail
  refine (unhide HO).mono ?_
  rintro e w1 (⟨ns, nd, nc, l0, l1, l2, ss, hg, rfl, hdo, hb1⟩ | ⟨i, q, hw, rfl, hb1⟩)
  · have HG := hide hg
    have HDO := hide hdo
    obtain ⟨tx, htx⟩ : ∃ tx, tx = textP (dynP ns nd nc l0 l1 l2 ss t n) := ⟨_, rfl⟩
    rw [← htx]
    have HTX := hide htx
    clear HO hg hdo htx
    go_wp2
    go_ret2
    exact .inl ⟨ns, nd, nc, l0, l1, l2, ss, unhide HG, by rw [← unhide HTX]; rfl, unhide HDO, hb1⟩
  · have HW := hide hw
    clear HO hw
    go_wp2
    go_ret2
    exact .inr ⟨i, q, unhide HW, rfl, hb1⟩
end Go.Proofs.YtfeljhikeddodaeGreatDoor
namespace Go.Proofs.YtfeljhikeddodaeGreatDoor
open Go.RowKit

theorem align_end (w : World) (p c N : Nat) (hW : WAt w p c N) (hc : c + 7 ≤ 4000000) : WAt (w.setCell ⟨p, 1, none⟩ (.int .i64 ((8 * ((c + 7) / 8) : Nat) : Int))) p (8 * ((c + 7) / 8)) N ∧
    Kept p w (w.setCell ⟨p, 1, none⟩ (.int .i64 ((8 * ((c + 7) / 8) : Nat) : Int))) := by
  obtain ⟨⟨v, hv, hown⟩, hcnt, f0, f1, hfit, hsm⟩ := hW
  have hcell : (w.setCell ⟨p, 1, none⟩ (.int .i64 ((8 * ((c + 7) / 8) : Nat) : Int))).cell? ⟨p, 0, none⟩ = w.cell? ⟨p, 0, none⟩ := World.cell?_setCell_other _ _ _ _ (by intro e; injection e with _ e2; omega)
  refine ⟨⟨⟨v, hcell.trans hv, ?_⟩, World.cell?_setCell_same _ _ _ hcnt, ?_, ?_, Bt.lt_wide hfit (by omega), by omega⟩, ⟨rfl, rfl, rfl, by simp [World.setCell], ?_, .inl (rowOf_same hcell), fun j hj => ⟨World.cell?_setCell_other _ _ _ _ (by intro e; injection e with _ e2; omega), World.frozen?_setCell _ _ _ _⟩⟩⟩
  · rw [show (8 * ((c + 7) / 8) + 7) / 8 = (c + 7) / 8 from by omega]
    exact ownsRow_setCell_below hown (by show p < p + 1; omega) _
  · rw [World.frozen?_setCell]; exact f0
  · rw [World.frozen?_setCell]; exact f1
  · intro k _ h1 _
    exact Below.heap_setCell _ _ _ _ h1
theorem align_any (p c N : Nat) (w : World) (hW : WAt w p c N) (hc : c + 7 ≤ 4000000) :
    Calls Tryz.prog 82 #[.pointer (some ⟨p, 0, none⟩)] w fun e w' => e = .returned (.tuple #[]) ∧ WAt w' p (8 * ((c + 7) / 8)) N ∧ Kept p w w' := by
  have hend := hide (align_end w p c N hW hc)
  obtain ⟨⟨v, hv, hown⟩, hcnt, f0, f1, hfit, hsm⟩ := hW
  obtain ⟨a, cap, rfl⟩ := shape_of hown
  clear hown f0
  have hm : (c + 7) / 8 ≤ 4000000 := by omega
  generalize (c + 7) / 8 = m at *
  have h8 : (m : Int) * 8 = ((8 * m : Nat) : Int) := by omega
  go_enter Tryz.func82, Tryz.ntmps82
  go_wp2
  go_end0
  exact ⟨rfl, unhide hend⟩
end Go.Proofs.YtfeljhikeddodaeGreatDoor
namespace Go.Proofs.YtfeljhikeddodaeGreatDoor
open Go.RowKit

theorem got_in (x b k : Nat) (hk : k < 32) (hb : b < 2) (hx : x < 2 ^ k) : bits .or .u32 (x : Int) ((b : Int) * 2 ^ k % 4294967296) = ((x + 2 ^ k * b : Nat) : Int) := by
  have hp : 2 ^ k ≤ 2147483648 := Nat.pow_le_pow_right (n := 2) (j := 31) (by omega) (by omega)
  have hor := Bt.or_above x b k hx
  rw [show ((2 : Int) ^ k) = ((2 ^ k : Nat) : Int) from by simp]
  generalize 2 ^ k = P at *
  have hpb : P * b ≤ 2147483648 := by
    have := Nat.mul_le_mul hp (show b ≤ 1 by omega)
    omega
  have hc : (b : Int) * (P : Int) % 4294967296 = ((P * b : Nat) : Int) := by
    rw [← Int.natCast_mul, Nat.mul_comm b P]
    omega
  rw [hc, ← hor]
  exact u32_or_nat x (P * b) (by omega) (by omega)
theorem got_lt (V a k : Nat) (h : k ≤ 32) : V / 2 ^ a % 2 ^ k < 4294967296 :=
  Nat.lt_of_lt_of_le (Nat.mod_lt _ (Nat.two_pow_pos k)) (Nat.pow_le_pow_right (n := 2) (j := 32) (by omega) h)
theorem get_text (p k d : Nat) (s : ByteArray) (v : Value) (w : World) (h : RAt w p s k) (hd : d ≤ 32) (hno : 8 * s.size < k + d) (hc : w.cell? ⟨1, 0, none⟩ = some v) :
    Calls Tryz.prog 73 #[.pointer (some ⟨p, 0, none⟩), .int .i64 (d : Int)] w fun e w' => e = .returned (.tuple #[.int .u32 0, v]) ∧ RAt w' p s k ∧ Below w.heap.size w w' := by
  have Hr := hide h
  have hw := h.within
  have hgl : 1 < w.heap.size := World.block_lt_of_cell? _ _ hc
  obtain ⟨lf, hlf⟩ : ∃ lf, lf + k = 8 * s.size := ⟨8 * s.size - k, by have := h.within; omega⟩
  have Hlf := hide hlf
  have hdl : decide (lf < d) = true := by simp; omega
  clear h hlf
  go_enter Tryz.func73, Tryz.ntmps73
  go_wp2_with fail
  refine (readable_yes d _ hd).mono ?_; rintro e w1 ⟨rfl, rfl⟩
  go_wp2_with fail
  refine (left_any p k lf s _ (unhide Hr) (unhide Hlf)).mono ?_; rintro e w2 ⟨rfl, hb2⟩
  have Hr2 := hide ((unhide Hr).below hb2)
  have hc2 := (hb2.cell (p := ⟨1, 0, none⟩) hgl).trans hc

  go_wp2
  go_region
  go_wp2
  go_ret2
  exact ⟨rfl, (unhide Hr2).drew, hb2.drew⟩
end Go.Proofs.YtfeljhikeddodaeGreatDoor
namespace Go.Proofs.YtfeljhikeddodaeGreatDoor
open Go.RowKit

theorem RAt.but {w w' : World} {p k : Nat} {s : ByteArray} {S : Nat → Prop} (h : RAt w p s k) (hb : But S w w') (hs : ¬ S p) : RAt w' p s k :=
  ⟨(hb.cell h.lt hs).trans h.text, (hb.cell h.lt hs).trans h.count, (hb.frozen h.lt hs).trans h.free1, h.within, h.small⟩
theorem rone_but (p k : Nat) (s : ByteArray) (w : World) (h : RAt w p s k) (hk : k < 8 * s.size) :
    Calls Tryz.prog 96 #[.pointer (some ⟨p, 0, none⟩)] w fun e w' => e = .returned (.int .u32 (Bt.bit (tv s) k : Nat)) ∧ RAt w' p s (k + 1) ∧ But (· = p) w w' := by
  have h0 := h.text
  have h1 := h.count
  have h2 := h.within
  have h3 := h.small
  have h4 := h.free1
  have hm := hide (h.moved (k + 1) (by omega))
  clear h
  obtain ⟨q, hq⟩ : ∃ q, q = k / 8 := ⟨_, rfl⟩
  have hq1 : (k : Int) / 8 = (q : Int) := by omega
  obtain ⟨r, hr⟩ : ∃ r, r = k % 8 := ⟨_, rfl⟩
  have hr1 : (k : Int) % 8 = (r : Int) := by omega
  have hqs : q < s.size := by omega
  have hqi : (q : Int) < (s.size : Int) := by omega
  have hrl : r < 8 := by omega
  have Hbit := hide (one_bit s q r hqs hrl)
  rw [show 8 * q + r = k from by omega] at Hbit
  have hx := s[q].toNat_lt
  have hsh : (s[q].toNat : Int) / 2 ^ r = ((s[q].toNat / 2 ^ r : Nat) : Int) := by simp
  have hyl : s[q].toNat / 2 ^ r < 256 := Nat.lt_of_le_of_lt (Nat.div_le_self _ _) hx
  generalize s[q].toNat / 2 ^ r = y at *
  have hand : bits .and .u8 (y : Int) 1 = ((y % 2 : Nat) : Int) := by
    have := u8_and_nat y 1 hyl (by omega)
    rw [nat_mask1] at this
    exact this
  obtain ⟨z, hz⟩ : ∃ z, z = y % 2 := ⟨_, rfl⟩
  rw [← hz] at hand Hbit
  have hzl : z < 2 := by omega
  clear hq hr hz
  go_enter Tryz.func96, Tryz.ntmps96
  go_wp2
  go_region
  go_wp2
  go_ret
  rw [← unhide Hbit]
  exact ⟨rfl, (unhide hm).1.drew, ((But.refl (· = p) w).setCell (p := ⟨p, 1, none⟩) rfl _).drew⟩
set_option maxHeartbeats 400000 in
theorem get_but (p k d : Nat) (s : ByteArray) (w : World) (h : RAt w p s k) (hd : d ≤ 32) (hfit : k + d ≤ 8 * s.size) :
    Calls Tryz.prog 73 #[.pointer (some ⟨p, 0, none⟩), .int .i64 (d : Int)] w fun e w' => e = .returned (.tuple #[.int .u32 (tv s / 2 ^ k % 2 ^ d : Nat), .nilIface]) ∧ RAt w' p s (k + d) ∧ But (· = p) w w' := by
  have Hr := hide h
  have hsm := h.small
  obtain ⟨lf, hlf⟩ : ∃ lf, lf + k = 8 * s.size := ⟨8 * s.size - k, by have := h.within; omega⟩
  have Hlf := hide hlf
  have hdl : decide (lf < d) = false := by simp; omega
  clear h hlf
  go_enter Tryz.func73, Tryz.ntmps73
  go_wp2_with fail
  refine (readable_yes d _ hd).mono ?_; rintro e w1 ⟨rfl, rfl⟩
  go_wp2_with fail
  refine (left_any p k lf s _ (unhide Hr) (unhide Hlf)).mono ?_; rintro e w2 ⟨rfl, hb2⟩
  have Hr2 := hide ((unhide Hr).below hb2)
  replace hb2 := (But.refl (· = p) w1).of_below hb2 (fun k h1 h2 => by omega)
  go_wp2
  go_loopw [6, 18] (fun m i wr => ∃ j : Nat, j ≤ d ∧ i = .int .i64 j ∧ m = .int .u32 (tv s / 2 ^ k % 2 ^ j : Nat) ∧ RAt wr p s (k + j) ∧ But (· = p) w1 wr) (fun _ i _ => d - (intOf i).toNat)
  case atStart => exact ⟨0, by omega, rfl, by simp [Nat.mod_one], unhide Hr2, hb2⟩
  case round =>
    obtain ⟨j, hj, rfl, rfl, hR, hb⟩ := hrel
    by_cases hlt : j < d
    · have hdk : decide ((j : Int) < (d : Int)) = true := by simp; omega
      have hxl : tv s / 2 ^ k % 2 ^ j < 2 ^ j := Nat.mod_lt _ (Nat.two_pow_pos j)
      have hin := got_in (tv s / 2 ^ k % 2 ^ j) (Bt.bit (tv s) (k + j)) j (by omega) (Bt.bit_lt _ _) hxl
      rw [← Bt.got_succ] at hin
      have hgl := got_lt (tv s) k (j + 1) (by omega)
      have hgl0 := got_lt (tv s) k j (by omega)
      have hbl := Bt.bit_lt (tv s) (k + j)
      have HR := hide hR
      have hjb : j < 32 := by omega
      clear hR hxl
      generalize hB : tv s / 2 ^ k % 2 ^ (j + 1) = y at *
      generalize hA : tv s / 2 ^ k % 2 ^ j = x at *
      have HB := hide hB
      clear hB hA
      go_wp2_with fail
      refine (rone_but p (k + j) s _ (unhide HR) (by omega)).mono ?_; rintro e w3 ⟨rfl, hR3, hb3⟩
      have HR3 := hide hR3
      clear hR3
      generalize Bt.bit (tv s) (k + j) = b at *
      go_wp2
      go_roundw
      case rel => exact ⟨j + 1, by omega, by go_num, by rw [unhide HB], unhide HR3, hb.trans hb3⟩
      case measure => simp [intOf]; omega
    · have : j = d := by omega
      subst this
      have hdk : decide ((j : Int) < (j : Int)) = false := by simp
      have HR := hide hR
      clear hR
      go_wp2
      go_ret2
      exact ⟨rfl, unhide HR, hb⟩
end Go.Proofs.YtfeljhikeddodaeGreatDoor
namespace Go.Proofs.YtfeljhikeddodaeGreatDoor
open Go.RowKit

theorem ralign_but (p k : Nat) (s : ByteArray) (w : World) (h : RAt w p s k) :
    Calls Tryz.prog 74 #[.pointer (some ⟨p, 0, none⟩)] w fun e w' => e = .returned (.tuple #[]) ∧ RAt w' p s (8 * ((k + 7) / 8)) ∧ But (· = p) w w' := by
  have h0 := h.text
  have h1 := h.count
  have h2 := h.within
  have h3 := h.small
  have h4 := h.free1
  have hm := hide (h.moved (8 * ((k + 7) / 8)) (by omega))
  clear h
  go_enter Tryz.func74, Tryz.ntmps74
  go_wp2
  go_end0
  refine ⟨rfl, ?_⟩
  have e : ((k : Int) + 8 - 1) / 8 * 8 = ((8 * ((k + 7) / 8) : Nat) : Int) := by omega
  rw [e]
  exact ⟨(unhide hm).1, (But.refl (· = p) w).setCell (p := ⟨p, 1, none⟩) rfl _⟩
end Go.Proofs.YtfeljhikeddodaeGreatDoor
namespace Go.Proofs.YtfeljhikeddodaeGreatDoor.Cd
open Pm Cn

/-- How many of these have n bits. -/
def cn (l : Nat → Nat) (sy : List Nat) (n : Nat) : Nat := sy.countP fun s => l s == n
/-- How many have from 1 to n. -/
def sh (l : Nat → Nat) (sy : List Nat) : Nat → Nat
  | 0 => 0
  | n + 1 => sh l sy n + cn l sy (n + 1)
/-- One more than the last word of at most n bits, as a number of n bits. -/
def en (l : Nat → Nat) (sy : List Nat) : Nat → Nat
  | 0 => 0
  | n + 1 => 2 * en l sy n + cn l sy (n + 1)
/-- Those of at most n bits stand ahead. -/
theorem part_split (l : Nat → Nat) (sy : List Nat) (n : Nat) (h15 : n ≤ 15) (hp : ∀ s ∈ sy, 0 < l s) : part l (sy.filter fun s => decide (l s ≤ n)) = en l sy n * 2 ^ (15 - n) ∧ (sy.filter fun s => decide (l s ≤ n)).length = sh l sy n := by
  induction n with
  | zero =>
    have e : sy.filter (fun s => decide (l s ≤ 0)) = [] := List.filter_eq_nil_iff.2 (fun s hs => by have := hp s hs; simp; omega)
    rw [e]
    simp [part, en, sh]
  | succ n ih =>
    obtain ⟨i1, i2⟩ := ih (by omega)
    have key : ∀ F : List Nat, part l (F.filter fun s => decide (l s ≤ n + 1)) = part l (F.filter fun s => decide (l s ≤ n)) + cn l F (n + 1) * 2 ^ (15 - (n + 1)) ∧
        (F.filter fun s => decide (l s ≤ n + 1)).length = (F.filter fun s => decide (l s ≤ n)).length + cn l F (n + 1) := by
      intro F
      induction F with
      | nil => simp [part, cn]
      | cons a F ih =>
        obtain ⟨j1, j2⟩ := ih
        have hc : cn l (a :: F) (n + 1) = cn l F (n + 1) + if l a = n + 1 then 1 else 0 := by
          unfold cn; rw [List.countP_cons]; simp
        rw [List.filter_cons, List.filter_cons, hc]
        by_cases e1 : l a ≤ n
        · rw [if_pos (by simp; omega), if_pos (by simp; omega), if_neg (by omega)]
          simp only [Nat.add_zero, part, List.map_cons, List.sum_cons, List.length_cons] at j1 j2 ⊢
          omega
        · by_cases e2 : l a = n + 1
          · rw [if_pos (by simp; omega), if_neg (by simp; omega), if_pos e2]
            simp only [part, List.map_cons, List.sum_cons, List.length_cons] at j1 j2 ⊢
            rw [e2, Nat.add_mul, Nat.one_mul]
            omega
          · rw [if_neg (by simp; omega), if_neg (by simp; omega), if_neg e2]
            simp only [Nat.add_zero]
            exact ⟨j1, j2⟩
    obtain ⟨k1, k2⟩ := key sy
    refine ⟨?_, by rw [k2, i2]; rfl⟩
    rw [k1, i1]
    show _ = (2 * en l sy n + cn l sy (n + 1)) * 2 ^ (15 - (n + 1))
    rw [Nat.add_mul, show 15 - n = (15 - (n + 1)) + 1 by omega, Nat.pow_succ]
    congr 1
    rw [Nat.mul_comm 2, Nat.mul_assoc, Nat.mul_comm 2]
theorem part_append (l : Nat → Nat) (a b : List Nat) : part l (a ++ b) = part l a + part l b := by unfold part; rw [List.map_append, List.sum_append]
/-- In the order: those of at most n bits are the first ones. -/
theorem filter_first (z : Nat → Int) (sy : List Nat) (h : sy.Pairwise (Ahead z)) (n : Nat) : ∃ k, k ≤ sy.length ∧ sy.filter (fun s => decide (z s ≤ (n : Int))) = sy.take k ∧ ∀ i, (hi : i < sy.length) → (i < k ↔ z sy[i] ≤ n) := by
  induction sy with
  | nil => exact ⟨0, by simp, rfl, fun i hi => by simp at hi⟩
  | cons a sy ih =>
    obtain ⟨h1, h2⟩ := List.pairwise_cons.1 h
    obtain ⟨k, hk, he, hi⟩ := ih h2
    by_cases c : z a ≤ n
    · refine ⟨k + 1, by simp; omega, by rw [List.filter_cons, if_pos (by simpa using c), he]; rfl, fun i hil => ?_⟩
      cases i with
      | zero => simp [c]
      | succ i => simpa using hi i (by simpa using hil)
    · have hall : ∀ s ∈ sy, ¬ z s ≤ n := fun s hs => by have := h1 s hs; unfold Ahead at this; omega
      refine ⟨0, by omega, by rw [List.filter_cons, if_neg (by simpa using c)]; simp; intro s hs; have := hall s hs; omega, fun i hil => ?_⟩
      cases i with
      | zero => simp; omega
      | succ i =>
        have hil2 : i < sy.length := by simpa using hil
        have := hall sy[i] (List.getElem_mem _)
        simp; omega
/-- THE READING: the word of the m-th symbol, bit by bit. -/
theorem reads (z : Nat → Int) (N : Nat) (sy : List Nat) (hp : sy.Perm (syms z N)) (h : sy.Pairwise (Ahead z)) (hz : ∀ i, i < N → 0 ≤ z i ∧ z i ≤ 15) (m : Nat) (hm : m < sy.length) (L : Nat) (hL : nat z sy[m] = L) :
    (∀ j, j < L → en (nat z) sy j ≤ code (nat z) N sy[m] / 2 ^ (L - j)) ∧ (∀ j, j < L → sh (nat z) sy j ≤ m) ∧
    2 * en (nat z) sy (L - 1) ≤ code (nat z) N sy[m] ∧ code (nat z) N sy[m] - 2 * en (nat z) sy (L - 1) < cn (nat z) sy L ∧ sh (nat z) sy (L - 1) + (code (nat z) N sy[m] - 2 * en (nat z) sy (L - 1)) = m ∧ 0 < L ∧ L ≤ 15 := by
  have hmem := (syms_mem z N _).1 (hp.subset (List.getElem_mem hm))
  have hzm := hz _ hmem.1
  have hL1 : 0 < L := by rw [← hL]; unfold nat; omega
  have hL15 : L ≤ 15 := by rw [← hL]; unfold nat; omega
  have hzL : z sy[m] = (L : Int) := by rw [← hL]; unfold nat; omega
  have hpos : ∀ s ∈ sy, 0 < nat z s := fun s hs => by have := (syms_mem z N s).1 (hp.subset hs); unfold nat; omega
  have hnn : ∀ s ∈ sy, 0 ≤ z s := fun s hs => by have := (syms_mem z N s).1 (hp.subset hs); omega
  have hacc := part_acc z N sy hp h m hm (fun i hi => (hz i hi).1)
  have hcm := code_mul (nat z) N sy[m] (hpos _ (List.getElem_mem hm))
  rw [← hacc, hL] at hcm
  have hfil : ∀ n, sy.filter (fun s => decide (nat z s ≤ n)) = sy.filter (fun s => decide (z s ≤ (n : Int))) := fun n => List.filter_congr (fun s hs => by
    have := hnn s hs
    have e : nat z s ≤ n ↔ z s ≤ (n : Int) := by unfold nat; omega
    simp [e])
  -- those of fewer bits
  have fewer : ∀ j, j < L → ∃ k, k ≤ m ∧ part (nat z) (sy.take k) = en (nat z) sy j * 2 ^ (15 - j) ∧ k = sh (nat z) sy j := fun j hj => by
    obtain ⟨k, hk, he, hi⟩ := filter_first z sy h j
    obtain ⟨p1, p2⟩ := part_split (nat z) sy j (by omega) hpos
    rw [hfil j, he] at p1 p2
    rw [List.length_take, Nat.min_eq_left hk] at p2
    refine ⟨k, ?_, p1, p2⟩
    rcases Nat.lt_or_ge m k with c | c
    · have := (hi m hm).1 c; omega
    · exact c
  have mono : ∀ k, k ≤ m → part (nat z) (sy.take k) ≤ part (nat z) (sy.take m) := fun k hk => by
    have e : sy.take m = sy.take k ++ (sy.take m).drop k := by
      conv => lhs; rw [← List.take_append_drop k (sy.take m)]
      rw [List.take_take, Nat.min_eq_left hk]
    rw [e, part_append]; omega
  refine ⟨fun j hj => ?_, fun j hj => ?_, ?_⟩
  · obtain ⟨k, hk, e1, _⟩ := fewer j hj
    have h1 := mono k hk
    rw [e1, ← hcm, show 15 - j = (L - j) + (15 - L) by omega, Nat.pow_add, ← Nat.mul_assoc] at h1
    have h2 := Nat.le_of_mul_le_mul_right h1 (Nat.two_pow_pos _)
    exact (Nat.le_div_iff_mul_le (Nat.two_pow_pos _)).2 h2
  · obtain ⟨k, hk, _, e2⟩ := fewer j hj
    omega
  · obtain ⟨k, hk, e1, e2⟩ := fewer (L - 1) (by omega)
    -- between k and m all have L bits
    obtain ⟨k2, hk2, he2, hi2⟩ := filter_first z sy h (L - 1)
    obtain ⟨q1, q2⟩ := part_split (nat z) sy (L - 1) (by omega) hpos
    rw [hfil, he2] at q1 q2
    rw [List.length_take, Nat.min_eq_left hk2] at q2
    have hkk : k = k2 := by omega
    subst hkk
    have hsame : ∀ t, k ≤ t → t ≤ m → part (nat z) (sy.take t) = part (nat z) (sy.take k) + (t - k) * 2 ^ (15 - L) := by
      intro t
      induction t with
      | zero => intro h1 _; rw [show k = 0 by omega]; simp
      | succ t ih =>
        intro h1 h2
        by_cases c : k = t + 1
        · rw [c]; simp
        · have := ih (by omega) (by omega)
          have ht : t < sy.length := by omega
          rw [List.take_succ_eq_append_getElem ht, part_append, this]
          have hzt : nat z sy[t] = L := by
            have a1 : ¬ t < k := by omega
            have a2 := (not_congr (hi2 t ht)).1 a1
            have a3 : z sy[t] ≤ z sy[m] := by
              rcases Nat.lt_or_ge t m with c | c
              · have := (List.pairwise_iff_getElem.1 h) t m ht hm c
                unfold Ahead at this; omega
              · omega
            unfold nat
            omega
          have e : part (nat z) [sy[t]] = 2 ^ (15 - L) := by simp [part, hzt]
          rw [e, show t + 1 - k = (t - k) + 1 by omega, Nat.add_mul]
          omega
    have hfin := hsame m hk (Nat.le_refl _)
    rw [e1, show 15 - (L - 1) = (15 - L) + 1 by omega, Nat.pow_succ] at hfin
    have hcode : code (nat z) N sy[m] = 2 * en (nat z) sy (L - 1) + (m - k) := by
      have : code (nat z) N sy[m] * 2 ^ (15 - L) = (2 * en (nat z) sy (L - 1) + (m - k)) * 2 ^ (15 - L) := by
        rw [hcm, hfin, Nat.add_mul]
        congr 1
        rw [Nat.mul_comm 2, Nat.mul_assoc, Nat.mul_comm 2]
      exact Nat.eq_of_mul_eq_mul_right (Nat.two_pow_pos _) this
    -- how many of L bits
    obtain ⟨k3, hk3, he3, hi3⟩ := filter_first z sy h L
    obtain ⟨r1, r2⟩ := part_split (nat z) sy L hL15 hpos
    rw [hfil, he3] at r2
    rw [List.length_take, Nat.min_eq_left hk3] at r2
    have hmk : m < k3 := (hi3 m hm).2 (by omega)
    have hsh : sh (nat z) sy L = sh (nat z) sy (L - 1) + cn (nat z) sy L := by
      obtain ⟨L', rfl⟩ : ∃ L', L = L' + 1 := ⟨L - 1, by omega⟩
      rfl
    refine ⟨by omega, by omega, by omega, hL1, hL15⟩
theorem cn_take (l : Nat → Nat) (sy : List Nat) (k n : Nat) (hk : k < sy.length) : cn l (sy.take (k + 1)) n = cn l (sy.take k) n + if l sy[k] = n then 1 else 0 := by
  unfold cn
  rw [List.take_succ_eq_append_getElem hk, List.countP_append]
  congr 1
  simp [List.countP_cons]
theorem cn_le (l : Nat → Nat) (sy : List Nat) (n : Nat) : cn l sy n ≤ sy.length := List.countP_le_length
end Go.Proofs.YtfeljhikeddodaeGreatDoor.Cd
namespace Go.Proofs.YtfeljhikeddodaeGreatDoor
open Go.RowKit Pm Cn

/-- A tree at block T, in memory below B: of each length how many words, and the symbols in their order. -/
structure TAt (w : World) (T B : Nat) (l : Nat → Nat) (sy : List Nat) : Prop where
  words : ∀ i, i < 16 → w.cell? ⟨T, i, none⟩ = some (.int .i64 (Cd.cn l sy i : Nat))
  symbols : ∃ ao c, w.cell? ⟨T, 16, none⟩ = some (.slice ao sy.length c) ∧ (0 < sy.length → ∃ g, ao = some ⟨g, 0, none⟩ ∧ g < B ∧ ∀ i, (h : i < sy.length) → w.cell? ⟨g, i, none⟩ = some (.int .i64 (sy[i] : Nat)))
  lim : T < B
theorem TAt.below {w w' : World} {T B C : Nat} {l : Nat → Nat} {sy : List Nat} (h : TAt w T B l sy) (hb : Below C w w') (hC : B ≤ C) : TAt w' T B l sy := by
  obtain ⟨ao, c, h1, h2⟩ := h.symbols
  have hl := h.lim
  refine ⟨fun i hi => (hb.cell (p := ⟨T, i, none⟩) (by show T < C; omega)).trans (h.words i hi), ⟨ao, c, (hb.cell (p := ⟨T, 16, none⟩) (by show T < C; omega)).trans h1, fun h0 => ?_⟩, hl⟩
  obtain ⟨g, e, hg, h3⟩ := h2 h0
  exact ⟨g, e, hg, fun i hi => (hb.cell (p := ⟨g, i, none⟩) (by show g < C; omega)).trans (h3 i hi)⟩
theorem read_bad (ao : Option Addr) (len cap : Nat) (z : Nat → Int) (v1 v2 : Value) (t : TypeId) (x : Value) (w : World) (hP : IsInts w ao len z) (hlen : len ≤ 100000)
    (h1 : w.cell? ⟨0, 0, none⟩ = some v1) (h2 : w.cell? ⟨3, 0, none⟩ = some v2) (he : ev v1 v2 (vc z len) = .iface t x) :
    Calls Tryz.prog 98 #[.slice ao len cap] w fun e w' => e = .returned (.tuple #[.pointer none, .iface t x]) ∧ w' = w := by
  have HV := hide (valid_any ao len cap z v1 v2 w hP hlen h1 h2)
  rw [he] at HV
  clear hP h1 h2 he
  go_enter Tryz.func98, Tryz.ntmps98
  go_wp2_with fail
  refine (unhide HV).mono ?_; rintro e w1 ⟨rfl, rfl⟩
  go_wp2
  go_ret2
  exact ⟨rfl, rfl⟩
/-- What the tree's cells hold while it is read. -/
def TCells (w : World) (T : Nat) (l : Nat → Nat) (sy : List Nat) (k : Nat) : Prop :=
  ∀ i, i < 16 → w.cell? ⟨T, i, none⟩ = some (.int .i64 (Cd.cn l (sy.take k) i : Nat)) ∧ w.frozen? ⟨T, i, none⟩ = false
end Go.Proofs.YtfeljhikeddodaeGreatDoor
namespace Go.Proofs.YtfeljhikeddodaeGreatDoor
open Go.RowKit Pm Cn

/-- A tree at block T, in memory from A on: of each length how many words, and the symbols in their order. -/
structure TB (w : World) (T A : Nat) (l : Nat → Nat) (sy : List Nat) : Prop where
  words : ∀ i, i < 16 → w.cell? ⟨T, i, none⟩ = some (.int .i64 (Cd.cn l sy i : Nat))
  symbols : ∃ ao c, w.cell? ⟨T, 16, none⟩ = some (.slice ao sy.length c) ∧ (0 < sy.length → ∃ g, ao = some ⟨g, 0, none⟩ ∧ A ≤ g ∧ ∀ i, (h : i < sy.length) → w.cell? ⟨g, i, none⟩ = some (.int .i64 (sy[i] : Nat)))
  low : A ≤ T
theorem TB.lt {w : World} {T A : Nat} {l : Nat → Nat} {sy : List Nat} (h : TB w T A l sy) : T < w.heap.size := World.block_lt_of_cell? _ _ (h.words 0 (by omega))
theorem TB.but {w w' : World} {T A : Nat} {l : Nat → Nat} {sy : List Nat} {S : Nat → Prop} (h : TB w T A l sy) (hb : But S w w') (hs : ∀ k, k < w.heap.size → S k → k < A) : TB w' T A l sy := by
  obtain ⟨ao, c, h1, h2⟩ := h.symbols
  have hl := h.low
  have ht := h.lt
  have hn : ¬ S T := fun q => by have := hs T ht q; omega
  refine ⟨fun i hi => (hb.cell (p := ⟨T, i, none⟩) ht hn).trans (h.words i hi), ⟨ao, c, (hb.cell (p := ⟨T, 16, none⟩) ht hn).trans h1, fun h0 => ?_⟩, hl⟩
  obtain ⟨g, e, hg, h3⟩ := h2 h0
  have hgl := World.block_lt_of_cell? _ _ (h3 0 h0)
  exact ⟨g, e, hg, fun i hi => (hb.cell (p := ⟨g, i, none⟩) hgl (fun q => by have := hs g hgl q; omega)).trans (h3 i hi)⟩
theorem TB.below {w w' : World} {T A : Nat} {l : Nat → Nat} {sy : List Nat} (h : TB w T A l sy) (hb : Below w.heap.size w w') : TB w' T A l sy :=
  h.but (S := fun _ => False) ((But.refl _ _).of_below hb (fun k h1 h2 => by omega)) (fun _ _ q => q.elim)
/-- A tree at block T, its symbols at block G. -/
structure Tr (w : World) (T G : Nat) (l : Nat → Nat) (sy : List Nat) : Prop where
  words : ∀ i, i < 16 → w.cell? ⟨T, i, none⟩ = some (.int .i64 (Cd.cn l sy i : Nat))
  symbols : ∃ ao c, w.cell? ⟨T, 16, none⟩ = some (.slice ao sy.length c) ∧ (0 < sy.length → ao = some ⟨G, 0, none⟩ ∧ ∀ i, (h : i < sy.length) → w.cell? ⟨G, i, none⟩ = some (.int .i64 (sy[i] : Nat)))
  ltT : T < w.heap.size
  ltG : G < w.heap.size
theorem TB.tr {w : World} {T A : Nat} {l : Nat → Nat} {sy : List Nat} (h : TB w T A l sy) : ∃ G, Tr w T G l sy ∧ A ≤ G ∧ A ≤ T := by
  obtain ⟨ao, c, h1, h2⟩ := h.symbols
  by_cases h0 : 0 < sy.length
  · obtain ⟨g, e, hg, h3⟩ := h2 h0
    exact ⟨g, ⟨h.words, ⟨ao, c, h1, fun _ => ⟨e, h3⟩⟩, h.lt, World.block_lt_of_cell? _ _ (h3 0 h0)⟩, hg, h.low⟩
  · exact ⟨T, ⟨h.words, ⟨ao, c, h1, fun q => absurd q h0⟩, h.lt, h.lt⟩, h.low, h.low⟩
theorem Tr.but {w w' : World} {T G : Nat} {l : Nat → Nat} {sy : List Nat} {S : Nat → Prop} (h : Tr w T G l sy) (hb : But S w w') (hT : ¬ S T) (hG : ¬ S G) : Tr w' T G l sy := by
  obtain ⟨ao, c, h1, h2⟩ := h.symbols
  have hs := hb.size
  have h3 := h.ltT
  have h4 := h.ltG
  refine ⟨fun i hi => (hb.cell (p := ⟨T, i, none⟩) h3 hT).trans (h.words i hi), ⟨ao, c, (hb.cell (p := ⟨T, 16, none⟩) h3 hT).trans h1, fun h0 => ?_⟩, by omega, by omega⟩
  obtain ⟨e, h5⟩ := h2 h0
  exact ⟨e, fun i hi => (hb.cell (p := ⟨G, i, none⟩) h4 hG).trans (h5 i hi)⟩
set_option maxHeartbeats 2000000 in
set_option maxRecDepth 100000 in
theorem read_new (ao : Option Addr) (len cap : Nat) (z : Nat → Int) (v1 v2 : Value) (w : World) (hP : IsInts w ao len z) (hlen : len ≤ 300)
    (h1 : w.cell? ⟨0, 0, none⟩ = some v1) (h2 : w.cell? ⟨3, 0, none⟩ = some v2) (hnb : ¬ Bad z len) (hr : Right (nat z) len) :
    Calls Tryz.prog 98 #[.slice ao len cap] w fun e w' => ∃ T sy, e = .returned (.tuple #[.pointer (some ⟨T, 0, none⟩), .nilIface]) ∧ TB w' T w.heap.size (nat z) sy ∧ sy.Perm (syms z len) ∧ sy.Pairwise (Ahead z) ∧ Below w.heap.size w w' := by
  have hz : ∀ i, i < len → 0 ≤ z i ∧ z i ≤ 15 := fun i hi => by
    rcases Int.lt_or_le (z i) 0 with h | h
    · exact absurd (.inr ⟨i, hi, .inl h⟩) hnb
    rcases Int.lt_or_le 15 (z i) with h' | h'
    · exact absurd (.inr ⟨i, hi, .inr h'⟩) hnb
    · exact ⟨h, h'⟩
  have HV := hide (valid_any ao len cap z v1 v2 w hP (by omega) h1 h2)
  rw [vc_right hnb hr, show ev v1 v2 0 = .nilIface from rfl] at HV
  have HB := hide (byWord_any ao len cap z w hP (by omega))
  have HP := hide hP
  have HZ := hide hz
  clear hP hz hnb hr h1 h2
  go_enter Tryz.func98, Tryz.ntmps98
  go_wp2_with fail
  refine (unhide HV).mono ?_; rintro e w1 ⟨rfl, rfl⟩
  go_wp2_with fail
  refine (unhide HB).mono ?_; rintro e w2 ⟨v, sy, rfl, hsy, hpm, hso, hb⟩
  have hsl : sy.length ≤ len := by rw [hpm.length_eq]; exact syms_length z len
  have hmem : ∀ i, (h : i < sy.length) → sy[i] < len ∧ 0 < z sy[i] := fun i h => (syms_mem z len _).1 (hpm.subset (List.getElem_mem h))
  obtain ⟨a0, c0, rfl, hg0⟩ := own_shape hsy
  have Hsy := hide hsy
  have Hmem := hide hmem
  have Hg0 := hide hg0
  have Hpm := hide hpm
  have Hso := hide hso
  have hlt0 := hsy.lt
  have hs2 : w1.heap.size ≤ w2.heap.size := hb.size
  have HT0 : Hid (TCells (w2.alloc (.cells #[.int .i64 0, .int .i64 0, .int .i64 0, .int .i64 0, .int .i64 0, .int .i64 0, .int .i64 0, .int .i64 0, .int .i64 0, .int .i64 0, .int .i64 0, .int .i64 0, .int .i64 0, .int .i64 0, .int .i64 0, .int .i64 0, .slice a0 sy.length c0] 163)) w2.heap.size (nat z) sy 0) := fun i hi => by
    have e : Cd.cn (nat z) (sy.take 0) i = 0 := by simp [Cd.cn]
    rw [e]
    rcases (show i = 0 ∨ i = 1 ∨ i = 2 ∨ i = 3 ∨ i = 4 ∨ i = 5 ∨ i = 6 ∨ i = 7 ∨ i = 8 ∨ i = 9 ∨ i = 10 ∨ i = 11 ∨ i = 12 ∨ i = 13 ∨ i = 14 ∨ i = 15 by omega) with rfl | rfl | rfl | rfl | rfl | rfl | rfl | rfl | rfl | rfl | rfl | rfl | rfl | rfl | rfl | rfl <;> exact ⟨by simp, by simp⟩
  have h16 : (w2.alloc (.cells #[.int .i64 0, .int .i64 0, .int .i64 0, .int .i64 0, .int .i64 0, .int .i64 0, .int .i64 0, .int .i64 0, .int .i64 0, .int .i64 0, .int .i64 0, .int .i64 0, .int .i64 0, .int .i64 0, .int .i64 0, .int .i64 0, .slice a0 sy.length c0] 163)).cell? ⟨w2.heap.size, 16, none⟩ = some (.slice a0 sy.length c0) := by simp
  have Ho3 := hide (hsy.alloc (.cells #[.int .i64 0, .int .i64 0, .int .i64 0, .int .i64 0, .int .i64 0, .int .i64 0, .int .i64 0, .int .i64 0, .int .i64 0, .int .i64 0, .int .i64 0, .int .i64 0, .int .i64 0, .int .i64 0, .int .i64 0, .int .i64 0, .slice a0 sy.length c0] 163))
  have hb3 : Below w1.heap.size w1 (w2.alloc (.cells #[.int .i64 0, .int .i64 0, .int .i64 0, .int .i64 0, .int .i64 0, .int .i64 0, .int .i64 0, .int .i64 0, .int .i64 0, .int .i64 0, .int .i64 0, .int .i64 0, .int .i64 0, .int .i64 0, .int .i64 0, .int .i64 0, .slice a0 sy.length c0] 163)) := hb.alloc hs2 _
  have hs3 : w2.heap.size < (w2.alloc (.cells #[.int .i64 0, .int .i64 0, .int .i64 0, .int .i64 0, .int .i64 0, .int .i64 0, .int .i64 0, .int .i64 0, .int .i64 0, .int .i64 0, .int .i64 0, .int .i64 0, .int .i64 0, .int .i64 0, .int .i64 0, .int .i64 0, .slice a0 sy.length c0] 163)).heap.size := by simp
  have H16 := hide h16
  clear HB HV hsy hpm hso hmem hg0 Hsy hb h16
  go_wp2
  generalize w2.alloc (.cells #[.int .i64 0, .int .i64 0, .int .i64 0, .int .i64 0, .int .i64 0, .int .i64 0, .int .i64 0, .int .i64 0, .int .i64 0, .int .i64 0, .int .i64 0, .int .i64 0, .int .i64 0, .int .i64 0, .int .i64 0, .int .i64 0, .slice a0 sy.length c0] 163) = w3 at *
  generalize w2.heap.size = T at *
  clear w2
  go_loopw [22] (fun i wr => ∃ k : Nat, k ≤ sy.length ∧ i = .int .i64 k ∧ Hid (TCells wr T (nat z) sy k) ∧ Hid (wr.cell? ⟨T, 16, none⟩ = some (.slice a0 sy.length c0)) ∧ Hid (wr.ownsRow w1.heap.size 3 1 (.slice a0 sy.length c0) sy.length (natVals sy)) ∧ T < wr.heap.size ∧ Below w1.heap.size w1 wr) (fun i _ => sy.length - (intOf i).toNat)
  case atStart => exact ⟨0, by omega, rfl, HT0, H16, Ho3, hs3, hb3⟩
  case round =>
    clear HT0 H16 Ho3 hs3 hb3
    obtain ⟨k, hk, rfl, HT, H16, Ho, hsr, hbr⟩ := hrel
    by_cases hlt : k < sy.length
    · have hdk : decide ((k : Int) < (sy.length : Int)) = true := by simp; omega
      have hdk2 : (k : Int) < (sy.length : Int) := by omega
      obtain ⟨g, rfl, hgb⟩ := unhide Hg0 (by omega)
      have hcell := own_cell (unhide Ho) k hlt
      obtain ⟨s, hs⟩ : ∃ s, s = sy[k] := ⟨_, rfl⟩
      have hsm := unhide Hmem k hlt
      have hcn := fun n => Cd.cn_take (nat z) sy k n hlt
      rw [← hs] at hcell hsm hcn
      rcases unhide HP with h0 | ⟨b, off, rfl, hml, hI⟩
      · omega
      have hc := (hI s hsm.1).1
      have hbl := World.block_lt_of_cell? _ _ hc
      rw [← hbr.cell hbl] at hc
      have hzs := unhide HZ s hsm.1
      obtain ⟨L, hL⟩ := Int.eq_ofNat_of_zero_le hzs.1
      have hnat : nat z s = L := by unfold nat; rw [hL]; rfl
      rw [hnat] at hcn
      rw [hL] at hc hzs hsm
      have hL16 : (L : Int) < 16 := by omega
      obtain ⟨cT, fT⟩ := unhide HT L (by omega)
      have hnle := Cd.cn_le (nat z) (sy.take k) L
      have hne : g ≠ T := by have := (hlt0 g rfl).2; omega
      obtain ⟨n, hn⟩ : ∃ n, n = Cd.cn (nat z) (sy.take k) L := ⟨_, rfl⟩
      rw [← hn] at cT hnle
      have hn300 : n ≤ 300 := by have := List.length_take_le k sy; omega
      have HT2 : Hid (TCells (wr.setCell ⟨T, L, none⟩ (.int .i64 ((n : Int) + 1))).drew T (nat z) sy (k + 1)) := fun i hi => by
        show (wr.setCell ⟨T, L, none⟩ (.int .i64 ((n : Int) + 1))).cell? _ = _ ∧ (wr.setCell ⟨T, L, none⟩ (.int .i64 ((n : Int) + 1))).frozen? _ = _
        obtain ⟨q1, q2⟩ := unhide HT i hi
        refine ⟨?_, by rw [World.frozen?_setCell]; exact q2⟩
        rw [hcn]
        by_cases e : L = i
        · subst e
          rw [if_pos rfl, ← hn, World.cell?_setCell_same _ _ _ cT]; go_num
        · rw [if_neg e, World.cell?_setCell_other _ _ _ _ (by intro e'; simp only [Addr.mk.injEq] at e'; omega)]; exact q1
      have H162 : Hid ((wr.setCell ⟨T, L, none⟩ (.int .i64 ((n : Int) + 1))).drew.cell? ⟨T, 16, none⟩ = some (.slice (some ⟨g, 0, none⟩) sy.length c0)) := by
        show (wr.setCell ⟨T, L, none⟩ (.int .i64 ((n : Int) + 1))).cell? _ = _
        rw [World.cell?_setCell_other _ _ _ _ (by intro e'; simp only [Addr.mk.injEq] at e'; omega)]; exact unhide H16
      have Ho2 : Hid ((wr.setCell ⟨T, L, none⟩ (.int .i64 ((n : Int) + 1))).drew.ownsRow w1.heap.size 3 1 (.slice (some ⟨g, 0, none⟩) sy.length c0) sy.length (natVals sy)) :=
        (ownsRow_setCell_other (unhide Ho) (a := ⟨T, L, none⟩) (by simp [Value.ownBlock]; exact hne) _).drew
      have hb2 : Below w1.heap.size w1 (wr.setCell ⟨T, L, none⟩ (.int .i64 ((n : Int) + 1))).drew := (hbr.setCell (p := ⟨T, L, none⟩) hs2 _).drew
      have hsr2 : T < (wr.setCell ⟨T, L, none⟩ (.int .i64 ((n : Int) + 1))).drew.heap.size := by
        show T < (wr.setCell ⟨T, L, none⟩ (.int .i64 ((n : Int) + 1))).heap.size
        simpa using hsr
      have hsl2 : (s : Int) < (len : Int) := by omega
      clear hn hcn hnat hL hs hzs HT Ho H16
      go_wp2_with fail
      go_region
      generalize (wr.setCell ⟨T, L, none⟩ (.int .i64 ((n : Int) + 1))).drew = w4 at *
      go_wp2
      go_roundw
      case rel => exact ⟨k + 1, by omega, by go_num, HT2, H162, Ho2, hsr2, hb2⟩
      case measure => simp [intOf]; omega
    · have e : k = sy.length := by omega
      have hdk : decide ((k : Int) < (sy.length : Int)) = false := by simp; omega
      have HF : Hid (TB wr T w1.heap.size (nat z) sy) := by
        refine ⟨fun i hi => ?_, ⟨a0, c0, unhide H16, fun h0 => ?_⟩, hs2⟩
        · have := (unhide HT i hi).1
          rw [e, List.take_length] at this
          exact this
        · obtain ⟨g, rfl, hgb⟩ := unhide Hg0 h0
          exact ⟨g, rfl, hgb, fun i hi => own_cell (unhide Ho) i hi⟩
      clear e
      go_wp2
      go_ret2
      exact ⟨T, sy, rfl, unhide HF, unhide Hpm, unhide Hso, hbr⟩
end Go.Proofs.YtfeljhikeddodaeGreatDoor
