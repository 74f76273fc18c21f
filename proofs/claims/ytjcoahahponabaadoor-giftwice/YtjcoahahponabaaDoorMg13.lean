/- Moving pictures: the program's reader: its parts. Moving pictures: the program's reader: numbers of two bytes, sides, colors. -/
import Derived.Test.YtjcoahahponabaaDoorMg10
import Derived.Test.YtjcoahahponabaaDoorMg12
import Derived.Test.YtjcoahahponabaaDoorMg11
import Derived.Test.YtjcoahahponabaaDoorMg4
import Derived.Deep.CutBlock
namespace Go.Proofs.YtjcoahahponabaaDoor
open Go.RowKit Lz

/-- A text that is left: its bytes. -/
def bl (s : ByteArray) : List UInt8 := s.data.toList
theorem bl_len (s : ByteArray) : (bl s).length = s.size := size_list s
/-- The reader at block R, with this left. -/
def GR (w : World) (R : Nat) (s : ByteArray) : Prop := w.heap[R]? = some (.cells #[.string s] 85)
theorem GR.lt {w : World} {R : Nat} {s : ByteArray} (h : GR w R s) : R < w.heap.size := blk_lt h
theorem GR.cell {w : World} {R : Nat} {s : ByteArray} (h : GR w R s) : w.cell? ⟨R, 0, none⟩ = some (.string s) := blk_cell h 0
theorem GR.fr {w : World} {R : Nat} {s : ByteArray} (h : GR w R s) : w.frozen? ⟨R, 0, none⟩ = false := blk_frozen h 0
theorem GR.set {w : World} {R : Nat} {s : ByteArray} (h : GR w R s) (t : ByteArray) : GR (w.setCell ⟨R, 0, none⟩ (.string t)) R t := by
  have := set_cells (j := 0) h (.string t)
  simpa [GR] using this
theorem GR.below {w w' : World} {R B : Nat} {s : ByteArray} (h : GR w R s) (hb : Below B w w') (hR : R < B) : GR w' R s := blk_below h hb hR
/-- What is thrown. -/
def gthr (t : TypeId) (x : Value) : List PanicEntry := [{ v := .iface 82 (.agg #[.iface t x]), recovered := false }]
/-- The variable that holds ErrText. -/
def GT (w : World) (t : TypeId) (x : Value) : Prop := w.cell? ⟨0, 0, none⟩ = some (.iface t x)
theorem GT.but {w w' : World} {t : TypeId} {x : Value} {R : Nat} (h : GT w t x) (hb : But (· = R) w w') (hR : 0 ≠ R) : GT w' t x :=
  (hb.cell (p := ⟨0, 0, none⟩) (World.block_lt_of_cell? _ _ h) hR).trans h

theorem grBut (w : World) (R : Nat) (u : Value) : But (· = R) w (w.setCell ⟨R, 0, none⟩ u) := (But.refl (· = R) w).setCell (p := ⟨R, 0, none⟩) rfl u
theorem gthrow_any (t : TypeId) (x : Value) (w : World) :
    Calls Tryd.prog 23 #[.iface t x] w fun e w' => e = .panicked (gthr t x) ∧ w' = w := by
  go_enter Tryd.func23, Tryd.ntmps23
  go_wp2
  exact ⟨rfl, rfl, rfl⟩

/-- What is left behind a text with which it begins. -/
def pfx (t l : List UInt8) : Option (List UInt8) := if t.isPrefixOf l then some (l.drop t.length) else none
theorem pfx_iff (s p : ByteArray) : (bl p).isPrefixOf (bl s) = true ↔ p.size ≤ s.size ∧ s.extract 0 p.size = p := by
  rw [List.isPrefixOf_iff_prefix]
  constructor
  · intro h
    have h1 := h.length_le
    rw [bl_len, bl_len] at h1
    refine ⟨h1, text_ext ?_⟩
    rw [front]
    have := List.prefix_iff_eq_take.1 h
    rw [bl_len] at this
    exact this.symm
  · rintro ⟨_, h2⟩
    have : bl p = (bl s).take p.size := by
      show p.data.toList = _
      rw [← h2, front]
      simp [bl]
    rw [this]
    exact List.take_prefix _ _

theorem cut0_any (s p : ByteArray) (w : World) :
    Calls Tryd.prog 62 #[.string s, .string p] w fun e w' => ((∃ s', pfx (bl p) (bl s) = some (bl s') ∧ e = .returned (.tuple #[.string s', .bool true])) ∨ (pfx (bl p) (bl s) = none ∧ e = .returned (.tuple #[.string s, .bool false]))) ∧ w' = w := by
  have HC := hide (hasPrefix0 s p w)
  have HI := hide (pfx_iff s p)
  by_cases h : (bl p).isPrefixOf (bl s) = true
  · have h2 := (pfx_iff s p).1 h
    have hi : (p.size : Int) ≤ (s.size : Int) := by omega
    have hin : p.size ≤ s.size := h2.1
    have HE : Hid (pfx (bl p) (bl s) = some (bl (s.extract p.size s.size))) := by
      show _ = _
      unfold pfx
      rw [if_pos h, bl_len]
      exact congrArg some (back s p.size).symm
    have HH := hide h
    clear h h2
    go_enter Tryd.func62, Tryd.ntmps62
    go_wp2_with fail
    refine (unhide HC).mono ?_
    rintro e w1 ⟨b, rfl, hb, rfl⟩
    obtain rfl : b = true := hb.2 ((unhide HI).1 (unhide HH))
    clear HC hb HI
    go_wp2
    go_ret2
    exact ⟨.inl ⟨_, unhide HE, rfl⟩, rfl⟩
  · have HE : Hid (pfx (bl p) (bl s) = none) := by
      show _ = _
      unfold pfx
      rw [if_neg h]
    have HH := hide h
    clear h
    go_enter Tryd.func62, Tryd.ntmps62
    go_wp2_with fail
    refine (unhide HC).mono ?_
    rintro e w1 ⟨b, rfl, hb, rfl⟩
    have hbf : b = false := by
      cases b with
      | false => rfl
      | true => exact absurd ((unhide HI).2 (hb.1 rfl)) (unhide HH)
    subst hbf
    clear HC hb HI
    go_wp2
    go_ret2
    exact ⟨.inr ⟨unhide HE, rfl⟩, rfl⟩
theorem cutPrefix_any (s p : ByteArray) (w : World) :
    Calls Tryd.prog 51 #[.string s, .string p] w fun e w' => ((∃ s', pfx (bl p) (bl s) = some (bl s') ∧ e = .returned (.tuple #[.string s', .bool true])) ∨ (pfx (bl p) (bl s) = none ∧ e = .returned (.tuple #[.string s, .bool false]))) ∧ w' = w := by
  have HC := hide (cut0_any s p w)
  go_enter Tryd.func51, Tryd.ntmps51
  go_wp2_with fail
  refine (unhide HC).mono ?_
  rintro e w1 ⟨h, rfl⟩
  have HH := hide h
  clear h HC
  rcases unhide HH with ⟨s', h1, rfl⟩ | ⟨h1, rfl⟩
  · have H1 := hide h1
    clear h1 HH
    go_wp2
    go_ret2
    exact ⟨.inl ⟨s', unhide H1, rfl⟩, rfl⟩
  · have H1 := hide h1
    clear h1 HH
    go_wp2
    go_ret2
    exact ⟨.inr ⟨unhide H1, rfl⟩, rfl⟩

section
variable {R : Nat} {s : ByteArray} {tE : TypeId} {xE : Value}

theorem goesOn_any (t : ByteArray) (w : World) (h : GR w R s) :
    Calls Tryd.prog 36 #[.pointer (some ⟨R, 0, none⟩), .string t] w fun e w' => ((∃ s', pfx (bl t) (bl s) = some (bl s') ∧ e = .returned (.bool true) ∧ GR w' R s') ∨ (pfx (bl t) (bl s) = none ∧ e = .returned (.bool false) ∧ GR w' R s)) ∧ But (· = R) w w' := by
  have HC := hide (cutPrefix_any s t w)
  have HR := hide h
  have h0 := h.cell
  have h1 := h.fr
  have h2 := h.lt
  clear h
  go_enter Tryd.func36, Tryd.ntmps36
  go_wp2_with fail
  refine (unhide HC).mono ?_
  rintro e w1 ⟨hq, rfl⟩
  have HH := hide hq
  clear hq HC
  rcases unhide HH with ⟨s', hp, rfl⟩ | ⟨hp, rfl⟩
  · have H1 := hide hp
    clear hp HH
    go_wp2
    go_ret
    exact ⟨.inl ⟨s', unhide H1, rfl, (unhide HR).set s'⟩, grBut _ _ _⟩
  · have H1 := hide hp
    clear hp HH
    go_wp2
    go_ret
    exact ⟨.inr ⟨unhide H1, rfl, (unhide HR).set s⟩, grBut _ _ _⟩

theorem gpass_any (t : ByteArray) (w : World) (h : GR w R s) (hG : GT w tE xE) (hne : 0 ≠ R) :
    Calls Tryd.prog 34 #[.pointer (some ⟨R, 0, none⟩), .string t] w fun e w' => ((∃ s', pfx (bl t) (bl s) = some (bl s') ∧ e = .returned (.tuple #[]) ∧ GR w' R s') ∨ (pfx (bl t) (bl s) = none ∧ e = .panicked (gthr tE xE))) ∧ But (· = R) w w' := by
  have HC := hide (goesOn_any t w h)
  have HG := hide hG
  clear h hG
  go_enter Tryd.func34, Tryd.ntmps34
  go_wp2_with fail
  refine (unhide HC).mono ?_
  rintro e w1 ⟨hq, hb⟩
  have HB := hide hb
  have HH := hide hq
  have hG1 : w1.cell? ⟨0, 0, none⟩ = some (.iface tE xE) := (unhide HG).but hb hne
  clear hq hb HC
  rcases unhide HH with ⟨s', hp, rfl, hr⟩ | ⟨hp, rfl, hr⟩
  · have H1 := hide hp
    have H2 := hide hr
    clear hp hr HH hG1
    go_wp2
    go_end0
    exact ⟨.inl ⟨s', unhide H1, rfl, unhide H2⟩, unhide HB⟩
  · have H1 := hide hp
    clear hp hr HH
    go_wp2_with fail
    refine (gthrow_any tE xE _).mono ?_; rintro e w2 ⟨rfl, rfl⟩
    go_wp2
    exact ⟨rfl, .inr ⟨unhide H1, rfl⟩, unhide HB⟩

theorem gtake_any (n : Nat) (w : World) (h : GR w R s) (hG : GT w tE xE) :
    Calls Tryd.prog 63 #[.pointer (some ⟨R, 0, none⟩), .int .i64 (n : Int)] w fun e w' => ((n ≤ (bl s).length ∧ ∃ x s', bl x = (bl s).take n ∧ bl s' = (bl s).drop n ∧ e = .returned (.string x) ∧ GR w' R s') ∨ ((bl s).length < n ∧ e = .panicked (gthr tE xE))) ∧ But (· = R) w w' := by
  have HR := hide h
  have h0 := h.cell
  have h1 := h.fr
  have h2 := h.lt
  have hL := bl_len s
  have hG1 : w.cell? ⟨0, 0, none⟩ = some (.iface tE xE) := hG
  clear h hG
  by_cases hlt : s.size < n
  · have d1 : decide ((n : Int) > (s.size : Int)) = true := decide_eq_true (by omega)
    have d1' : decide ((s.size : Int) < (n : Int)) = true := d1
    have d1n : decide (s.size < n) = true := decide_eq_true hlt
    go_enter Tryd.func63, Tryd.ntmps63
    go_wp2_with fail
    refine (gthrow_any tE xE _).mono ?_; rintro e w2 ⟨rfl, rfl⟩
    go_wp2
    exact ⟨rfl, .inr ⟨by omega, rfl⟩, But.refl _ _⟩
  · have d1 : decide ((n : Int) > (s.size : Int)) = false := decide_eq_false (by omega)
    have d1' : decide ((s.size : Int) < (n : Int)) = false := d1
    have d1n : decide (s.size < n) = false := decide_eq_false hlt
    have hi : (n : Int) ≤ (s.size : Int) := by omega
    have HX : Hid (bl (s.extract 0 n) = (bl s).take n) := front s n
    have HY : Hid (bl (s.extract n s.size) = (bl s).drop n) := back s n
    clear hG1
    go_enter Tryd.func63, Tryd.ntmps63
    go_wp2
    go_ret
    exact ⟨.inl ⟨by omega, _, _, unhide HX, unhide HY, rfl, (unhide HR).set _⟩, grBut _ _ _⟩

theorem gbyte_any (w : World) (h : GR w R s) (hG : GT w tE xE) :
    Calls Tryd.prog 52 #[.pointer (some ⟨R, 0, none⟩)] w fun e w' => ((∃ b s', bl s = b :: bl s' ∧ e = .returned (.int .i64 (b.toNat : Int)) ∧ GR w' R s') ∨ (bl s = [] ∧ e = .panicked (gthr tE xE))) ∧ But (· = R) w w' := by
  have HC := hide (gtake_any 1 w h hG)
  clear h hG
  go_enter Tryd.func52, Tryd.ntmps52
  go_wp2_with fail
  refine (unhide HC).mono ?_
  rintro e w1 ⟨hq, hb⟩
  have HB := hide hb
  have HH := hide hq
  clear hq hb HC
  rcases unhide HH with ⟨hl, x, s', hx, hs', rfl, hr⟩ | ⟨hl, rfl⟩
  · have hx1 : x.size = 1 := by have := bl_len x; rw [hx, List.length_take] at this; omega
    have H2 := hide hr
    have HE : Hid (bl s = x[0] :: bl s') := by
      show _ = _
      rw [hs']
      cases e : bl s with
      | nil => rw [e] at hl; simp at hl
      | cons b r =>
        rw [e] at hx
        have hx0 : x.data.toList = [b] := by simpa [bl] using hx
        have : x[0] = b := by
          have h3 : x.data.toList[0]'(by rw [hx0]; simp) = b := by simp [hx0]
          rw [← h3]
          simp
          rfl
        rw [this]
        simp
    have hx0 : (0 : Int) < (x.size : Int) := by omega
    have hx0n : 0 < x.size := by omega
    have hx256 : x[0].toNat < 256 := x[0].toNat_lt
    clear hx hs' hr HH hl
    go_wp2
    go_ret
    exact ⟨.inl ⟨_, s', unhide HE, rfl, unhide H2⟩, unhide HB⟩
  · have HE : Hid (bl s = []) := by
      show _ = _
      cases e : bl s with
      | nil => rfl
      | cons b r => rw [e] at hl; simp at hl
    clear hl HH
    go_wp2
    exact ⟨rfl, .inr ⟨unhide HE, rfl⟩, unhide HB⟩
end
end Go.Proofs.YtjcoahahponabaaDoor
namespace Go.Proofs.YtjcoahahponabaaDoor
open Go.RowKit Lz

def pairR : List UInt8 → Option (Nat × List UInt8)
  | a :: b :: r => some (a.toNat + 256 * b.toNat, r)
  | _ => none
def sideR (l : List UInt8) : Option (Nat × List UInt8) := match pairR l with
  | some x => if 1 ≤ x.1 ∧ x.1 ≤ 256 then some x else none
  | none => none
def colN : Nat → List UInt8 → Option (List Px × List UInt8)
  | 0, l => some ([], l)
  | k + 1, r :: g :: b :: t => (colN k t).map fun x => (⟨r, g, b, 255⟩ :: x.1, x.2)
  | _ + 1, _ => none
def colsR : List UInt8 → Option (List Px × List UInt8)
  | [] => none
  | z :: t => if 128 ≤ z.toNat ∧ z.toNat ≤ 135 then colN (2 * 2 ^ (z.toNat - 128)) t else none
theorem colN_short (k : Nat) (l : List UInt8) (h : l.length < 3) : colN (k + 1) l = none := by
  match l, h with
  | [], _ => rfl
  | [_], _ => rfl
  | [_, _], _ => rfl
theorem colN_step (k : Nat) (r g b : UInt8) (t : List UInt8) : colN (k + 1) (r :: g :: b :: t) = (colN k t).map fun x => (⟨r, g, b, 255⟩ :: x.1, x.2) := rfl

section
variable {R : Nat} {s : ByteArray} {tE : TypeId} {xE : Value}

set_option maxRecDepth 100000 in
theorem rpair_any (w : World) (h : GR w R s) (hG : GT w tE xE) (hne : 0 ≠ R) :
    Calls Tryd.prog 37 #[.pointer (some ⟨R, 0, none⟩)] w fun e w' => ((∃ n s', pairR (bl s) = some (n, bl s') ∧ n < 65536 ∧ e = .returned (.int .i64 (n : Int)) ∧ GR w' R s') ∨ (pairR (bl s) = none ∧ e = .panicked (gthr tE xE))) ∧ But (· = R) w w' := by
  have HC := hide (gbyte_any w h hG)
  have HG := hide hG
  clear h hG
  go_enter Tryd.func37, Tryd.ntmps37
  go_wp2_with fail
  refine (unhide HC).mono ?_
  rintro e w1 ⟨hq, hb⟩
  have HB := hide hb
  have HH := hide hq
  have HG1 := hide ((unhide HG).but hb hne)
  clear hq hb HC
  rcases unhide HH with ⟨a, s1, h1, rfl, hr1⟩ | ⟨h1, rfl⟩
  · have H1 := hide h1
    have HC := hide (gbyte_any w1 hr1 (unhide HG1))
    clear h1 hr1 HH
    go_wp2_with fail
    refine (unhide HC).mono ?_
    rintro e w2 ⟨hq, hb⟩
    have HB2 := hide ((unhide HB).trans hb)
    have HH := hide hq
    clear hq hb HC
    rcases unhide HH with ⟨b, s2, h2, rfl, hr2⟩ | ⟨h2, rfl⟩
    · have HE : Hid (pairR (bl s) = some (a.toNat + 256 * b.toNat, bl s2)) := by
        show _ = _
        rw [unhide H1, h2]
        rfl
      have H2 := hide hr2
      have ha := a.toNat_lt
      have hbb := b.toNat_lt
      obtain ⟨x, hx⟩ : ∃ x, x = a.toNat := ⟨_, rfl⟩
      obtain ⟨y, hy⟩ : ∃ y, y = b.toNat := ⟨_, rfl⟩
      rw [← hx, ← hy] at HE
      rw [← hx] at ha ⊢
      rw [← hy] at hbb ⊢
      obtain ⟨z, hz⟩ : ∃ z, z = x + 256 * y := ⟨_, rfl⟩
      rw [← hz] at HE
      obtain ⟨y2, hy2⟩ : ∃ y2, y2 = 256 * y := ⟨_, rfl⟩
      have e1 : (y : Int) * 256 = (y2 : Int) := by omega
      have e2 : (x : Int) + (y2 : Int) = (z : Int) := by omega
      have hyb : y2 < 65536 := by omega
      have hzb : z < 65536 := by omega
      clear h2 hr2 HH hx hy hz H1 hy2
      go_wp2
      go_ret
      exact ⟨.inl ⟨z, s2, unhide HE, hzb, by first | rfl | (congr 2), unhide H2⟩, unhide HB2⟩
    · have HE : Hid (pairR (bl s) = none) := by show _ = _; rw [unhide H1, h2]; rfl
      clear h2 HH
      go_wp2
      exact ⟨rfl, .inr ⟨unhide HE, rfl⟩, unhide HB2⟩
  · have HE : Hid (pairR (bl s) = none) := by show _ = _; rw [h1]; rfl
    clear h1 HH
    go_wp2
    exact ⟨rfl, .inr ⟨unhide HE, rfl⟩, unhide HB⟩

set_option maxRecDepth 100000 in
theorem rside_any (w : World) (h : GR w R s) (hG : GT w tE xE) (hne : 0 ≠ R) :
    Calls Tryd.prog 35 #[.pointer (some ⟨R, 0, none⟩)] w fun e w' => ((∃ n s', sideR (bl s) = some (n, bl s') ∧ (1 ≤ n ∧ n ≤ 256) ∧ e = .returned (.int .i64 (n : Int)) ∧ GR w' R s') ∨ (sideR (bl s) = none ∧ e = .panicked (gthr tE xE))) ∧ But (· = R) w w' := by
  have HC := hide (rpair_any w h hG hne)
  have HG := hide hG
  clear h hG
  go_enter Tryd.func35, Tryd.ntmps35
  go_wp2_with fail
  refine (unhide HC).mono ?_
  rintro e w1 ⟨hq, hb⟩
  have HB := hide hb
  have HH := hide hq
  have hG1 : w1.cell? ⟨0, 0, none⟩ = some (.iface tE xE) := (unhide HG).but hb hne
  clear hq hb HC
  rcases unhide HH with ⟨n, s1, h1, hn, rfl, hr1⟩ | ⟨h1, rfl⟩
  · by_cases hs : 1 ≤ n ∧ n ≤ 256
    · have HE : Hid (sideR (bl s) = some (n, bl s1)) := by show _ = _; unfold sideR; rw [h1]; exact if_pos hs
      have H1 := hide hr1
      have HS := hide (fun w => isSide_any (n : Int) w)
      rw [decide_eq_true (show 1 ≤ (n : Int) ∧ (n : Int) ≤ 256 by omega)] at HS
      have Hs := hide hs
      clear h1 hr1 HH hG1 hs
      go_wp2_with fail
      refine (unhide HS _).mono ?_
      rintro e w2 ⟨rfl, rfl⟩
      go_wp2
      go_ret
      exact ⟨.inl ⟨n, s1, unhide HE, unhide Hs, rfl, unhide H1⟩, unhide HB⟩
    · have HE : Hid (sideR (bl s) = none) := by show _ = _; unfold sideR; rw [h1]; exact if_neg hs
      have HS := hide (fun w => isSide_any (n : Int) w)
      rw [decide_eq_false (show ¬ (1 ≤ (n : Int) ∧ (n : Int) ≤ 256) by omega)] at HS
      clear h1 hr1 HH hs
      go_wp2_with fail
      refine (unhide HS _).mono ?_
      rintro e w2 ⟨rfl, rfl⟩
      go_wp2_with fail
      refine (gthrow_any tE xE _).mono ?_; rintro e w3 ⟨rfl, rfl⟩
      go_wp2
      exact ⟨rfl, .inr ⟨unhide HE, rfl⟩, unhide HB⟩
  · have HE : Hid (sideR (bl s) = none) := by show _ = _; unfold sideR; rw [h1]
    clear h1 HH hG1
    go_wp2
    exact ⟨rfl, .inr ⟨unhide HE, rfl⟩, unhide HB⟩
end
end Go.Proofs.YtjcoahahponabaaDoor
