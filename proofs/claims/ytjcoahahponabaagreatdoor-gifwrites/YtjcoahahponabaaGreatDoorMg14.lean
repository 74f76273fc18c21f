/- Moving pictures: any number as a byte, as two: the document's. stringslite.HasPrefix by its contract (cut out of Scl). Moving pictures: the program's reader: its parts. Moving pictures: the program's reader: numbers of two bytes, sides, colors. Moving pictures: the program's reader: colors. -/
import Derived.Test.YtjcoahahponabaaGreatDoorMg13
import Derived.Test.YtjcoahahponabaaGreatDoorMg2
import Derived.Test.YtjcoahahponabaaGreatDoorMg9
import Derived.Test.YtjcoahahponabaaGreatDoorMg10
import Derived.Test.YtjcoahahponabaaGreatDoorMg4
import Derived.Deep.CutBlock
namespace Go.Proofs.YtjcoahahponabaaGreatDoor
open Go.RowKit

/-- Any number as a byte. -/
def byV (z : Int) : ByteArray := ⟨#[UInt8.ofNat (IntKind.u8.wrap z).toNat]⟩
theorem byV_size (z : Int) : (byV z).size = 1 := rfl
theorem u8_wrap_lt (z : Int) : 0 ≤ IntKind.u8.wrap z ∧ IntKind.u8.wrap z < 256 := by rw [IntKind.wrap_u8]; omega

set_option maxHeartbeats 4000000 in
set_option maxRecDepth 100000 in
theorem byteW_any (z : Int) (w : World) :
    Calls Tryz.prog 63 #[.int .i64 z] w fun e w' => e = .returned (.string (byV z)) ∧ Below w.heap.size w w' := by
  obtain ⟨h0, h1⟩ := u8_wrap_lt z
  obtain ⟨n, hn⟩ := Int.eq_ofNat_of_zero_le h0
  have hn2 : n < 256 := by omega
  have e : (UInt8.ofNat n).toNat = n := by rw [UInt8.toNat_ofNat']; omega
  have hv : byV z = ⟨#[UInt8.ofNat n]⟩ := by unfold byV; rw [hn]; rfl
  have hcv := own_text (w.alloc (.cells #[.int .u8 (n : Int)] 5)) w.heap.size (.slice (some ⟨w.heap.size, 0, none⟩) 1 1) 1 [UInt8.ofNat n] (by
    have := World.ownsRow_lit (base := w.heap.size) (e := 5) (size := 1) w #[.int .u8 (n : Int)] 1 (Nat.le_refl _) (by decide) rfl
    simpa [byteVals, e] using this)
  rw [hv]
  have HB := hide ((Below.refl w.heap.size w).alloc (Nat.le_refl _) (.cells #[.int .u8 (n : Int)] 5))
  clear hv h0 h1 e
  go_enter Tryz.func63, Tryz.ntmps63
  go_wp2
  go_ret
  exact ⟨rfl, unhide HB⟩
/-- Any number as two bytes. -/
def liV (z : Int) : ByteArray := byV (z.tmod 256) ++ byV (wrap64 (z.tdiv 256))
theorem liV_size (z : Int) : (liV z).size = 2 := by unfold liV; rw [ByteArray.size_append]; rfl
theorem byV_nat (n : Nat) : (byV (n : Int)).data.toList = [UInt8.ofNat n] := by
  show [UInt8.ofNat _] = _
  have : (IntKind.u8.wrap (n : Int)).toNat = n % 256 := by rw [IntKind.wrap_u8]; omega
  rw [this]
  congr 1
  apply UInt8.toNat_inj.1
  simp
theorem liV_nat (n : Nat) (hn : n < 65536) : (liV (n : Int)).data.toList = pairL n := by
  have h1 : ((n : Int).tmod 256) = ((n % 256 : Nat) : Int) := by rw [Int.tmod_eq_emod_of_nonneg (by omega)]; omega
  have h2 : wrap64 ((n : Int).tdiv 256) = ((n / 256 : Nat) : Int) := by
    rw [Int.tdiv_eq_ediv_of_nonneg (by omega)]
    have : (n : Int) / 256 = ((n / 256 : Nat) : Int) := by omega
    rw [this]
    unfold wrap64
    omega
  unfold liV
  rw [h1, h2, ByteArray.data_append, Array.toList_append, byV_nat, byV_nat]
  have e : UInt8.ofNat (n % 256) = UInt8.ofNat n := by apply UInt8.toNat_inj.1; simp
  rw [e]
  rfl
set_option maxHeartbeats 4000000 in
set_option maxRecDepth 100000 in
theorem littleW_any (z : Int) (w : World) :
    Calls Tryz.prog 62 #[.int .i64 z] w fun e w' => e = .returned (.string (liV z)) ∧ Below w.heap.size w w' := by
  have H1 := hide (fun w => byteW_any (z.tmod 256) w)
  have H2 := hide (fun w => byteW_any (wrap64 (z.tdiv 256)) w)
  have HE : Hid (byV (z.tmod 256) ++ byV (wrap64 (z.tdiv 256)) = liV z) := rfl
  have n1 : ¬ (9223372036854775807 < (byV (z.tmod 256)).size + (byV (wrap64 (z.tdiv 256))).size) := by rw [byV_size, byV_size]; omega
  go_enter Tryz.func62, Tryz.ntmps62
  go_wp2_with fail
  refine (unhide H1 _).mono ?_
  rintro e w1 ⟨rfl, hb1⟩
  have HB1 := hide hb1
  have hz1 := hb1.size
  clear hb1 H1
  go_wp2_with fail
  refine (unhide H2 _).mono ?_
  rintro e w2 ⟨rfl, hb2⟩
  have HB2 := hide ((unhide HB1).trans (hb2.mono hz1))
  clear hb2 H2
  go_wp2
  go_ret
  exact ⟨by rw [← unhide HE]; rfl, unhide HB2⟩
end Go.Proofs.YtjcoahahponabaaGreatDoor
namespace Go.Proofs.YtjcoahahponabaaGreatDoor
open Go.RowKit

theorem hasPrefix0 (s p : ByteArray) (w : World) :
    Calls Tryz.prog 173 #[.string s, .string p] w fun e w' => ∃ b : Bool, e = .returned (.bool b) ∧ (b = true ↔ p.size ≤ s.size ∧ s.extract 0 p.size = p) ∧ w' = w := by
  by_cases h : p.size ≤ s.size
  · have d1 : decide ((s.size : Int) ≥ (p.size : Int)) = true := decide_eq_true (by omega)
    have d1' : decide ((p.size : Int) ≤ (s.size : Int)) = true := d1
    have d1n : decide (p.size ≤ s.size) = true := decide_eq_true h
    have hi : (p.size : Int) ≤ (s.size : Int) := by omega
    have hl : ∀ x y : ByteArray, x.toList = y.toList → x = y := fun x y q => ByteArray.ext (Array.toList_inj.1 (by rw [← ByteArray.toList_eq, ← ByteArray.toList_eq]; exact q))
    have HL := hide hl
    by_cases he : s.extract 0 p.size = p
    · have HE := hide he
      go_enter Tryz.func173, Tryz.ntmps173
      go_wp2
      go_ret
      exact ⟨true, rfl, ⟨fun _ => ⟨h, unhide HE⟩, fun _ => rfl⟩, rfl⟩
    · have HE := hide he
      have hb : ((s.extract 0 p.size).toList == p.toList) = false := by
        simp only [beq_eq_false_iff_ne, ne_eq]
        intro q
        exact he (hl _ _ q)
      clear hl he
      go_enter Tryz.func173, Tryz.ntmps173
      go_wp2
      go_ret
      exact ⟨false, rfl, ⟨(fun q => by cases q), fun q => absurd q.2 (unhide HE)⟩, rfl⟩
  · have d1 : decide ((s.size : Int) ≥ (p.size : Int)) = false := decide_eq_false (by omega)
    have d1' : decide ((p.size : Int) ≤ (s.size : Int)) = false := d1
    have d1n : decide (p.size ≤ s.size) = false := decide_eq_false h
    go_enter Tryz.func173, Tryz.ntmps173
    go_wp2
    go_ret
    exact ⟨false, rfl, ⟨(fun q => by cases q), fun q => absurd q.1 h⟩, rfl⟩
end Go.Proofs.YtjcoahahponabaaGreatDoor
namespace Go.Proofs.YtjcoahahponabaaGreatDoor
open Go.RowKit Lz

/-- A text that is left: its bytes. -/
def bl (s : ByteArray) : List UInt8 := s.data.toList
theorem bl_len (s : ByteArray) : (bl s).length = s.size := size_list s
/-- The reader at block R, with this left. -/
def GR (w : World) (R : Nat) (s : ByteArray) : Prop := w.heap[R]? = some (.cells #[.string s] 158)
theorem GR.lt {w : World} {R : Nat} {s : ByteArray} (h : GR w R s) : R < w.heap.size := blk_lt h
theorem GR.cell {w : World} {R : Nat} {s : ByteArray} (h : GR w R s) : w.cell? ⟨R, 0, none⟩ = some (.string s) := blk_cell h 0
theorem GR.fr {w : World} {R : Nat} {s : ByteArray} (h : GR w R s) : w.frozen? ⟨R, 0, none⟩ = false := blk_frozen h 0
theorem GR.set {w : World} {R : Nat} {s : ByteArray} (h : GR w R s) (t : ByteArray) : GR (w.setCell ⟨R, 0, none⟩ (.string t)) R t := by
  have := set_cells (j := 0) h (.string t)
  simpa [GR] using this
theorem GR.below {w w' : World} {R B : Nat} {s : ByteArray} (h : GR w R s) (hb : Below B w w') (hR : R < B) : GR w' R s := blk_below h hb hR
/-- What is thrown. -/
def gthr (t : TypeId) (x : Value) : List PanicEntry := [{ v := .iface 155 (.agg #[.iface t x]), recovered := false }]
/-- The variable that holds ErrText. -/
def GT (w : World) (t : TypeId) (x : Value) : Prop := w.cell? ⟨1, 0, none⟩ = some (.iface t x)
theorem GT.but {w w' : World} {t : TypeId} {x : Value} {R : Nat} (h : GT w t x) (hb : But (· = R) w w') (hR : 1 ≠ R) : GT w' t x :=
  (hb.cell (p := ⟨1, 0, none⟩) (World.block_lt_of_cell? _ _ h) hR).trans h

theorem grBut (w : World) (R : Nat) (u : Value) : But (· = R) w (w.setCell ⟨R, 0, none⟩ u) := (But.refl (· = R) w).setCell (p := ⟨R, 0, none⟩) rfl u
theorem gthrow_any (t : TypeId) (x : Value) (w : World) :
    Calls Tryz.prog 74 #[.iface t x] w fun e w' => e = .panicked (gthr t x) ∧ w' = w := by
  go_enter Tryz.func74, Tryz.ntmps74
  go_wp2
  exact ⟨rfl, rfl, rfl⟩

/-- What is left behind a text with which it begins. -/
def pfx (t l : List UInt8) : Option (List UInt8) := if t.isPrefixOf l then some (l.drop t.length) else none
theorem pfx_iff (s p : ByteArray) : (bl p).isPrefixOf (bl s) = true ↔ p.size ≤ s.size ∧ s.extract 0 p.size = p := by
  rw [List.isPrefixOf_iff_prefix]
  constructor
  · intro h
    have h1 := h.length_le
    rw [bl_len, bl_len] at h1
    refine ⟨h1, text_ext ?_⟩
    rw [front]
    have := List.prefix_iff_eq_take.1 h
    rw [bl_len] at this
    exact this.symm
  · rintro ⟨_, h2⟩
    have : bl p = (bl s).take p.size := by
      show p.data.toList = _
      rw [← h2, front]
      simp [bl]
    rw [this]
    exact List.take_prefix _ _

theorem cut0_any (s p : ByteArray) (w : World) :
    Calls Tryz.prog 156 #[.string s, .string p] w fun e w' => ((∃ s', pfx (bl p) (bl s) = some (bl s') ∧ e = .returned (.tuple #[.string s', .bool true])) ∨ (pfx (bl p) (bl s) = none ∧ e = .returned (.tuple #[.string s, .bool false]))) ∧ w' = w := by
  have HC := hide (hasPrefix0 s p w)
  have HI := hide (pfx_iff s p)
  by_cases h : (bl p).isPrefixOf (bl s) = true
  · have h2 := (pfx_iff s p).1 h
    have hi : (p.size : Int) ≤ (s.size : Int) := by omega
    have hin : p.size ≤ s.size := h2.1
    have HE : Hid (pfx (bl p) (bl s) = some (bl (s.extract p.size s.size))) := by
      show _ = _
      unfold pfx
      rw [if_pos h, bl_len]
      exact congrArg some (back s p.size).symm
    have HH := hide h
    clear h h2
    go_enter Tryz.func156, Tryz.ntmps156
    go_wp2_with fail
    refine (unhide HC).mono ?_
    rintro e w1 ⟨b, rfl, hb, rfl⟩
    obtain rfl : b = true := hb.2 ((unhide HI).1 (unhide HH))
    clear HC hb HI
    go_wp2
    go_ret2
    exact ⟨.inl ⟨_, unhide HE, rfl⟩, rfl⟩
  · have HE : Hid (pfx (bl p) (bl s) = none) := by
      show _ = _
      unfold pfx
      rw [if_neg h]
    have HH := hide h
    clear h
    go_enter Tryz.func156, Tryz.ntmps156
    go_wp2_with fail
    refine (unhide HC).mono ?_
    rintro e w1 ⟨b, rfl, hb, rfl⟩
    have hbf : b = false := by
      cases b with
      | false => rfl
      | true => exact absurd ((unhide HI).2 (hb.1 rfl)) (unhide HH)
    subst hbf
    clear HC hb HI
    go_wp2
    go_ret2
    exact ⟨.inr ⟨unhide HE, rfl⟩, rfl⟩
theorem cutPrefix_any (s p : ByteArray) (w : World) :
    Calls Tryz.prog 133 #[.string s, .string p] w fun e w' => ((∃ s', pfx (bl p) (bl s) = some (bl s') ∧ e = .returned (.tuple #[.string s', .bool true])) ∨ (pfx (bl p) (bl s) = none ∧ e = .returned (.tuple #[.string s, .bool false]))) ∧ w' = w := by
  have HC := hide (cut0_any s p w)
  go_enter Tryz.func133, Tryz.ntmps133
  go_wp2_with fail
  refine (unhide HC).mono ?_
  rintro e w1 ⟨h, rfl⟩
  have HH := hide h
  clear h HC
  rcases unhide HH with ⟨s', h1, rfl⟩ | ⟨h1, rfl⟩
  · have H1 := hide h1
    clear h1 HH
    go_wp2
    go_ret2
    exact ⟨.inl ⟨s', unhide H1, rfl⟩, rfl⟩
  · have H1 := hide h1
    clear h1 HH
    go_wp2
    go_ret2
    exact ⟨.inr ⟨unhide H1, rfl⟩, rfl⟩

section
variable {R : Nat} {s : ByteArray} {tE : TypeId} {xE : Value}

theorem goesOn_any (t : ByteArray) (w : World) (h : GR w R s) :
    Calls Tryz.prog 102 #[.pointer (some ⟨R, 0, none⟩), .string t] w fun e w' => ((∃ s', pfx (bl t) (bl s) = some (bl s') ∧ e = .returned (.bool true) ∧ GR w' R s') ∨ (pfx (bl t) (bl s) = none ∧ e = .returned (.bool false) ∧ GR w' R s)) ∧ But (· = R) w w' := by
  have HC := hide (cutPrefix_any s t w)
  have HR := hide h
  have h0 := h.cell
  have h1 := h.fr
  have h2 := h.lt
  clear h
  go_enter Tryz.func102, Tryz.ntmps102
  go_wp2_with fail
  refine (unhide HC).mono ?_
  rintro e w1 ⟨hq, rfl⟩
  have HH := hide hq
  clear hq HC
  rcases unhide HH with ⟨s', hp, rfl⟩ | ⟨hp, rfl⟩
  · have H1 := hide hp
    clear hp HH
    go_wp2
    go_ret
    exact ⟨.inl ⟨s', unhide H1, rfl, (unhide HR).set s'⟩, grBut _ _ _⟩
  · have H1 := hide hp
    clear hp HH
    go_wp2
    go_ret
    exact ⟨.inr ⟨unhide H1, rfl, (unhide HR).set s⟩, grBut _ _ _⟩

theorem gpass_any (t : ByteArray) (w : World) (h : GR w R s) (hG : GT w tE xE) (hne : 1 ≠ R) :
    Calls Tryz.prog 100 #[.pointer (some ⟨R, 0, none⟩), .string t] w fun e w' => ((∃ s', pfx (bl t) (bl s) = some (bl s') ∧ e = .returned (.tuple #[]) ∧ GR w' R s') ∨ (pfx (bl t) (bl s) = none ∧ e = .panicked (gthr tE xE))) ∧ But (· = R) w w' := by
  have HC := hide (goesOn_any t w h)
  have HG := hide hG
  clear h hG
  go_enter Tryz.func100, Tryz.ntmps100
  go_wp2_with fail
  refine (unhide HC).mono ?_
  rintro e w1 ⟨hq, hb⟩
  have HB := hide hb
  have HH := hide hq
  have hG1 : w1.cell? ⟨1, 0, none⟩ = some (.iface tE xE) := (unhide HG).but hb hne
  clear hq hb HC
  rcases unhide HH with ⟨s', hp, rfl, hr⟩ | ⟨hp, rfl, hr⟩
  · have H1 := hide hp
    have H2 := hide hr
    clear hp hr HH hG1
    go_wp2
    go_end0
    exact ⟨.inl ⟨s', unhide H1, rfl, unhide H2⟩, unhide HB⟩
  · have H1 := hide hp
    clear hp hr HH
    go_wp2_with fail
    refine (gthrow_any tE xE _).mono ?_; rintro e w2 ⟨rfl, rfl⟩
    go_wp2
    exact ⟨rfl, .inr ⟨unhide H1, rfl⟩, unhide HB⟩

theorem gtake_any (n : Nat) (w : World) (h : GR w R s) (hG : GT w tE xE) :
    Calls Tryz.prog 157 #[.pointer (some ⟨R, 0, none⟩), .int .i64 (n : Int)] w fun e w' => ((n ≤ (bl s).length ∧ ∃ x s', bl x = (bl s).take n ∧ bl s' = (bl s).drop n ∧ e = .returned (.string x) ∧ GR w' R s') ∨ ((bl s).length < n ∧ e = .panicked (gthr tE xE))) ∧ But (· = R) w w' := by
  have HR := hide h
  have h0 := h.cell
  have h1 := h.fr
  have h2 := h.lt
  have hL := bl_len s
  have hG1 : w.cell? ⟨1, 0, none⟩ = some (.iface tE xE) := hG
  clear h hG
  by_cases hlt : s.size < n
  · have d1 : decide ((n : Int) > (s.size : Int)) = true := decide_eq_true (by omega)
    have d1' : decide ((s.size : Int) < (n : Int)) = true := d1
    have d1n : decide (s.size < n) = true := decide_eq_true hlt
    go_enter Tryz.func157, Tryz.ntmps157
    go_wp2_with fail
    refine (gthrow_any tE xE _).mono ?_; rintro e w2 ⟨rfl, rfl⟩
    go_wp2
    exact ⟨rfl, .inr ⟨by omega, rfl⟩, But.refl _ _⟩
  · have d1 : decide ((n : Int) > (s.size : Int)) = false := decide_eq_false (by omega)
    have d1' : decide ((s.size : Int) < (n : Int)) = false := d1
    have d1n : decide (s.size < n) = false := decide_eq_false hlt
    have hi : (n : Int) ≤ (s.size : Int) := by omega
    have HX : Hid (bl (s.extract 0 n) = (bl s).take n) := front s n
    have HY : Hid (bl (s.extract n s.size) = (bl s).drop n) := back s n
    clear hG1
    go_enter Tryz.func157, Tryz.ntmps157
    go_wp2
    go_ret
    exact ⟨.inl ⟨by omega, _, _, unhide HX, unhide HY, rfl, (unhide HR).set _⟩, grBut _ _ _⟩

theorem gbyte_any (w : World) (h : GR w R s) (hG : GT w tE xE) :
    Calls Tryz.prog 134 #[.pointer (some ⟨R, 0, none⟩)] w fun e w' => ((∃ b s', bl s = b :: bl s' ∧ e = .returned (.int .i64 (b.toNat : Int)) ∧ GR w' R s') ∨ (bl s = [] ∧ e = .panicked (gthr tE xE))) ∧ But (· = R) w w' := by
  have HC := hide (gtake_any 1 w h hG)
  clear h hG
  go_enter Tryz.func134, Tryz.ntmps134
  go_wp2_with fail
  refine (unhide HC).mono ?_
  rintro e w1 ⟨hq, hb⟩
  have HB := hide hb
  have HH := hide hq
  clear hq hb HC
  rcases unhide HH with ⟨hl, x, s', hx, hs', rfl, hr⟩ | ⟨hl, rfl⟩
  · have hx1 : x.size = 1 := by have := bl_len x; rw [hx, List.length_take] at this; omega
    have H2 := hide hr
    have HE : Hid (bl s = x[0] :: bl s') := by
      show _ = _
      rw [hs']
      cases e : bl s with
      | nil => rw [e] at hl; simp at hl
      | cons b r =>
        rw [e] at hx
        have hx0 : x.data.toList = [b] := by simpa [bl] using hx
        have : x[0] = b := by
          have h3 : x.data.toList[0]'(by rw [hx0]; simp) = b := by simp [hx0]
          rw [← h3]
          simp
          rfl
        rw [this]
        simp
    have hx0 : (0 : Int) < (x.size : Int) := by omega
    have hx0n : 0 < x.size := by omega
    have hx256 : x[0].toNat < 256 := x[0].toNat_lt
    clear hx hs' hr HH hl
    go_wp2
    go_ret
    exact ⟨.inl ⟨_, s', unhide HE, rfl, unhide H2⟩, unhide HB⟩
  · have HE : Hid (bl s = []) := by
      show _ = _
      cases e : bl s with
      | nil => rfl
      | cons b r => rw [e] at hl; simp at hl
    clear hl HH
    go_wp2
    exact ⟨rfl, .inr ⟨unhide HE, rfl⟩, unhide HB⟩
end
end Go.Proofs.YtjcoahahponabaaGreatDoor
namespace Go.Proofs.YtjcoahahponabaaGreatDoor
open Go.RowKit Lz

def pairR : List UInt8 → Option (Nat × List UInt8)
  | a :: b :: r => some (a.toNat + 256 * b.toNat, r)
  | _ => none
def sideR (l : List UInt8) : Option (Nat × List UInt8) := match pairR l with
  | some x => if 1 ≤ x.1 ∧ x.1 ≤ 256 then some x else none
  | none => none
def colN : Nat → List UInt8 → Option (List Px × List UInt8)
  | 0, l => some ([], l)
  | k + 1, r :: g :: b :: t => (colN k t).map fun x => (⟨r, g, b, 255⟩ :: x.1, x.2)
  | _ + 1, _ => none
def colsR : List UInt8 → Option (List Px × List UInt8)
  | [] => none
  | z :: t => if 128 ≤ z.toNat ∧ z.toNat ≤ 135 then colN (2 * 2 ^ (z.toNat - 128)) t else none
theorem colN_short (k : Nat) (l : List UInt8) (h : l.length < 3) : colN (k + 1) l = none := by
  match l, h with
  | [], _ => rfl
  | [_], _ => rfl
  | [_, _], _ => rfl
theorem colN_step (k : Nat) (r g b : UInt8) (t : List UInt8) : colN (k + 1) (r :: g :: b :: t) = (colN k t).map fun x => (⟨r, g, b, 255⟩ :: x.1, x.2) := rfl

section
variable {R : Nat} {s : ByteArray} {tE : TypeId} {xE : Value}

set_option maxRecDepth 100000 in
theorem rpair_any (w : World) (h : GR w R s) (hG : GT w tE xE) (hne : 1 ≠ R) :
    Calls Tryz.prog 103 #[.pointer (some ⟨R, 0, none⟩)] w fun e w' => ((∃ n s', pairR (bl s) = some (n, bl s') ∧ n < 65536 ∧ e = .returned (.int .i64 (n : Int)) ∧ GR w' R s') ∨ (pairR (bl s) = none ∧ e = .panicked (gthr tE xE))) ∧ But (· = R) w w' := by
  have HC := hide (gbyte_any w h hG)
  have HG := hide hG
  clear h hG
  go_enter Tryz.func103, Tryz.ntmps103
  go_wp2_with fail
  refine (unhide HC).mono ?_
  rintro e w1 ⟨hq, hb⟩
  have HB := hide hb
  have HH := hide hq
  have HG1 := hide ((unhide HG).but hb hne)
  clear hq hb HC
  rcases unhide HH with ⟨a, s1, h1, rfl, hr1⟩ | ⟨h1, rfl⟩
  · have H1 := hide h1
    have HC := hide (gbyte_any w1 hr1 (unhide HG1))
    clear h1 hr1 HH
    go_wp2_with fail
    refine (unhide HC).mono ?_
    rintro e w2 ⟨hq, hb⟩
    have HB2 := hide ((unhide HB).trans hb)
    have HH := hide hq
    clear hq hb HC
    rcases unhide HH with ⟨b, s2, h2, rfl, hr2⟩ | ⟨h2, rfl⟩
    · have HE : Hid (pairR (bl s) = some (a.toNat + 256 * b.toNat, bl s2)) := by
        show _ = _
        rw [unhide H1, h2]
        rfl
      have H2 := hide hr2
      have ha := a.toNat_lt
      have hbb := b.toNat_lt
      obtain ⟨x, hx⟩ : ∃ x, x = a.toNat := ⟨_, rfl⟩
      obtain ⟨y, hy⟩ : ∃ y, y = b.toNat := ⟨_, rfl⟩
      rw [← hx, ← hy] at HE
      rw [← hx] at ha ⊢
      rw [← hy] at hbb ⊢
      obtain ⟨z, hz⟩ : ∃ z, z = x + 256 * y := ⟨_, rfl⟩
      rw [← hz] at HE
      obtain ⟨y2, hy2⟩ : ∃ y2, y2 = 256 * y := ⟨_, rfl⟩
      have e1 : (y : Int) * 256 = (y2 : Int) := by omega
      have e2 : (x : Int) + (y2 : Int) = (z : Int) := by omega
      have hyb : y2 < 65536 := by omega
      have hzb : z < 65536 := by omega
      clear h2 hr2 HH hx hy hz H1 hy2
      go_wp2
      go_ret
      exact ⟨.inl ⟨z, s2, unhide HE, hzb, by first | rfl | (congr 2), unhide H2⟩, unhide HB2⟩
    · have HE : Hid (pairR (bl s) = none) := by show _ = _; rw [unhide H1, h2]; rfl
      clear h2 HH
      go_wp2
      exact ⟨rfl, .inr ⟨unhide HE, rfl⟩, unhide HB2⟩
  · have HE : Hid (pairR (bl s) = none) := by show _ = _; rw [h1]; rfl
    clear h1 HH
    go_wp2
    exact ⟨rfl, .inr ⟨unhide HE, rfl⟩, unhide HB⟩

set_option maxRecDepth 100000 in
theorem rside_any (w : World) (h : GR w R s) (hG : GT w tE xE) (hne : 1 ≠ R) :
    Calls Tryz.prog 101 #[.pointer (some ⟨R, 0, none⟩)] w fun e w' => ((∃ n s', sideR (bl s) = some (n, bl s') ∧ (1 ≤ n ∧ n ≤ 256) ∧ e = .returned (.int .i64 (n : Int)) ∧ GR w' R s') ∨ (sideR (bl s) = none ∧ e = .panicked (gthr tE xE))) ∧ But (· = R) w w' := by
  have HC := hide (rpair_any w h hG hne)
  have HG := hide hG
  clear h hG
  go_enter Tryz.func101, Tryz.ntmps101
  go_wp2_with fail
  refine (unhide HC).mono ?_
  rintro e w1 ⟨hq, hb⟩
  have HB := hide hb
  have HH := hide hq
  have hG1 : w1.cell? ⟨1, 0, none⟩ = some (.iface tE xE) := (unhide HG).but hb hne
  clear hq hb HC
  rcases unhide HH with ⟨n, s1, h1, hn, rfl, hr1⟩ | ⟨h1, rfl⟩
  · by_cases hs : 1 ≤ n ∧ n ≤ 256
    · have HE : Hid (sideR (bl s) = some (n, bl s1)) := by show _ = _; unfold sideR; rw [h1]; exact if_pos hs
      have H1 := hide hr1
      have HS := hide (fun w => isSide_any (n : Int) w)
      rw [decide_eq_true (show 1 ≤ (n : Int) ∧ (n : Int) ≤ 256 by omega)] at HS
      have Hs := hide hs
      clear h1 hr1 HH hG1 hs
      go_wp2_with fail
      refine (unhide HS _).mono ?_
      rintro e w2 ⟨rfl, rfl⟩
      go_wp2
      go_ret
      exact ⟨.inl ⟨n, s1, unhide HE, unhide Hs, rfl, unhide H1⟩, unhide HB⟩
    · have HE : Hid (sideR (bl s) = none) := by show _ = _; unfold sideR; rw [h1]; exact if_neg hs
      have HS := hide (fun w => isSide_any (n : Int) w)
      rw [decide_eq_false (show ¬ (1 ≤ (n : Int) ∧ (n : Int) ≤ 256) by omega)] at HS
      clear h1 hr1 HH hs
      go_wp2_with fail
      refine (unhide HS _).mono ?_
      rintro e w2 ⟨rfl, rfl⟩
      go_wp2_with fail
      refine (gthrow_any tE xE _).mono ?_; rintro e w3 ⟨rfl, rfl⟩
      go_wp2
      exact ⟨rfl, .inr ⟨unhide HE, rfl⟩, unhide HB⟩
  · have HE : Hid (sideR (bl s) = none) := by show _ = _; unfold sideR; rw [h1]
    clear h1 HH hG1
    go_wp2
    exact ⟨rfl, .inr ⟨unhide HE, rfl⟩, unhide HB⟩
end
end Go.Proofs.YtjcoahahponabaaGreatDoor
namespace Go.Proofs.YtjcoahahponabaaGreatDoor
open Go.RowKit Lz

theorem step_appPx1 {w : World} {ops : Array Oper} {o : Oper} {a : Act} {K : Act → World → Prop} {Q : Exit → Act → World → Prop} {E : Prop} (hgd : o.guard = none) (s x : Operand)
    (ho : o.op = .call { callee := .builtin .append, args := #[s, x], argTypes := #[25, 25] }) (base q : Nat) (v : Value) (l : List Px) (p : Px) (hs : a.eval s = v) (hx : a.eval x = .slice (some ⟨q, 0, none⟩) 1 1)
    (hown : w.ownsRow base 78 4 v l.length (pxL l)) (hq : PxAt w q 0 p) (hl : l.length ≤ 1000000) (hb : base ≤ w.heap.size)
    (h : ∀ v' w', w'.ownsRow base 78 4 v' (l ++ [p]).length (pxL (l ++ [p])) → w.grownBy w' v.ownBlock → (v'.ownBlock = v.ownBlock ∨ v'.ownBlock = some w.heap.size) → K (a.put o.dst v') w') : if Region.wanted o (yielded ops a.tmps) = true then Oper.wp Tryz.prog o a w K Q else E := by
  have hw : Region.wanted o (yielded ops a.tmps) = true := by simp [Region.wanted, hgd]
  rw [if_pos hw]
  obtain ⟨v', w', h1, h2, h3, h5⟩ := app_px1 w base q v l p o.type hown hq hl hb
  unfold Oper.wp execOp
  simp only [ho, resolve, invoke, builtin, Sem.run_bind, Sem.run_pure, Result.andThen_ok, List.map_toArray, List.map_cons, List.map_nil, hs, hx, h1]
  exact h v' w' h2 h3 h5
theorem own_but {w w' : World} {base size n R : Nat} {e : TypeId} {v : Value} {xs : List Value} (h : w.ownsRow base e size v n xs) (hb : But (· = R) w w') (hR : R < base) : w'.ownsRow base e size v n xs :=
  own_stay h (fun g q => hb.block g (h.lt g q).2 (by have := (h.lt g q).1; omega))
theorem three_at (l : List UInt8) (h : 3 ≤ l.length) : ∃ r g b t, l = r :: g :: b :: t :=
  match l, h with
  | r :: g :: b :: t, _ => ⟨r, g, b, t, rfl⟩

section
variable {R : Nat} {s : ByteArray} {tE : TypeId} {xE : Value}
set_option maxHeartbeats 4000000 in
set_option maxRecDepth 100000 in
theorem rcolors_any (w : World) (h : GR w R s) (hG : GT w tE xE) (hne : 1 ≠ R) :
    Calls Tryz.prog 135 #[.pointer (some ⟨R, 0, none⟩)] w fun e w' => ((∃ U a c s', colsR (bl s) = some (U, bl s') ∧ U.length ≤ 256 ∧ 1 ≤ U.length ∧ e = .returned (.slice a U.length c) ∧ w'.ownsRow w.heap.size 78 4 (.slice a U.length c) U.length (pxL U) ∧ GR w' R s') ∨ (colsR (bl s) = none ∧ e = .panicked (gthr tE xE))) ∧ But (· = R) w w' := by
  have HC := hide (gbyte_any w h hG)
  have HG := hide hG
  have hRl := h.lt
  obtain ⟨B, hB⟩ : ∃ B, B = w.heap.size := ⟨_, rfl⟩
  clear h hG
  go_enter Tryz.func135, Tryz.ntmps135
  go_wp2_with fail
  refine (unhide HC).mono ?_
  rintro e w1 ⟨hq, hb⟩
  have HB1 := hide hb
  have HH := hide hq
  have HBE := hide hB
  have hz1 : B ≤ w1.heap.size := by have := hb.size; omega
  have hRB : R < B := by omega
  have hG1 : w1.cell? ⟨1, 0, none⟩ = some (.iface tE xE) := (unhide HG).but hb hne
  clear hq hb HC hB
  rcases unhide HH with ⟨z, s1, h1, rfl, hr1⟩ | ⟨h1, rfl⟩
  rotate_left
  · have HE : Hid (colsR (bl s) = none) := by show _ = _; rw [h1]; rfl
    clear h1 HH hG1
    go_wp2
    exact ⟨rfl, .inr ⟨unhide HE, rfl⟩, unhide HB1⟩
  have hzl := z.toNat_lt
  obtain ⟨x, hx⟩ : ∃ x, x = z.toNat := ⟨_, rfl⟩
  rw [← hx] at hzl ⊢
  by_cases hlo : x < 128
  · have HE : Hid (colsR (bl s) = none) := by show _ = _; rw [h1]; show (if 128 ≤ z.toNat ∧ z.toNat ≤ 135 then _ else none) = none; rw [if_neg (by omega)]
    have d1 : decide ((x : Int) - 128 < 0) = true := decide_eq_true (by omega)
    clear h1 hr1 HH hx
    go_wp2_with fail
    refine (gthrow_any tE xE _).mono ?_; rintro e w3 ⟨rfl, rfl⟩
    go_wp2
    exact ⟨rfl, .inr ⟨unhide HE, rfl⟩, unhide HB1⟩
  obtain ⟨y, rfl⟩ : ∃ y, x = y + 128 := ⟨x - 128, by omega⟩
  have ey : ((y + 128 : Nat) : Int) - 128 = (y : Int) := by omega
  have d0 : decide ((y : Int) < 0) = false := decide_eq_false (by omega)
  by_cases hhi : 7 < y
  · have HE : Hid (colsR (bl s) = none) := by show _ = _; rw [h1]; show (if 128 ≤ z.toNat ∧ z.toNat ≤ 135 then _ else none) = none; rw [if_neg (by omega)]
    have d1 : decide ((y : Int) > 7) = true := decide_eq_true (by omega)
    have d1' : decide ((7 : Int) < (y : Int)) = true := d1
    have d1n : decide (7 < y) = true := decide_eq_true hhi
    have eyc : (y : Int) + 128 - 128 = (y : Int) := by omega
    clear h1 hr1 HH hx ey
    go_wp2_with fail
    refine (gthrow_any tE xE _).mono ?_; rintro e w3 ⟨rfl, rfl⟩
    go_wp2
    exact ⟨rfl, .inr ⟨unhide HE, rfl⟩, unhide HB1⟩
  have d1 : decide ((y : Int) > 7) = false := decide_eq_false (by omega)
  have d1' : decide ((7 : Int) < (y : Int)) = false := d1
  have d1n : decide (7 < y) = false := decide_eq_false hhi
  have eyc : (y : Int) + 128 - 128 = (y : Int) := by omega
  have HRo := hide (fun w => roomOf_any y w (by omega))
  have hr256 : 2 * 2 ^ y ≤ 256 ∧ 1 ≤ 2 * 2 ^ y := by
    have := Nat.pow_le_pow_right (n := 2) (by omega) (show y ≤ 7 by omega)
    have := Nat.two_pow_pos y
    omega
  have HE : Hid (colsR (bl s) = colN (2 * 2 ^ y) (bl s1)) := by
    show _ = _
    rw [h1]
    show (if 128 ≤ z.toNat ∧ z.toNat ≤ 135 then _ else _) = _
    rw [if_pos (by omega), show z.toNat - 128 = y by omega]
  obtain ⟨room, hroom⟩ : ∃ room, room = 2 * 2 ^ y := ⟨_, rfl⟩
  rw [← hroom] at HRo HE hr256
  have HR1 := hide hr1
  have HO0 : Hid (w1.ownsRow B 78 4 (.slice none 0 0) ([] : List Px).length (pxL [])) := World.ownsRow_nil _ _ _ _
  obtain ⟨G, hGG⟩ : ∃ G, G = colN room (bl s1) := ⟨_, rfl⟩
  have HGG : Hid (G = (colN (room - 0) (bl s1)).map fun x => (([] : List Px) ++ x.1, x.2)) := by
    show _ = _
    rw [hGG]
    simp
  rw [← hGG] at HE
  clear h1 hr1 HH hx ey hroom hGG hG1
  go_wp2_with fail
  refine (unhide HRo _).mono ?_
  rintro e w2 ⟨rfl, rfl⟩
  go_wp2
  go_loopw [4, 19] (fun lv iv wr => ∃ (i : Nat) (acc : List Px) (s' : ByteArray), i ≤ room ∧ acc.length = i ∧ iv = .int .i64 (i : Int) ∧ Hid (wr.ownsRow B 78 4 lv acc.length (pxL acc)) ∧ Hid (GR wr R s') ∧ Hid (G = (colN (room - i) (bl s')).map fun x => (acc ++ x.1, x.2)) ∧ Hid (But (· = R) w wr) ∧ B ≤ wr.heap.size) (fun _ iv _ => room - (intOf iv).toNat)
  case atStart => exact ⟨0, [], s1, by omega, rfl, rfl, HO0, HR1, HGG, HB1, hz1⟩
  case round =>
    clear HO0 HR1 HGG HB1 hz1
    obtain ⟨i, acc, s', hi, hal, rfl, HO, HRr, HGr, HB, hz⟩ := hrel
    obtain ⟨na, nc, rfl⟩ := own_shape4 (unhide HO)
    by_cases hlt : i < room
    · have g1 : decide ((i : Int) < (room : Int)) = true := decide_eq_true (by omega)
      have g1n : decide (i < room) = true := decide_eq_true hlt
      have hii : (i : Int) < (room : Int) := by omega
      have HC := hide (gtake_any 3 wr (unhide HRr) ((unhide HG).but (unhide HB) hne))
      have hacl : acc.length ≤ 300 := by omega
      rw [hal] at HO ⊢
      have HAL := hide hal
      clear hal
      go_wp2_with fail
      refine (unhide HC).mono ?_
      rintro e w3 ⟨hq, hb⟩
      have HH := hide hq
      have HB3 := hide ((unhide HB).trans hb)
      have HO3 := hide (own_but (unhide HO) hb hRB)
      have hz3 : B ≤ w3.heap.size := by have := hb.size; omega
      clear hq hb HC HB HO hz
      rcases unhide HH with ⟨hl, q, s2, hq, hs2, rfl, hr⟩ | ⟨hl, rfl⟩
      · obtain ⟨r, g, b, t, hrgb⟩ := three_at _ hl
        have HS : Hid (G = (colN (room - (i + 1)) (bl s2)).map fun x => ((acc ++ [⟨r, g, b, 255⟩]) ++ x.1, x.2)) := by
          show _ = _
          rw [unhide HGr, show room - i = (room - (i + 1)) + 1 by omega, hrgb, colN_step, hs2, hrgb]
          show Option.map _ (Option.map _ _) = Option.map _ (colN _ t)
          rw [Option.map_map]
          congr 1
          funext x
          simp
        have hqs : q.size = 3 := by have := bl_len q; rw [hq, List.length_take] at this; omega
        have hq3 : q.data.toList = [r, g, b] := by have := hq; rw [hrgb] at this; simpa [bl] using this
        have k0 : q[0] = r := by
          have : q.data.toList[0]'(by rw [hq3]; simp) = r := by simp [hq3]
          rw [← this]; simp; rfl
        have k1 : q[1] = g := by
          have : q.data.toList[1]'(by rw [hq3]; simp) = g := by simp [hq3]
          rw [← this]; simp; rfl
        have k2 : q[2] = b := by
          have : q.data.toList[2]'(by rw [hq3]; simp) = b := by simp [hq3]
          rw [← this]; simp; rfl
        have HR2 := hide hr
        have i0 : (0 : Int) < (q.size : Int) := by omega
        have i1 : (1 : Int) < (q.size : Int) := by omega
        have i2 : (2 : Int) < (q.size : Int) := by omega
        have m0 : (0 : Nat) < q.size := by omega
        have m1 : (1 : Nat) < q.size := by omega
        have m2 : (2 : Nat) < q.size := by omega
        clear hq hs2 hr HH hl hrgb HGr HRr hq3
        have HOa := hide ((unhide HO3).drew.alloc (.cells #[.int .u8 (r.toNat : Int), .int .u8 (g.toNat : Int), .int .u8 (b.toNat : Int), .int .u8 255] 78))
        have HPx : Hid (PxAt (w3.drew.alloc (.cells #[.int .u8 (r.toNat : Int), .int .u8 (g.toNat : Int), .int .u8 (b.toNat : Int), .int .u8 255] 78)) w3.heap.size 0 ⟨r, g, b, 255⟩) := four_new w3.drew ⟨r, g, b, 255⟩ 78
        have HZA : Hid ((w3.drew.alloc (.cells #[.int .u8 (r.toNat : Int), .int .u8 (g.toNat : Int), .int .u8 (b.toNat : Int), .int .u8 255] 78)).heap.size = w3.heap.size + 1) := by show (w3.drew.alloc _).heap.size = w3.drew.heap.size + 1; simp
        have HBa := hide ((unhide HB3).drew.alloc (.cells #[.int .u8 (r.toNat : Int), .int .u8 (g.toNat : Int), .int .u8 (b.toNat : Int), .int .u8 255] 78))
        have HRa : Hid (GR (w3.drew.alloc (.cells #[.int .u8 (r.toNat : Int), .int .u8 (g.toNat : Int), .int .u8 (b.toNat : Int), .int .u8 255] 78)) R s2) := blk_alloc (w := w3.drew) (unhide HR2) _
        go_wp2_with fail
        go_region_law (first | (refine step_appPx1 rfl (.tmp 23) (.tmp 31) rfl B w3.heap.size (.slice na i nc) acc ⟨r, g, b, 255⟩ (by simp [Act.eval]) (by simp [Act.eval]) (by rw [unhide HAL]; exact unhide HOa) (unhide HPx) (by omega) (by first | (have := unhide HZA; omega) | (show B ≤ (w3.alloc _).heap.size; simp; omega)) ?_; intro v6 w6 ho6 hg6 hat6))
        all_goals
          have hg6 : (w3.drew.alloc (.cells #[.int .u8 (r.toNat : Int), .int .u8 (g.toNat : Int), .int .u8 (b.toNat : Int), .int .u8 255] 78)).grownBy w6 (Value.slice na i nc).ownBlock := hg6
          have hz6 := hg6.size
          have hza := unhide HZA
          have hno : ∀ k, (Value.slice na i nc).ownBlock = some k → B ≤ k := fun k e => ((unhide HO3).lt k e).1
          have HB6 : Hid (But (· = R) w w6) := (unhide HBa).grown hg6 (fun k e hk => by have := hno k e; have := unhide HBE; omega)
          have HR6 : Hid (GR w6 R s2) := (hg6.block R (by have := (unhide HRa).lt; omega) (fun e => by have := hno R e.symm; omega)).trans (unhide HRa)
          have HO6 := hide ho6
          have hz7 : B ≤ w6.heap.size := by omega
          have hal6 : (acc ++ [(⟨r, g, b, 255⟩ : Px)]).length = i + 1 := by have := unhide HAL; rw [List.length_append]; simp; omega
          clear ho6 hg6 hat6 hno hz6 hza HOa HPx HZA HBa HRa HO3 HB3 HR2
          go_wp2
          go_roundw
          case rel => exact ⟨i + 1, _, s2, by omega, hal6, by go_num, HO6, HR6, HS, HB6, hz7⟩
          case measure => simp [intOf]; omega
      · have HN : Hid (G = none) := by
          show _ = _
          rw [unhide HGr, show room - i = (room - (i + 1)) + 1 by omega, colN_short _ _ hl]
          rfl
        clear hl HH HGr HRr HO3
        go_wp2
        exact ⟨rfl, .inr ⟨by rw [unhide HE, unhide HN], rfl⟩, unhide HB3⟩
    · obtain rfl : i = room := by omega
      have g1 : decide ((i : Int) < (i : Int)) = false := by simp
      have HS : Hid (colsR (bl s) = some (acc, bl s')) := by
        show _ = _
        rw [unhide HE, unhide HGr, Nat.sub_self]
        simp [colN]
      have HAL := hide hal
      clear HE HGr HG
      go_wp2
      go_ret
      refine ⟨.inl ⟨acc, na, nc, s', unhide HS, by omega, by omega, rfl, ?_, unhide HRr⟩, unhide HB⟩
      rw [← unhide HBE]
      exact unhide HO
end
end Go.Proofs.YtjcoahahponabaaGreatDoor
