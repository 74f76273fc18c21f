/- Moving pictures: the program's reader: all frames. Written by gengr5.py. -/
import Derived.Test.YtjcoahahponabaaGreatDoorGr4
import Derived.Test.YtjcoahahponabaaGreatDoorMh12
namespace Go.Proofs.YtjcoahahponabaaGreatDoor
open Go.RowKit Lz

def frsR (W H : Nat) : Nat → List UInt8 → Option (List Rf)
  | k, l => match pfx [59] l with
    | some _ => some []
    | none => match k with
      | 0 => none
      | k + 1 => match frA W H l with
        | none => none
        | some x => (frsR W H k x.2).map fun y => x.1 :: y
/-- What a file tells. -/
structure Fil where
  W : Nat
  H : Nat
  L : List Rf
  loops : Nat
def filE (W H loops : Nat) (l : List UInt8) : Option Fil := (frsR W H 16 l).map fun L => ⟨W, H, L, loops⟩
def filD2 (W H n : Nat) (l : List UInt8) : Option Fil := match pfx [0] l with
  | none => none
  | some r => filE W H n r
def filD1 (W H : Nat) (l : List UInt8) : Option Fil := match pairR l with
  | none => none
  | some x => filD2 W H x.1 x.2
def filD (W H : Nat) (l : List UInt8) : Option Fil := match pfx [33, 255, 11, 78, 69, 84, 83, 67, 65, 80, 69, 50, 46, 48, 3, 1] l with
  | none => filE W H 0 l
  | some r => filD1 W H r
def filC (W H : Nat) (l : List UInt8) : Option Fil := match pfx [112, 0, 0] l with
  | none => none
  | some r => filD W H r
def filB2 (W : Nat) (l : List UInt8) : Option Fil := match sideR l with
  | none => none
  | some x => filC W x.1 x.2
def filB (l : List UInt8) : Option Fil := match sideR l with
  | none => none
  | some x => filB2 x.1 x.2
def filA (l : List UInt8) : Option Fil := match pfx [71, 73, 70, 56, 57, 97] l with
  | none => none
  | some r => filB r
theorem frsR_end {W H k : Nat} {l r : List UInt8} (h : pfx [59] l = some r) : frsR W H k l = some [] := by
  cases k <;> (unfold frsR; rw [h])
theorem frsR_none {W H : Nat} {l : List UInt8} (h : pfx [59] l = none) : frsR W H 0 l = none := by unfold frsR; rw [h]
theorem frsR_bad {W H k : Nat} {l : List UInt8} (h : pfx [59] l = none) (h2 : frA W H l = none) : frsR W H (k + 1) l = none := by unfold frsR; rw [h]; simp only; rw [h2]
theorem frsR_step {W H k : Nat} {l r : List UInt8} {f : Rf} (h : pfx [59] l = none) (h2 : frA W H l = some (f, r)) : frsR W H (k + 1) l = (frsR W H k r).map fun y => f :: y := by
  conv => lhs; unfold frsR
  rw [h]; simp only; rw [h2]
theorem sideR_le {l r : List UInt8} {n : Nat} (h : sideR l = some (n, r)) : r.length ≤ l.length := by
  unfold sideR at h
  cases hq : pairR l with
  | none => rw [hq] at h; simp at h
  | some x =>
    rw [hq] at h
    simp only at h
    split at h
    · injection h with h
      exact pairR_le (n := n) (by rw [hq, h])
    · simp at h

/-- A frame that was read, and where its pixels lie. -/
def rfV (W H : Nat) (f : Rf) (a : Option Addr) (c : Nat) : FrV := ⟨⟨W, H, f.P.length, fun k => f.P.getD k default, f.d⟩, a, c⟩
theorem gF_info : (Tryz.prog.info? 92).map (fun i => (i.zero, i.size, i.bytes)) = some (some (.agg #[.int .i64 0, .int .i64 0, .slice none 0 0, .int .i64 0]), 4, 48) := by kernel_rfl
/-- A frame behind frames of one's own. -/
theorem wpList_appFr (w : World) {ops : Array Oper} {rest : List Oper} {o : Oper} {a : Act} {Q : Exit → Act → World → Prop} (hgd : o.guard = none) (sx x : Operand)
    (ho : o.op = .call { callee := .builtin .append, args := #[sx, x], argTypes := #[59, 59] }) (base q n c : Nat) (s : Option Addr) (F : List Value) (V : FrV) (hs : a.eval sx = .slice s n c) (hx : a.eval x = .slice (some ⟨q, 0, none⟩) 1 1)
    (hown : w.ownsRow base 92 4 (.slice s n c) n F) (hq : w.heap[q]? = some (.cells V.cells.toArray 92)) (hn : n ≤ 100000) (hbase : base ≤ w.heap.size)
    (h : ∀ g cap w', w'.ownsRow base 92 4 (.slice (some ⟨g, 0, none⟩) (n + 1) cap) (n + 1) (F ++ V.cells) → w.grownBy w' (Value.slice s n c).ownBlock → ((Value.slice s n c).ownBlock = some g ∨ g = w.heap.size) → g < w'.heap.size → wpList Tryz.prog ops Q rest (a.put o.dst (.slice (some ⟨g, 0, none⟩) (n + 1) cap)) w') : wpList Tryz.prog ops Q (o :: rest) a w := by
  obtain ⟨i0, hi, hz0, hz1, hz2⟩ := info_parts gF_info
  exact wpList_append_lies w hgd sx x 59 ho base 92 i0 _ 4 48 Tryz.underlying59 hi hz0 hz1 hz2 rfl (by omega) _ n F hs hown ⟨q, 0, none⟩ 1 1 V.cells hx rfl (fun j u hj => by
    have hadd : (⟨q, 0, none⟩ : Addr).add j = ⟨q, j, none⟩ := by unfold Addr.add; split <;> simp_all
    rw [hadd, blk_cell hq]
    simpa using hj) (fun u hu => by
    simp only [FrV.cells, List.mem_cons, List.not_mem_nil, or_false] at hu
    rcases hu with rfl | rfl | rfl | rfl <;> rfl) (by omega) (by unfold maxLen; omega) (by omega) hbase _ rfl h

/-- The frames that were read so far. -/
structure RdA (W H : Nat) (acc : List Rf) (w : World) (tv : Value) (U : FrV) (j : Nat) : Prop where
  eq : ∃ f a c, acc[j]? = some f ∧ U = rfV W H f a c ∧ f.P.length ≤ W * H ∧ f.d < 65536
  is : U.in w
  n1 : ∀ x, U.a = some x → 0 < U.f.n → tv.ownBlock ≠ some x.block

section
variable {R : Nat} {s : ByteArray} {tE tB : TypeId} {xE xB : Value}
set_option maxHeartbeats 16000000 in
set_option maxRecDepth 100000 in
theorem rframes_any (w : World) (h : GR w R s) (hG : GT w tE xE) (hB : w.cell? ⟨0, 0, none⟩ = some (.iface tB xB)) (hne : 1 ≠ R) (hne2 : 0 ≠ R) (hs : s.size ≤ 300000) :
    Calls Tryz.prog 73 #[.pointer (some ⟨R, 0, none⟩)] w fun e w' => ((∃ (F : Fil) (ta : Option Addr) (tc : Nat) (U : Nat → FrV), filA (bl s) = some F ∧ (1 ≤ F.W ∧ F.W ≤ 256) ∧ (1 ≤ F.H ∧ F.H ≤ 256) ∧ F.loops < 65536 ∧ F.L.length ≤ 16 ∧ e = .returned (.tuple #[.slice ta F.L.length tc, .int .i64 (F.loops : Int)]) ∧ w'.ownsRow w.heap.size 92 4 (.slice ta F.L.length tc) F.L.length (rowV (fun j => (U j).cells) F.L.length) ∧ ∀ j, j < F.L.length → RdA F.W F.H F.L w' (.slice ta F.L.length tc) (U j) j) ∨ (filA (bl s) = none ∧ e = .panicked (gthr tE xE))) ∧ But (· = R) w w' := by
  have HG := hide (fun wr (hb : But (· = R) w wr) => hG.but hb hne)
  have HGB := hide (fun wr (hb : But (· = R) w wr) => ((hb.cell (p := ⟨0, 0, none⟩) (World.block_lt_of_cell? _ _ hB) hne2).trans hB))
  have hRl := h.lt
  have HR := hide h
  have HB : Hid (But (· = R) w w) := But.refl _ _
  obtain ⟨B, hBB⟩ : ∃ B, B = w.heap.size := ⟨_, rfl⟩
  have HBE := hide hBB
  have hRB : R < B := by omega
  have hz : B ≤ w.heap.size := by omega
  clear h hG hB hBB
  have HFA : Hid (filA (bl s) = match pfx [71, 73, 70, 56, 57, 97] (bl s) with | none => none | some r => filB r) := rfl
  go_enter Tryz.func73, Tryz.ntmps73
  have HC := hide (gpass_any ⟨#[71, 73, 70, 56, 57, 97]⟩ w (unhide HR) (unhide HG _ (unhide HB)) hne)
  go_wp2_with fail
  refine (unhide HC).mono ?_
  rintro e w1 ⟨hq, hb⟩
  have HH := hide hq
  have HBx := hide ((unhide HB).trans hb)
  have hzx : B ≤ w1.heap.size := by have := hb.size; omega
  clear hq hb HC HB HR hz
  rcases unhide HH with ⟨s1, h1, rfl, hr⟩ | ⟨h1, rfl⟩
  rotate_left
  · have HE : Hid (filA (bl s) = none) := by show _ = _; rw [unhide HFA]; rw [show pfx [71, 73, 70, 56, 57, 97] (bl s) = none from h1]
    clear HH h1
    go_wp2
    exact ⟨rfl, .inr ⟨unhide HE, rfl⟩, unhide HBx⟩
  have HFA : Hid (filA (bl s) = filB (bl s1)) := by show _ = _; rw [unhide HFA]; rw [show pfx [71, 73, 70, 56, 57, 97] (bl s) = some (bl s1) from h1]
  have hle : s1.size ≤ s.size := by have := pfx_le h1; rw [bl_len, bl_len] at this; exact this
  have HR := hide hr
  have HB := HBx
  have hz := hzx
  clear h1 hr HH HBx hzx
  have HC := hide (rside_any w1 (unhide HR) (unhide HG _ (unhide HB)) hne)
  go_wp2_with fail
  refine (unhide HC).mono ?_
  rintro e w2 ⟨hq, hb⟩
  have HH := hide hq
  have HBx := hide ((unhide HB).trans hb)
  have hzx : B ≤ w2.heap.size := by have := hb.size; omega
  clear hq hb HC HB HR hz
  rcases unhide HH with ⟨W, s2, h1, hW, rfl, hr⟩ | ⟨h1, rfl⟩
  rotate_left
  · have HE : Hid (filA (bl s) = none) := by show _ = _; rw [unhide HFA]; unfold filB; rw [h1]
    clear HH h1
    go_wp2
    exact ⟨rfl, .inr ⟨unhide HE, rfl⟩, unhide HBx⟩
  have HFA : Hid (filA (bl s) = filB2 W (bl s2)) := by show _ = _; rw [unhide HFA]; unfold filB; rw [h1]
  have hle : s2.size ≤ s.size := by have h2 := sideR_le h1; rw [bl_len, bl_len] at h2; omega
  have HR := hide hr
  have HB := HBx
  have hz := hzx
  clear h1 hr HH HBx hzx
  have HC := hide (rside_any w2 (unhide HR) (unhide HG _ (unhide HB)) hne)
  go_wp2_with fail
  refine (unhide HC).mono ?_
  rintro e w3 ⟨hq, hb⟩
  have HH := hide hq
  have HBx := hide ((unhide HB).trans hb)
  have hzx : B ≤ w3.heap.size := by have := hb.size; omega
  clear hq hb HC HB HR hz
  rcases unhide HH with ⟨H, s3, h1, hH, rfl, hr⟩ | ⟨h1, rfl⟩
  rotate_left
  · have HE : Hid (filA (bl s) = none) := by show _ = _; rw [unhide HFA]; unfold filB2; rw [h1]
    clear HH h1
    go_wp2
    exact ⟨rfl, .inr ⟨unhide HE, rfl⟩, unhide HBx⟩
  have HFA : Hid (filA (bl s) = filC W H (bl s3)) := by show _ = _; rw [unhide HFA]; unfold filB2; rw [h1]
  have hle : s3.size ≤ s.size := by have h2 := sideR_le h1; rw [bl_len, bl_len] at h2; omega
  have HR := hide hr
  have HB := HBx
  have hz := hzx
  clear h1 hr HH HBx hzx
  have HC := hide (gpass_any ⟨#[112, 0, 0]⟩ w3 (unhide HR) (unhide HG _ (unhide HB)) hne)
  go_wp2_with fail
  refine (unhide HC).mono ?_
  rintro e w4 ⟨hq, hb⟩
  have HH := hide hq
  have HBx := hide ((unhide HB).trans hb)
  have hzx : B ≤ w4.heap.size := by have := hb.size; omega
  clear hq hb HC HB HR hz
  rcases unhide HH with ⟨s4, h1, rfl, hr⟩ | ⟨h1, rfl⟩
  rotate_left
  · have HE : Hid (filA (bl s) = none) := by show _ = _; rw [unhide HFA]; unfold filC; rw [show pfx [112, 0, 0] (bl s3) = none from h1]
    clear HH h1
    go_wp2
    exact ⟨rfl, .inr ⟨unhide HE, rfl⟩, unhide HBx⟩
  have HFA : Hid (filA (bl s) = filD W H (bl s4)) := by show _ = _; rw [unhide HFA]; unfold filC; rw [show pfx [112, 0, 0] (bl s3) = some (bl s4) from h1]
  have hle : s4.size ≤ s.size := by have h2 := pfx_le h1; rw [bl_len, bl_len] at h2; omega
  have HR := hide hr
  have HB := HBx
  have hz := hzx
  clear h1 hr HH HBx hzx
  have HC := hide (goesOn_any ⟨#[33, 255, 11, 78, 69, 84, 83, 67, 65, 80, 69, 50, 46, 48, 3, 1]⟩ w4 (unhide HR))
  go_wp2_with fail
  refine (unhide HC).mono ?_
  rintro e w5 ⟨hq, hb⟩
  have HH := hide hq
  have HBx := hide ((unhide HB).trans hb)
  have hzx : B ≤ w5.heap.size := by have := hb.size; omega
  clear hq hb HC HB HR hz
  rcases unhide HH with ⟨s5, h1, rfl, hr⟩ | ⟨h1, rfl, hr⟩
  · have HFA : Hid (filA (bl s) = filD1 W H (bl s5)) := by show _ = _; rw [unhide HFA]; unfold filD; rw [show pfx [33, 255, 11, 78, 69, 84, 83, 67, 65, 80, 69, 50, 46, 48, 3, 1] (bl s4) = some (bl s5) from h1]
    have hle : s5.size ≤ s.size := by have h2 := pfx_le h1; rw [bl_len, bl_len] at h2; omega
    have HR := hide hr
    have HB := HBx
    have hz := hzx
    clear h1 hr HH HBx hzx
    have HC := hide (rpair_any w5 (unhide HR) (unhide HG _ (unhide HB)) hne)
    go_wp2_with fail
    refine (unhide HC).mono ?_
    rintro e w6 ⟨hq, hb⟩
    have HH := hide hq
    have HBx := hide ((unhide HB).trans hb)
    have hzx : B ≤ w6.heap.size := by have := hb.size; omega
    clear hq hb HC HB HR hz
    rcases unhide HH with ⟨lp, s6, h1, hlp, rfl, hr⟩ | ⟨h1, rfl⟩
    rotate_left
    · have HE : Hid (filA (bl s) = none) := by show _ = _; rw [unhide HFA]; unfold filD1; rw [h1]
      clear HH h1
      go_wp2
      exact ⟨rfl, .inr ⟨unhide HE, rfl⟩, unhide HBx⟩
    have HFA : Hid (filA (bl s) = filD2 W H lp (bl s6)) := by show _ = _; rw [unhide HFA]; unfold filD1; rw [h1]
    have hle : s6.size ≤ s.size := by have h2 := pairR_le h1; rw [bl_len, bl_len] at h2; omega
    have HR := hide hr
    have HB := HBx
    have hz := hzx
    clear h1 hr HH HBx hzx
    have HC := hide (gpass_any ⟨#[0]⟩ w6 (unhide HR) (unhide HG _ (unhide HB)) hne)
    go_wp2_with fail
    refine (unhide HC).mono ?_
    rintro e w7 ⟨hq, hb⟩
    have HH := hide hq
    have HBx := hide ((unhide HB).trans hb)
    have hzx : B ≤ w7.heap.size := by have := hb.size; omega
    clear hq hb HC HB HR hz
    rcases unhide HH with ⟨s7, h1, rfl, hr⟩ | ⟨h1, rfl⟩
    rotate_left
    · have HE : Hid (filA (bl s) = none) := by show _ = _; rw [unhide HFA]; unfold filD2; rw [show pfx [0] (bl s6) = none from h1]
      clear HH h1
      go_wp2
      exact ⟨rfl, .inr ⟨unhide HE, rfl⟩, unhide HBx⟩
    have HFA : Hid (filA (bl s) = filE W H lp (bl s7)) := by show _ = _; rw [unhide HFA]; unfold filD2; rw [show pfx [0] (bl s6) = some (bl s7) from h1]
    have hle : s7.size ≤ s.size := by have h2 := pfx_le h1; rw [bl_len, bl_len] at h2; omega
    have HR := hide hr
    have HB := HBx
    have hz := hzx
    clear h1 hr HH HBx hzx
    obtain ⟨G, hGd⟩ : ∃ G, G = frsR W H 16 (bl s7) := ⟨_, rfl⟩
    have HGG : Hid (G = (frsR W H (16 - 0) (bl s7)).map fun x => (([] : List Rf) ++ x)) := by show _ = _; rw [hGd]; simp
    have HFE : Hid (filA (bl s) = G.map fun L => ⟨W, H, L, lp⟩) := by show _ = _; rw [unhide HFA, hGd]; rfl
    have HO0 : Hid (w7.ownsRow B 92 4 (.slice none 0 0) 0 (rowV (fun j => ((fun _ => default : Nat → FrV) j).cells) 0)) := World.ownsRow_nil _ _ _ _
    have HU0 : Hid (∀ j, j < 0 → RdA W H [] w7 (.slice none 0 0) ((fun _ => default : Nat → FrV) j) j) := fun j hj => absurd hj (Nat.not_lt_zero j)
    clear HFA hGd
    go_wp2
    go_loopw [2] (fun tv wr => ∃ (i : Nat) (acc : List Rf) (ta : Option Addr) (tc : Nat) (U : Nat → FrV) (s' : ByteArray), i ≤ 16 ∧ acc.length = i ∧ tv = .slice ta i tc ∧ s'.size ≤ s.size ∧ Hid (wr.ownsRow B 92 4 (.slice ta i tc) i (rowV (fun j => (U j).cells) i)) ∧ Hid (∀ j, j < i → RdA W H acc wr (.slice ta i tc) (U j) j) ∧ Hid (GR wr R s') ∧ Hid (G = (frsR W H (16 - i) (bl s')).map fun x => (acc ++ x)) ∧ Hid (But (· = R) w wr) ∧ B ≤ wr.heap.size) (fun tv _ => (match tv with | .slice _ k _ => 17 - k | _ => 0))
    case atStart => exact ⟨0, [], none, 0, _, s7, by omega, rfl, rfl, hle, HO0, HU0, HR, HGG, HB, hz⟩
    case round =>
      clear HO0 HU0 HR HGG HB hz
      obtain ⟨i, acc, ta, tc, U, s', hi, hal, rfl, hs', HO, HU, HR, HGr, HB, hz⟩ := hrel
      have HC := hide (goesOn_any ⟨#[59]⟩ wr (unhide HR))
      go_wp2_with fail
      refine (unhide HC).mono ?_
      rintro e wa ⟨hq, hb⟩
      have HH := hide hq
      have HBx := hide ((unhide HB).trans hb)
      have hzx : B ≤ wa.heap.size := by have := hb.size; omega
      have HO2 := hide (own_but (unhide HO) hb hRB)
      have HU2 : Hid (∀ j, j < i → RdA W H acc wa (.slice ta i tc) (U j) j) := fun j hj => by
        have h := unhide HU j hj
        exact ⟨h.eq, px_but h.is (unhide HR) hb, h.n1⟩
      clear hq hb HC HB HR hz HO HU
      rcases unhide HH with ⟨s2', h1, rfl, hr⟩ | ⟨h1, rfl, hr⟩
      · have HE : Hid (filA (bl s) = some ⟨W, H, acc, lp⟩) := by
          show _ = _
          rw [unhide HFE, unhide HGr, frsR_end (show pfx [59] (bl s') = some (bl s2') from h1)]
          simp
        have HAL := hide hal
        clear h1 hr HH HGr HFE
        go_wp2
        go_ret2
        refine ⟨.inl ⟨⟨W, H, acc, lp⟩, ta, tc, U, unhide HE, hW, hH, hlp, by show acc.length ≤ 16; omega, ?_, ?_, ?_⟩, unhide HBx⟩
        · show _ = Ending.returned (.tuple #[.slice ta acc.length tc, _])
          rw [unhide HAL]
          rfl
        · show World.ownsRow _ _ _ _ (.slice ta acc.length tc) acc.length _
          rw [unhide HAL, ← unhide HBE]
          exact unhide HO2
        · show ∀ j, j < acc.length → RdA W H acc _ (.slice ta acc.length tc) (U j) j
          rw [unhide HAL]
          exact unhide HU2
      have HR := hide hr
      have HB := HBx
      have hz := hzx
      have h59 : pfx [59] (bl s') = none := h1
      have H59 := hide h59
      clear h1 hr HH HBx hzx h59
      by_cases h16 : i = 16
      · have HE : Hid (filA (bl s) = none) := by
          show _ = _
          rw [unhide HFE, unhide HGr, h16, Nat.sub_self, frsR_none (unhide H59)]
          rfl
        have hG1 : wa.cell? ⟨1, 0, none⟩ = some (.iface tE xE) := unhide HG _ (unhide HB)
        have g16 : ((i : Int) == 16) = true := by rw [beq_iff_eq]; omega
        clear HGr HFE HO2 HU2
        go_wp2_with fail
        refine (gthrow_any tE xE _).mono ?_; rintro e w9 ⟨rfl, rfl⟩
        go_wp2
        exact ⟨rfl, .inr ⟨unhide HE, rfl⟩, unhide HB⟩
      have g16 : ((i : Int) == 16) = false := by rw [beq_eq_false_iff_ne]; omega
      have HC := hide (rframe_any W H wa (unhide HR) (unhide HG _ (unhide HB)) (unhide HGB _ (unhide HB)) hne hne2 (by omega) hW hH)
      go_wp2_with fail
      refine (unhide HC).mono ?_
      rintro e wb ⟨hq, hb⟩
      have HH := hide hq
      have HBx := hide ((unhide HB).trans hb)
      have hzx : B ≤ wb.heap.size := by have := hb.size; omega
      have HO3 := hide (own_but (unhide HO2) hb hRB)
      have HU3 : Hid (∀ j, j < i → RdA W H acc wb (.slice ta i tc) (U j) j) := fun j hj => by
        have h := unhide HU2 j hj
        exact ⟨h.eq, px_but h.is (unhide HR) hb, h.n1⟩
      clear hq hb HC HB hz
      rcases unhide HH with ⟨f, fa, fc, s2', h1, hP, hfd, hs2, rfl, ho, hr⟩ | ⟨h1, rfl⟩
      rotate_left
      · have HE : Hid (filA (bl s) = none) := by
          show _ = _
          rw [unhide HFE, unhide HGr, show 16 - i = (16 - (i + 1)) + 1 by omega, frsR_bad (unhide H59) h1]
          rfl
        clear HH h1 HGr HFE HO2 HU2 HO3 HU3
        go_wp2
        exact ⟨rfl, .inr ⟨unhide HE, rfl⟩, unhide HBx⟩
      have HGn : Hid (G = (frsR W H (16 - (i + 1)) (bl s2')).map fun x => ((acc ++ [f]) ++ x)) := by
        show _ = _
        rw [unhide HGr, show 16 - i = (16 - (i + 1)) + 1 by omega, frsR_step (unhide H59) h1, Option.map_map]
        congr 1
        funext x
        simp
      have HPx : Hid (IsPx wb fa f.P.length (fun k => f.P.getD k default)) := by
        have hP2 : f.P.length ≤ 65536 := Nat.le_trans hP (Nat.mul_le_mul hW.2 hH.2)
        have h := ho
        rw [pxL_vals] at h
        exact own_px h (by unfold maxLen; omega)
      have HN1 : Hid (∀ x, fa = some x → (Value.slice ta i tc).ownBlock ≠ some x.block) := fun x e q => by
        subst e
        have h1 := (ho.lt x.block rfl).1
        have h2 := ((unhide HO2).lt _ q).2
        omega
      have HP := hide hP
      have HRb := hide hr
      clear h1 ho hr HH HGr HO2 HU2 HR hP H59
      obtain ⟨T, hT⟩ : ∃ T : FrV, T = rfV W H f fa fc := ⟨_, rfl⟩
      have HT := hide hT
      have HCL : Hid (T.cells = [.int .i64 (W : Int), .int .i64 (H : Int), .slice fa f.P.length fc, .int .i64 (f.d : Int)]) := by show _ = _; rw [hT]; rfl
      have HAx := hide (al1 wb (.cells #[.int .i64 (W : Int), .int .i64 (H : Int), .slice fa f.P.length fc, .int .i64 (f.d : Int)] 92))
      have HKx : Hid ((wb.alloc (.cells #[.int .i64 (W : Int), .int .i64 (H : Int), .slice fa f.P.length fc, .int .i64 (f.d : Int)] 92)).heap[wb.heap.size]? = some (.cells T.cells.toArray 92)) := by
        show _ = _
        rw [unhide HCL]
        exact (unhide HAx).k0
      have HOx := hide (own_belowG (unhide HO3) (unhide HAx).below)
      have HSx : Hid (B ≤ (wb.alloc (.cells #[.int .i64 (W : Int), .int .i64 (H : Int), .slice fa f.P.length fc, .int .i64 (f.d : Int)] 92)).heap.size) := by
        show _ ≤ _
        rw [(unhide HAx).size]
        omega
      clear hT
      go_wp2_with (at_builtin; refine wpList_appFr _ rfl (.tmp 28) (.tmp 33) rfl B wb.heap.size i tc ta (rowV (fun j => (U j).cells) i) T rfl rfl (unhide HOx) (unhide HKx) (by omega) (unhide HSx) ?_)
      intro g cap w9 hown hgr hat hgl
      generalize wb.alloc (.cells #[.int .i64 (W : Int), .int .i64 (H : Int), .slice fa f.P.length fc, .int .i64 (f.d : Int)] 92) = wc at *
      have hsa := (unhide HAx).size
      have hba := (unhide HAx).below
      have hne' : ∀ k, (Value.slice ta i tc).ownBlock = some k → B ≤ k := fun k e => ((unhide HO3).lt k e).1
      have HB9 : Hid (But (· = R) w w9) := ((unhide HBx).of_below hba (fun k h1 h2 => by have := unhide HBE; omega)).grown hgr (fun k e hk => by have := hne' k e; have := unhide HBE; omega)
      have hz9 : B ≤ w9.heap.size := by have := hgr.size; omega
      have HR9 : Hid (GR w9 R s2') := (hgr.block R (by have := (unhide HRb).lt; omega) (fun e => by have := hne' R e.symm; omega)).trans ((unhide HRb).below hba (unhide HRb).lt)
      have HUn : Hid (∀ j, j < i + 1 → RdA W H (acc ++ [f]) w9 (.slice (some ⟨g, 0, none⟩) (i + 1) cap) ((fun j => if j = i then T else U j) j) j) := by
        have step : ∀ (U0 : FrV) j, (∃ f' a c, (acc ++ [f])[j]? = some f' ∧ U0 = rfV W H f' a c ∧ f'.P.length ≤ W * H ∧ f'.d < 65536) → U0.in wb → (∀ x, U0.a = some x → 0 < U0.f.n → (Value.slice ta i tc).ownBlock ≠ some x.block) → RdA W H (acc ++ [f]) w9 (.slice (some ⟨g, 0, none⟩) (i + 1) cap) U0 j := fun U0 j h1 h2 h3 => by
          have l1 : ∀ x, U0.a = some x → 0 < U0.f.n → x.block < wb.heap.size := fun x e h0 => IsPx.lt h2 x e h0
          have b1 : ∀ x : Addr, x.block < wb.heap.size → (Value.slice ta i tc).ownBlock ≠ some x.block → w9.heap[x.block]? = wb.heap[x.block]? := fun x hl hn => (hgr.block x.block (by omega) (fun e => hn e.symm)).trans (hba.block x.block hl)
          have nb : ∀ x : Addr, x.block < wb.heap.size → (Value.slice ta i tc).ownBlock ≠ some x.block → (Value.slice (some ⟨g, 0, none⟩) (i + 1) cap).ownBlock ≠ some x.block := fun x hl hn e => by
            have e : some g = some x.block := e
            injection e with e
            rcases hat with q | q
            · exact hn (by rw [q, e])
            · omega
          exact ⟨h1, isPx_block h2 (fun x e h0 => b1 x (l1 x e h0) (h3 x e h0)), fun x e h0 => nb x (l1 x e h0) (h3 x e h0)⟩
        intro j hj
        show RdA W H (acc ++ [f]) w9 _ (if j = i then T else U j) j
        by_cases e : j = i
        · rw [if_pos e, e, unhide HT]
          refine step _ i ⟨f, fa, fc, ?_, rfl, unhide HP, hfd⟩ (unhide HPx) (fun x e _ => unhide HN1 x e)
          rw [List.getElem?_append_right (by omega), hal, Nat.sub_self]
          rfl
        · rw [if_neg e]
          have h := unhide HU3 j (by omega)
          obtain ⟨f', a', c', q1, q2⟩ := h.eq
          exact step (U j) j ⟨f', a', c', by rw [List.getElem?_append_left (by omega)]; exact q1, q2⟩ h.is h.n1
      have HOn : Hid (w9.ownsRow B 92 4 (.slice (some ⟨g, 0, none⟩) (i + 1) cap) (i + 1) (rowV (fun j => ((fun j => if j = i then T else U j) j).cells) (i + 1))) := by
        have e : rowV (fun j => ((fun j => if j = i then T else U j) j).cells) (i + 1) = rowV (fun j => (U j).cells) i ++ T.cells := by
          show rowV _ i ++ _ = _
          rw [rowV_congr (G := fun j => (U j).cells) i (fun j hj => by show (if j = i then T else U j).cells = _; rw [if_neg (by omega)])]
          show _ ++ (if i = i then T else U i).cells = _
          rw [if_pos rfl]
        show World.ownsRow _ _ _ _ _ _ _
        rw [e]
        exact hown
      have hal' : (acc ++ [f]).length = i + 1 := by rw [List.length_append, hal]; rfl
      have hs2' : s2'.size ≤ s.size := by omega
      clear hown hgr hat hgl hsa hba hne' HOx HKx HSx HAx HCL HT HN1 HU3 HO3 HBx HPx HP HRb hal
      go_wp2
      go_roundw
      case rel => exact ⟨i + 1, acc ++ [f], some ⟨g, 0, none⟩, cap, _, s2', by omega, hal', rfl, hs2', HOn, HUn, HR9, HGn, HB9, hz9⟩
      case measure => simp; omega
  · have HFA : Hid (filA (bl s) = filE W H 0 (bl s4)) := by show _ = _; rw [unhide HFA]; unfold filD; rw [show pfx [33, 255, 11, 78, 69, 84, 83, 67, 65, 80, 69, 50, 46, 48, 3, 1] (bl s4) = none from h1]
    have HR := hide hr
    have HB := HBx
    have hz := hzx
    clear h1 hr HH HBx hzx
    obtain ⟨G, hGd⟩ : ∃ G, G = frsR W H 16 (bl s4) := ⟨_, rfl⟩
    have HGG : Hid (G = (frsR W H (16 - 0) (bl s4)).map fun x => (([] : List Rf) ++ x)) := by show _ = _; rw [hGd]; simp
    have HFE : Hid (filA (bl s) = G.map fun L => ⟨W, H, L, 0⟩) := by show _ = _; rw [unhide HFA, hGd]; rfl
    have HO0 : Hid (w5.ownsRow B 92 4 (.slice none 0 0) 0 (rowV (fun j => ((fun _ => default : Nat → FrV) j).cells) 0)) := World.ownsRow_nil _ _ _ _
    have HU0 : Hid (∀ j, j < 0 → RdA W H [] w5 (.slice none 0 0) ((fun _ => default : Nat → FrV) j) j) := fun j hj => absurd hj (Nat.not_lt_zero j)
    clear HFA hGd
    go_wp2
    go_loopw [2] (fun tv wr => ∃ (i : Nat) (acc : List Rf) (ta : Option Addr) (tc : Nat) (U : Nat → FrV) (s' : ByteArray), i ≤ 16 ∧ acc.length = i ∧ tv = .slice ta i tc ∧ s'.size ≤ s.size ∧ Hid (wr.ownsRow B 92 4 (.slice ta i tc) i (rowV (fun j => (U j).cells) i)) ∧ Hid (∀ j, j < i → RdA W H acc wr (.slice ta i tc) (U j) j) ∧ Hid (GR wr R s') ∧ Hid (G = (frsR W H (16 - i) (bl s')).map fun x => (acc ++ x)) ∧ Hid (But (· = R) w wr) ∧ B ≤ wr.heap.size) (fun tv _ => (match tv with | .slice _ k _ => 17 - k | _ => 0))
    case atStart => exact ⟨0, [], none, 0, _, s4, by omega, rfl, rfl, hle, HO0, HU0, HR, HGG, HB, hz⟩
    case round =>
      clear HO0 HU0 HR HGG HB hz
      obtain ⟨i, acc, ta, tc, U, s', hi, hal, rfl, hs', HO, HU, HR, HGr, HB, hz⟩ := hrel
      have HC := hide (goesOn_any ⟨#[59]⟩ wr (unhide HR))
      go_wp2_with fail
      refine (unhide HC).mono ?_
      rintro e wa ⟨hq, hb⟩
      have HH := hide hq
      have HBx := hide ((unhide HB).trans hb)
      have hzx : B ≤ wa.heap.size := by have := hb.size; omega
      have HO2 := hide (own_but (unhide HO) hb hRB)
      have HU2 : Hid (∀ j, j < i → RdA W H acc wa (.slice ta i tc) (U j) j) := fun j hj => by
        have h := unhide HU j hj
        exact ⟨h.eq, px_but h.is (unhide HR) hb, h.n1⟩
      clear hq hb HC HB HR hz HO HU
      rcases unhide HH with ⟨s2', h1, rfl, hr⟩ | ⟨h1, rfl, hr⟩
      · have HE : Hid (filA (bl s) = some ⟨W, H, acc, 0⟩) := by
          show _ = _
          rw [unhide HFE, unhide HGr, frsR_end (show pfx [59] (bl s') = some (bl s2') from h1)]
          simp
        have HAL := hide hal
        clear h1 hr HH HGr HFE
        go_wp2
        go_ret2
        refine ⟨.inl ⟨⟨W, H, acc, 0⟩, ta, tc, U, unhide HE, hW, hH, by show 0 < 65536; omega, by show acc.length ≤ 16; omega, ?_, ?_, ?_⟩, unhide HBx⟩
        · show _ = Ending.returned (.tuple #[.slice ta acc.length tc, _])
          rw [unhide HAL]
          rfl
        · show World.ownsRow _ _ _ _ (.slice ta acc.length tc) acc.length _
          rw [unhide HAL, ← unhide HBE]
          exact unhide HO2
        · show ∀ j, j < acc.length → RdA W H acc _ (.slice ta acc.length tc) (U j) j
          rw [unhide HAL]
          exact unhide HU2
      have HR := hide hr
      have HB := HBx
      have hz := hzx
      have h59 : pfx [59] (bl s') = none := h1
      have H59 := hide h59
      clear h1 hr HH HBx hzx h59
      by_cases h16 : i = 16
      · have HE : Hid (filA (bl s) = none) := by
          show _ = _
          rw [unhide HFE, unhide HGr, h16, Nat.sub_self, frsR_none (unhide H59)]
          rfl
        have hG1 : wa.cell? ⟨1, 0, none⟩ = some (.iface tE xE) := unhide HG _ (unhide HB)
        have g16 : ((i : Int) == 16) = true := by rw [beq_iff_eq]; omega
        clear HGr HFE HO2 HU2
        go_wp2_with fail
        refine (gthrow_any tE xE _).mono ?_; rintro e w9 ⟨rfl, rfl⟩
        go_wp2
        exact ⟨rfl, .inr ⟨unhide HE, rfl⟩, unhide HB⟩
      have g16 : ((i : Int) == 16) = false := by rw [beq_eq_false_iff_ne]; omega
      have HC := hide (rframe_any W H wa (unhide HR) (unhide HG _ (unhide HB)) (unhide HGB _ (unhide HB)) hne hne2 (by omega) hW hH)
      go_wp2_with fail
      refine (unhide HC).mono ?_
      rintro e wb ⟨hq, hb⟩
      have HH := hide hq
      have HBx := hide ((unhide HB).trans hb)
      have hzx : B ≤ wb.heap.size := by have := hb.size; omega
      have HO3 := hide (own_but (unhide HO2) hb hRB)
      have HU3 : Hid (∀ j, j < i → RdA W H acc wb (.slice ta i tc) (U j) j) := fun j hj => by
        have h := unhide HU2 j hj
        exact ⟨h.eq, px_but h.is (unhide HR) hb, h.n1⟩
      clear hq hb HC HB hz
      rcases unhide HH with ⟨f, fa, fc, s2', h1, hP, hfd, hs2, rfl, ho, hr⟩ | ⟨h1, rfl⟩
      rotate_left
      · have HE : Hid (filA (bl s) = none) := by
          show _ = _
          rw [unhide HFE, unhide HGr, show 16 - i = (16 - (i + 1)) + 1 by omega, frsR_bad (unhide H59) h1]
          rfl
        clear HH h1 HGr HFE HO2 HU2 HO3 HU3
        go_wp2
        exact ⟨rfl, .inr ⟨unhide HE, rfl⟩, unhide HBx⟩
      have HGn : Hid (G = (frsR W H (16 - (i + 1)) (bl s2')).map fun x => ((acc ++ [f]) ++ x)) := by
        show _ = _
        rw [unhide HGr, show 16 - i = (16 - (i + 1)) + 1 by omega, frsR_step (unhide H59) h1, Option.map_map]
        congr 1
        funext x
        simp
      have HPx : Hid (IsPx wb fa f.P.length (fun k => f.P.getD k default)) := by
        have hP2 : f.P.length ≤ 65536 := Nat.le_trans hP (Nat.mul_le_mul hW.2 hH.2)
        have h := ho
        rw [pxL_vals] at h
        exact own_px h (by unfold maxLen; omega)
      have HN1 : Hid (∀ x, fa = some x → (Value.slice ta i tc).ownBlock ≠ some x.block) := fun x e q => by
        subst e
        have h1 := (ho.lt x.block rfl).1
        have h2 := ((unhide HO2).lt _ q).2
        omega
      have HP := hide hP
      have HRb := hide hr
      clear h1 ho hr HH HGr HO2 HU2 HR hP H59
      obtain ⟨T, hT⟩ : ∃ T : FrV, T = rfV W H f fa fc := ⟨_, rfl⟩
      have HT := hide hT
      have HCL : Hid (T.cells = [.int .i64 (W : Int), .int .i64 (H : Int), .slice fa f.P.length fc, .int .i64 (f.d : Int)]) := by show _ = _; rw [hT]; rfl
      have HAx := hide (al1 wb (.cells #[.int .i64 (W : Int), .int .i64 (H : Int), .slice fa f.P.length fc, .int .i64 (f.d : Int)] 92))
      have HKx : Hid ((wb.alloc (.cells #[.int .i64 (W : Int), .int .i64 (H : Int), .slice fa f.P.length fc, .int .i64 (f.d : Int)] 92)).heap[wb.heap.size]? = some (.cells T.cells.toArray 92)) := by
        show _ = _
        rw [unhide HCL]
        exact (unhide HAx).k0
      have HOx := hide (own_belowG (unhide HO3) (unhide HAx).below)
      have HSx : Hid (B ≤ (wb.alloc (.cells #[.int .i64 (W : Int), .int .i64 (H : Int), .slice fa f.P.length fc, .int .i64 (f.d : Int)] 92)).heap.size) := by
        show _ ≤ _
        rw [(unhide HAx).size]
        omega
      clear hT
      go_wp2_with (at_builtin; refine wpList_appFr _ rfl (.tmp 28) (.tmp 33) rfl B wb.heap.size i tc ta (rowV (fun j => (U j).cells) i) T rfl rfl (unhide HOx) (unhide HKx) (by omega) (unhide HSx) ?_)
      intro g cap w9 hown hgr hat hgl
      generalize wb.alloc (.cells #[.int .i64 (W : Int), .int .i64 (H : Int), .slice fa f.P.length fc, .int .i64 (f.d : Int)] 92) = wc at *
      have hsa := (unhide HAx).size
      have hba := (unhide HAx).below
      have hne' : ∀ k, (Value.slice ta i tc).ownBlock = some k → B ≤ k := fun k e => ((unhide HO3).lt k e).1
      have HB9 : Hid (But (· = R) w w9) := ((unhide HBx).of_below hba (fun k h1 h2 => by have := unhide HBE; omega)).grown hgr (fun k e hk => by have := hne' k e; have := unhide HBE; omega)
      have hz9 : B ≤ w9.heap.size := by have := hgr.size; omega
      have HR9 : Hid (GR w9 R s2') := (hgr.block R (by have := (unhide HRb).lt; omega) (fun e => by have := hne' R e.symm; omega)).trans ((unhide HRb).below hba (unhide HRb).lt)
      have HUn : Hid (∀ j, j < i + 1 → RdA W H (acc ++ [f]) w9 (.slice (some ⟨g, 0, none⟩) (i + 1) cap) ((fun j => if j = i then T else U j) j) j) := by
        have step : ∀ (U0 : FrV) j, (∃ f' a c, (acc ++ [f])[j]? = some f' ∧ U0 = rfV W H f' a c ∧ f'.P.length ≤ W * H ∧ f'.d < 65536) → U0.in wb → (∀ x, U0.a = some x → 0 < U0.f.n → (Value.slice ta i tc).ownBlock ≠ some x.block) → RdA W H (acc ++ [f]) w9 (.slice (some ⟨g, 0, none⟩) (i + 1) cap) U0 j := fun U0 j h1 h2 h3 => by
          have l1 : ∀ x, U0.a = some x → 0 < U0.f.n → x.block < wb.heap.size := fun x e h0 => IsPx.lt h2 x e h0
          have b1 : ∀ x : Addr, x.block < wb.heap.size → (Value.slice ta i tc).ownBlock ≠ some x.block → w9.heap[x.block]? = wb.heap[x.block]? := fun x hl hn => (hgr.block x.block (by omega) (fun e => hn e.symm)).trans (hba.block x.block hl)
          have nb : ∀ x : Addr, x.block < wb.heap.size → (Value.slice ta i tc).ownBlock ≠ some x.block → (Value.slice (some ⟨g, 0, none⟩) (i + 1) cap).ownBlock ≠ some x.block := fun x hl hn e => by
            have e : some g = some x.block := e
            injection e with e
            rcases hat with q | q
            · exact hn (by rw [q, e])
            · omega
          exact ⟨h1, isPx_block h2 (fun x e h0 => b1 x (l1 x e h0) (h3 x e h0)), fun x e h0 => nb x (l1 x e h0) (h3 x e h0)⟩
        intro j hj
        show RdA W H (acc ++ [f]) w9 _ (if j = i then T else U j) j
        by_cases e : j = i
        · rw [if_pos e, e, unhide HT]
          refine step _ i ⟨f, fa, fc, ?_, rfl, unhide HP, hfd⟩ (unhide HPx) (fun x e _ => unhide HN1 x e)
          rw [List.getElem?_append_right (by omega), hal, Nat.sub_self]
          rfl
        · rw [if_neg e]
          have h := unhide HU3 j (by omega)
          obtain ⟨f', a', c', q1, q2⟩ := h.eq
          exact step (U j) j ⟨f', a', c', by rw [List.getElem?_append_left (by omega)]; exact q1, q2⟩ h.is h.n1
      have HOn : Hid (w9.ownsRow B 92 4 (.slice (some ⟨g, 0, none⟩) (i + 1) cap) (i + 1) (rowV (fun j => ((fun j => if j = i then T else U j) j).cells) (i + 1))) := by
        have e : rowV (fun j => ((fun j => if j = i then T else U j) j).cells) (i + 1) = rowV (fun j => (U j).cells) i ++ T.cells := by
          show rowV _ i ++ _ = _
          rw [rowV_congr (G := fun j => (U j).cells) i (fun j hj => by show (if j = i then T else U j).cells = _; rw [if_neg (by omega)])]
          show _ ++ (if i = i then T else U i).cells = _
          rw [if_pos rfl]
        show World.ownsRow _ _ _ _ _ _ _
        rw [e]
        exact hown
      have hal' : (acc ++ [f]).length = i + 1 := by rw [List.length_append, hal]; rfl
      have hs2' : s2'.size ≤ s.size := by omega
      clear hown hgr hat hgl hsa hba hne' HOx HKx HSx HAx HCL HT HN1 HU3 HO3 HBx HPx HP HRb hal
      go_wp2
      go_roundw
      case rel => exact ⟨i + 1, acc ++ [f], some ⟨g, 0, none⟩, cap, _, s2', by omega, hal', rfl, hs2', HOn, HUn, HR9, HGn, HB9, hz9⟩
      case measure => simp; omega
end
end Go.Proofs.YtjcoahahponabaaGreatDoor
