/- Walk: Zip, of a text that is not long. Walks of the program's reader of packed texts: symbols up to a block's end. Walks of the program's reader of packed texts: the fixed codes. Walks of the program's reader of packed texts: lengths of a dynamic block, one run. Walks of the program's reader of packed texts: all lengths of a dynamic block. Walk of the program's reader of packed texts: the codes of a dynamic block. Plain facts on what packed texts mean: no more bits than there are, no more bytes than may be; a bound that is wide enough turns nothing, a lesser one is told. Walk of the program's reader of packed texts: all blocks. Walks of the program's Inflate: what is thrown is caught. -/
import Derived.Test.YtfeljhikeddodadGreatDoorMg25
import Derived.Test.YtfeljhikeddodadGreatDoorMg22
import Derived.Test.YtfeljhikeddodadGreatDoorMg17
import Derived.Test.YtfeljhikeddodadGreatDoorMg9
import Derived.Test.YtfeljhikeddodadGreatDoorMg3
import Derived.Defers
import Derived.Recover
import Derived.Laws.Pointers
namespace Go.Proofs.YtfeljhikeddodadGreatDoor
open Go.RowKit Ps Nf Pm Cn

/-- Four bytes of a number, the highest first. -/
def dh4 (n : Nat) : List UInt8 := [UInt8.ofNat (n / 16777216), UInt8.ofNat (n / 65536), UInt8.ofNat (n / 256), UInt8.ofNat n]
set_option maxHeartbeats 1000000 in
theorem dhigh_any (n : Nat) (w : World) (hn : n < 4294967296) :
    Calls Tryz.prog 56 #[.int .u32 (n : Int)] w fun e w' => e = .returned (.string ⟨(dh4 n).toArray⟩) ∧ Below w.heap.size w w' := by
  obtain ⟨a, ha⟩ : ∃ a, a = n / 16777216 := ⟨_, rfl⟩
  obtain ⟨qb, hqb⟩ : ∃ b, b = n / 65536 := ⟨_, rfl⟩
  obtain ⟨qc, hqc⟩ : ∃ c, c = n / 256 := ⟨_, rfl⟩
  obtain ⟨b, hb⟩ : ∃ b, b = qb % 256 := ⟨_, rfl⟩
  obtain ⟨c, hc⟩ : ∃ c, c = qc % 256 := ⟨_, rfl⟩
  obtain ⟨d, hd⟩ : ∃ d, d = n % 256 := ⟨_, rfl⟩
  have e1 : (n : Int) / 16777216 = (a : Int) := by omega
  have e2 : (n : Int) / 65536 = (qb : Int) := by omega
  have e3 : (n : Int) / 256 = (qc : Int) := by omega
  have e0 : (a : Int) % 256 = (a : Int) := by omega
  have e4 : (qb : Int) % 256 = (b : Int) := by omega
  have e5 : (qc : Int) % 256 = (c : Int) := by omega
  have e6 : (n : Int) % 256 = (d : Int) := by omega
  have l1 : a < 256 := by omega
  have l2 : b < 256 := by omega
  have l3 : c < 256 := by omega
  have l4 : d < 256 := by omega
  have hbe : dh4 n = [UInt8.ofNat a, UInt8.ofNat b, UInt8.ofNat c, UInt8.ofNat d] := by
    have key : ∀ m : Nat, UInt8.ofNat m = UInt8.ofNat (m % 256) := fun m => by
      apply UInt8.toNat_inj.1
      rw [UInt8.toNat_ofNat', UInt8.toNat_ofNat']
      omega
    unfold dh4
    rw [hb, hc, hd, hqb, hqc, ha, ← key, ← key, ← key]
  have hcv := own_text (w.alloc (.cells #[.int .u8 (a : Int), .int .u8 (b : Int), .int .u8 (c : Int), .int .u8 (d : Int)] 5)) w.heap.size (.slice (some ⟨w.heap.size, 0, none⟩) 4 4) 4 (dh4 n) (by
    have := World.ownsRow_lit (base := w.heap.size) (e := 5) (size := 1) w #[.int .u8 (a : Int), .int .u8 (b : Int), .int .u8 (c : Int), .int .u8 (d : Int)] 4 (Nat.le_refl _) (by decide) rfl
    have k : ∀ m : Nat, m < 256 → (UInt8.ofNat m).toNat = m := fun m hm => by rw [UInt8.toNat_ofNat']; omega
    rw [hbe]
    simpa [byteVals, k a l1, k b l2, k c l3, k d l4] using this)
  have HBE := hide hbe
  clear ha hb hc hd hqb hqc hbe
  generalize dh4 n = dd at *
  go_enter Tryz.func56, Tryz.ntmps56
  go_wp2
  go_ret
  exact ⟨rfl, (Below.refl _ _).alloc (Nat.le_refl _) _⟩
/-- What a text is, zipped. -/
def zipT (s x : ByteArray) : ByteArray := (⟨#[120, 156]⟩ ++ x) ++ ⟨(dh4 (Ad.more 1 s.data.toList)).toArray⟩
set_option maxHeartbeats 4000000 in
theorem zip_any (s : ByteArray) (v1 v2 : Value) (w : World) (hs : s.size ≤ 20000) (hB : Bl w) (hn : 12 ≤ w.heap.size)
    (h1 : w.cell? ⟨0, 0, none⟩ = some v1) (h2 : w.cell? ⟨2, 0, none⟩ = some v2) :
    Calls Tryz.prog 19 #[.string s] w fun e w' => ∃ x, e = .returned (.tuple #[.string (zipT s x), .nilIface]) ∧ Pk s.data.toList x ∧ x.size ≤ s.size + 30 ∧ Below w.heap.size w w' := by
  have HX := hide (deflate_any s v1 v2 w hs hB hn h1 h2)
  have HA := hide (fun w' => adler_any s w' (by unfold maxLen; omega))
  have hlt : Ad.more 1 s.data.toList < 4294967296 := Ad.more_lt _ _
  unfold zipT
  generalize Ad.more 1 s.data.toList = ad at *
  have HH := hide (fun w' => dhigh_any ad w' hlt)
  obtain ⟨dd, hdd⟩ : ∃ q, q = (⟨(dh4 ad).toArray⟩ : ByteArray) := ⟨_, rfl⟩
  have hd4 : dd.size = 4 := by rw [hdd]; rfl
  rw [← hdd] at HH ⊢
  clear hdd
  clear hB h1 h2
  go_enter Tryz.func19, Tryz.ntmps19
  go_wp2_with fail
  refine (unhide HX).mono ?_
  rintro e w1 ⟨x, rfl, hpk, hxl, hb1⟩
  have hx30 : x.size ≤ s.size + 30 := by
    have h1 := storP_len (fu s.size) s.data.toList
    have h2 : s.data.toList.length = s.size := by simp
    have h3 := fu_ok s.size (by omega)
    rw [textP_size] at hxl
    omega
  have hxz : x.size ≤ 2000000 := by
    obtain ⟨ps, hx, _, hl, _⟩ := hpk
    rw [hx, textP_size]
    omega
  have hxa : (⟨#[120, 156]⟩ ++ x : ByteArray).size ≤ 2000002 := by
    rw [ByteArray.size_append]
    show 2 + _ ≤ _
    omega
  have HP := hide (And.intro hpk hx30)
  clear hpk HX hxl hx30
  go_wp2_with fail
  refine (unhide HA w1).mono ?_
  rintro e w2 ⟨rfl, hw2⟩
  obtain rfl : w1 = w2 := hw2.symm
  go_wp2_with fail
  refine (unhide HH w1).mono ?_
  rintro e w3 ⟨rfl, hb3⟩
  have HB := hide (hb1.trans (hb3.mono hb1.size))
  clear HA HH hb1 hb3
  go_wp2
  go_ret2
  exact ⟨x, rfl, (unhide HP).1, (unhide HP).2, unhide HB⟩
end Go.Proofs.YtfeljhikeddodadGreatDoor
namespace Go.Proofs.YtfeljhikeddodadGreatDoor
open Go.RowKit Pm Cn Cd Nf

/-- A tree that lies apart from the reader. -/
structure Tre (w : World) (P p T G : Nat) (l : Nat → Nat) (N : Nat) : Prop where
  tree : ∃ sy, Tr w T G l sy ∧ sy.Perm (syms (zl l) N) ∧ sy.Pairwise (Ahead (zl l))
  le : ∀ i, i < N → l i ≤ 15
  few : N ≤ 300
  apT : T ≠ p ∧ T ≠ P ∧ T ≠ rowT w P
  apG : G ≠ p ∧ G ≠ P ∧ G ≠ rowT w P
/-- The codes of a block at block C. -/
structure CsAt (w : World) (P p C : Nat) (l1 : Nat → Nat) (N1 : Nat) (l2 : Nat → Nat) (N2 : Nat) : Prop where
  parts : ∃ T1 G1 T2 G2, w.cell? ⟨C, 0, none⟩ = some (.pointer (some ⟨T1, 0, none⟩)) ∧ w.cell? ⟨C, 1, none⟩ = some (.pointer (some ⟨T2, 0, none⟩)) ∧ Tre w P p T1 G1 l1 N1 ∧ Tre w P p T2 G2 l2 N2
  apC : C ≠ p ∧ C ≠ P ∧ C ≠ rowT w P
theorem Tre.ki {w w' : World} {P p T G N : Nat} {l : Nat → Nat} (h : Tre w P p T G l N) (hk : KI P p w w') : Tre w' P p T G l N := by
  obtain ⟨sy, h1, h2, h3⟩ := h.tree
  have a1 := h.apT
  have a2 := h.apG
  have b1 := h1.ltT
  have b2 := h1.ltG
  refine ⟨⟨sy, h1.but hk.but (fun q => ?_) (fun q => ?_), h2, h3⟩, h.le, h.few, ?_, ?_⟩
  · rcases q with q | q | q <;> omega
  · rcases q with q | q | q <;> omega
  · rcases hk.row with e | e
    · rw [e]; exact a1
    · exact ⟨a1.1, a1.2.1, by omega⟩
  · rcases hk.row with e | e
    · rw [e]; exact a2
    · exact ⟨a2.1, a2.2.1, by omega⟩
theorem CsAt.ki {w w' : World} {P p C N1 N2 : Nat} {l1 l2 : Nat → Nat} (h : CsAt w P p C l1 N1 l2 N2) (hk : KI P p w w') : CsAt w' P p C l1 N1 l2 N2 := by
  obtain ⟨T1, G1, T2, G2, c1, c2, h1, h2⟩ := h.parts
  have a := h.apC
  have hC := World.block_lt_of_cell? _ _ c1
  simp only at hC
  have hn : ¬ (C = p ∨ C = P ∨ C = rowT w P) := fun q => by rcases q with q | q | q <;> omega
  refine ⟨⟨T1, G1, T2, G2, (hk.but.cell (p := ⟨C, 0, none⟩) hC hn).trans c1, (hk.but.cell (p := ⟨C, 1, none⟩) hC hn).trans c2, h1.ki hk, h2.ki hk⟩, ?_⟩
  rcases hk.row with e | e
  · rw [e]; exact a
  · exact ⟨a.1, a.2.1, by omega⟩
/-- How far the bits at block p are read. -/
def posAt (w : World) (p : Nat) : Nat :=
  match w.cell? ⟨p, 1, none⟩ with
  | some (.int _ n) => n.toNat
  | _ => 0
theorem RAt.pos {w : World} {p k : Nat} {s : ByteArray} (h : RAt w p s k) : posAt w p = k := by unfold posAt; rw [h.count]; simp
section
variable {P p : Nat} {s : ByteArray} {k : Nat} {out : List UInt8} {most : Nat} {fx : Value} {t : TypeId} {xT xB xS : Value}

theorem KI.drewN (P p : Nat) (w : World) (n : Nat) : KI P p w (w.drewN n) := KI.of_but ((But.refl _ _).of_below (below_drewN (Below.refl w.heap.size w) n) (fun k h1 h2 => by omega)) (rowT_same rfl)
end
end Go.Proofs.YtfeljhikeddodadGreatDoor
namespace Go.Proofs.YtfeljhikeddodadGreatDoor
open Go.RowKit Pm Cn Cd Nf

section
variable {P p : Nat} {s : ByteArray} {k : Nat} {out : List UInt8} {most : Nat} {fx : Value} {t : TypeId} {xT xB xS : Value}

end
end Go.Proofs.YtfeljhikeddodadGreatDoor
namespace Go.Proofs.YtfeljhikeddodadGreatDoor
open Go.RowKit Pm Cn Cd Nf

section
variable {P p : Nat} {s : ByteArray} {k : Nat} {out : List UInt8} {most : Nat} {fx : Value} {t : TypeId} {xT xB xS : Value}

/-- What a symbol of the code of lengths means behind a row: which length, how often, and how many bits; or nothing. -/
def runOf (V nb k i : Nat) (row : List Nat) : Option (Nat × Nat × Nat) :=
  if i < 16 then some (i, 1, 0)
  else if i = 16 ∧ row.length = 0 then none
  else match get V nb k (againBits i) with
    | none => none
    | some x => some (againOf i row, againFrom i + x, againBits i)
end
end Go.Proofs.YtfeljhikeddodadGreatDoor
namespace Go.Proofs.YtfeljhikeddodadGreatDoor
open Go.RowKit Pm Cn Cd Nf

theorem rowStep_eq (V nb tot : Nat) (l : Nat → Nat) (k : Nat) (row : List Nat) (h : row.length < tot) : rowStep V nb tot l (k, row) =
    match wd V nb l 19 k with
    | none => .done none
    | some i => match runOf V nb (k + l i) i row with
      | none => .done none
      | some (x, n, b) => if tot < row.length + n then .done none else .more (k + l i + b, row ++ List.replicate n x) := by
  unfold rowStep
  simp only
  rw [if_neg (by omega)]
  cases wd V nb l 19 k with
  | none => rfl
  | some i =>
    simp only
    unfold runOf
    by_cases h16 : i < 16
    · rw [if_pos h16, if_pos h16]
      simp only
      rw [if_neg (by omega)]
      rfl
    · rw [if_neg h16, if_neg h16]
      by_cases h0 : i = 16 ∧ row.length = 0
      · rw [if_pos h0, if_pos h0]
      · rw [if_neg h0, if_neg h0]
        cases get V nb (k + l i) (againBits i) with
        | none => rfl
        | some x => rfl
theorem IA.apart {w w' : World} {P p k most g : Nat} {s : ByteArray} {out : List UInt8} {fx : Value} (h : IA w P p s k out most fx) (hb : But (· = g) w w') (h1 : g ≠ p) (h2 : g ≠ P) (h3 : g ≠ rowT w P) : IA w' P p s k out most fx ∧ rowT w' P = rowT w P := by
  have hl := h.lt
  have hp := h.ltp
  have hne : ¬ P = g := fun q => h2 q.symm
  have hnp : ¬ p = g := fun q => h1 q.symm
  obtain ⟨v, hv, hown⟩ := h.text
  have hv' := (hb.cell (p := ⟨P, 1, none⟩) hl hne).trans hv
  refine ⟨⟨(hb.cell (p := ⟨P, 0, none⟩) hl hne).trans h.rd, ⟨v, hv', ?_⟩, (hb.cell (p := ⟨P, 2, none⟩) hl hne).trans h.mst, (hb.cell (p := ⟨P, 3, none⟩) hl hne).trans h.fixed, (hb.frozen (p := ⟨P, 1, none⟩) hl hne).trans h.free1, (hb.frozen (p := ⟨P, 3, none⟩) hl hne).trans h.free3, h.bits.but hb hnp, hp, h.small, h.low, h.glob⟩, rowT_same (hb.cell (p := ⟨P, 1, none⟩) hl hne)⟩
  refine hown.kept (row := some g) hb.grownBy ?_
  cases e : v.ownBlock with
  | none => exact .inl rfl
  | some b => exact .inr (fun q => by injection q with q; exact h3 (by rw [rowT_own hv e, q]))
theorem own_blk {w w' : World} {base size n : Nat} {e : TypeId} {v : Value} {xs : List Value} (h : w.ownsRow base e size v n xs) (hb : ∀ g, v.ownBlock = some g → w'.heap[g]? = w.heap[g]?) : w'.ownsRow base e size v n xs := by
  obtain ⟨h1, h2⟩ := h
  refine ⟨h1, ?_⟩
  rcases h2 with h2 | ⟨g, cap, cur, hv, hg, hh, r⟩
  · exact Or.inl h2
  · exact Or.inr ⟨g, cap, cur, hv, hg, by rw [hb g (by rw [hv]; rfl)]; exact hh, r⟩
theorem IA.aparts {w w' : World} {P p k most : Nat} {s : ByteArray} {out : List UInt8} {fx : Value} {S : Nat → Prop} (h : IA w P p s k out most fx) (hb : But S w w') (h1 : ¬ S p) (h2 : ¬ S P) (h3 : ¬ S (rowT w P)) : IA w' P p s k out most fx ∧ rowT w' P = rowT w P := by
  have hl := h.lt
  have hp := h.ltp
  obtain ⟨v, hv, hown⟩ := h.text
  have hv' := (hb.cell (p := ⟨P, 1, none⟩) hl h2).trans hv
  refine ⟨⟨(hb.cell (p := ⟨P, 0, none⟩) hl h2).trans h.rd, ⟨v, hv', own_blk hown (fun g e => hb.block g (hown.lt g e).2 (by rw [← rowT_own hv e]; exact h3))⟩, (hb.cell (p := ⟨P, 2, none⟩) hl h2).trans h.mst, (hb.cell (p := ⟨P, 3, none⟩) hl h2).trans h.fixed, (hb.frozen (p := ⟨P, 1, none⟩) hl h2).trans h.free1, (hb.frozen (p := ⟨P, 3, none⟩) hl h2).trans h.free3, h.bits.but hb h1, hp, h.small, h.low, h.glob⟩, rowT_same (hb.cell (p := ⟨P, 1, none⟩) hl h2)⟩
theorem Tre.aparts {w w' : World} {P p T G N : Nat} {l : Nat → Nat} {S : Nat → Prop} (h : Tre w P p T G l N) (hb : But S w w') (h1 : ¬ S T) (h2 : ¬ S G) (hr : rowT w' P = rowT w P) : Tre w' P p T G l N := by
  obtain ⟨sy, a, b, c⟩ := h.tree
  exact ⟨⟨sy, a.but hb h1 h2, b, c⟩, h.le, h.few, by rw [hr]; exact h.apT, by rw [hr]; exact h.apG⟩
theorem order_lt : ∀ j, j < 19 → order.getD j 0 < 19 := by decide
section
variable {P p : Nat} {s : ByteArray} {k : Nat} {out : List UInt8} {most : Nat} {fx : Value} {t : TypeId} {xT xB xS : Value}

theorem Tre.moved {w w' : World} {T G N : Nat} {l : Nat → Nat} (h : Tre w P p T G l N) (hb : But (· = p) w w') (hr : rowT w' P = rowT w P) : Tre w' P p T G l N := h.ki (KI.of_but hb hr)
end
end Go.Proofs.YtfeljhikeddodadGreatDoor
namespace Go.Proofs.YtfeljhikeddodadGreatDoor
open Go.RowKit Pm Cn Cd Nf

theorem of_get {V nb k d x : Nat} (h : get V nb k d = some x) : k + d ≤ nb ∧ V / 2 ^ k % 2 ^ d = x := by
  unfold Nf.get at h
  split at h
  · next q => injection h with h; exact ⟨q, h⟩
  · cases h
theorem no_get {V nb k d : Nat} (h : get V nb k d = none) : ¬ k + d ≤ nb := fun q => by rw [get_some q] at h; cases h
section
variable {P p : Nat} {s : ByteArray} {k : Nat} {out : List UInt8} {most : Nat} {fx : Value} {t : TypeId} {xT xB xS : Value}

end
end Go.Proofs.YtfeljhikeddodadGreatDoor
namespace Go.Proofs.YtfeljhikeddodadGreatDoor.Nf
open Pm Cn

theorem wd_le {V nb : Nat} {l : Nat → Nat} {N k i : Nat} (h : wd V nb l N k = some i) : k + l i ≤ nb ∧ 0 < l i := ⟨(of_wd h).2.2.1, (of_wd h).2.1⟩
theorem get_le {V nb k d x : Nat} (h : get V nb k d = some x) : k + d ≤ nb := by
  unfold get at h
  split at h
  · assumption
  · cases h
theorem tok_more {V nb most : Nat} {l1 : Nat → Nat} {N1 : Nat} {l2 : Nat → Nat} {N2 : Nat} {s s' : St} (h : tokStep V nb most l1 N1 l2 N2 s = .more s') :
    s.2.length ≤ s'.2.length ∧ s'.2.length ≤ most ∧ s.1 < s'.1 ∧ s'.1 ≤ nb ∧ ∀ most', (s'.2.length ≤ most' → tokStep V nb most' l1 N1 l2 N2 s = .more s') ∧ (most' < s'.2.length → tokStep V nb most' l1 N1 l2 N2 s = .done (.err .bound)) := by
  unfold tokStep at h ⊢
  cases hw : wd V nb l1 N1 s.1 with
  | none => rw [hw] at h; cases h
  | some i =>
    rw [hw] at h
    have hi := wd_le hw
    simp only at h ⊢
    by_cases c1 : i < 256
    · rw [if_pos c1] at h
      simp only [if_pos c1]
      by_cases c2 : s.2.length < most
      · rw [if_pos c2] at h
        injection h with h
        subst h
        simp only [List.length_append, List.length_singleton]
        refine ⟨by omega, by omega, by omega, by omega, fun most' => ⟨fun h => by rw [if_pos (by omega)], fun h => by rw [if_neg (by omega)]⟩⟩
      · rw [if_neg c2] at h; cases h
    · rw [if_neg c1] at h
      simp only [if_neg c1]
      by_cases c2 : i = 256
      · rw [if_pos c2] at h; cases h
      · rw [if_neg c2] at h
        simp only [if_neg c2]
        by_cases c3 : 286 ≤ i
        · rw [if_pos c3] at h; cases h
        · rw [if_neg c3] at h
          simp only [if_neg c3]
          cases hg : get V nb (s.1 + l1 i) (lenBits (i - 257)) with
          | none => rw [hg] at h; cases h
          | some x =>
            rw [hg] at h
            simp only at h ⊢
            cases hw2 : wd V nb l2 N2 (s.1 + l1 i + lenBits (i - 257)) with
            | none => rw [hw2] at h; cases h
            | some d =>
              rw [hw2] at h
              simp only at h ⊢
              by_cases c4 : 30 ≤ d
              · rw [if_pos c4] at h; cases h
              · rw [if_neg c4] at h
                simp only [if_neg c4]
                cases hg2 : get V nb (s.1 + l1 i + lenBits (i - 257) + l2 d) (distBits d) with
                | none => rw [hg2] at h; cases h
                | some y =>
                  rw [hg2] at h
                  have hle := get_le hg2
                  simp only at h ⊢
                  by_cases c5 : s.2.length < dists.getD d 0 + y
                  · rw [if_pos c5] at h; cases h
                  · rw [if_neg c5] at h
                    simp only [if_neg c5]
                    by_cases c6 : most < s.2.length + (lens.getD (i - 257) 0 + x)
                    · rw [if_pos c6] at h; cases h
                    · rw [if_neg c6] at h
                      injection h with h
                      subst h
                      simp only [copied_length]
                      refine ⟨by omega, by omega, by omega, by omega, fun most' => ⟨fun h => by rw [if_neg (by omega)], fun h => by rw [if_pos (by omega)]⟩⟩
theorem tok_done {V nb most : Nat} {l1 : Nat → Nat} {N1 : Nat} {l2 : Nat → Nat} {N2 : Nat} {s : St} {k : Nat} {out : List UInt8} (h : tokStep V nb most l1 N1 l2 N2 s = .done (.ok k out)) :
    out = s.2 ∧ s.1 < k ∧ k ≤ nb ∧ ∀ most', tokStep V nb most' l1 N1 l2 N2 s = .done (.ok k out) := by
  unfold tokStep at h ⊢
  cases hw : wd V nb l1 N1 s.1 with
  | none => rw [hw] at h; cases h
  | some i =>
    rw [hw] at h
    have hi := wd_le hw
    simp only at h ⊢
    by_cases c1 : i < 256
    · rw [if_pos c1] at h
      split at h <;> cases h
    · rw [if_neg c1] at h
      simp only [if_neg c1]
      by_cases c2 : i = 256
      · rw [if_pos c2] at h
        injection h with h
        injection h with h1 h2
        simp only [if_pos c2]
        refine ⟨h2.symm, by omega, by omega, fun _ => by rw [h1, h2]⟩
      · rw [if_neg c2] at h
        split at h
        · cases h
        · split at h
          · cases h
          · split at h
            · cases h
            · split at h
              · cases h
              · split at h
                · cases h
                · split at h
                  · cases h
                  · split at h <;> cases h
theorem tok_run {V nb most : Nat} {l1 : Nat → Nat} {N1 : Nat} {l2 : Nat → Nat} {N2 : Nat} {s : St} {r : Res} (h : Run (tokStep V nb most l1 N1 l2 N2) s r) : ∀ k out, r = .ok k out →
    s.2.length ≤ out.length ∧ (s.2.length ≤ most → out.length ≤ most) ∧ s.1 < k ∧ k ≤ nb ∧ ∀ most', (out.length ≤ most' → Run (tokStep V nb most' l1 N1 l2 N2) s (.ok k out)) ∧ (s.2.length ≤ most' → most' < out.length → Run (tokStep V nb most' l1 N1 l2 N2) s (.err .bound)) := by
  induction h with
  | done e =>
    rintro k out rfl
    obtain ⟨rfl, h1, h2, h3⟩ := tok_done e
    exact ⟨Nat.le_refl _, id, h1, h2, fun most' => ⟨fun _ => .done (h3 most'), fun a b => by omega⟩⟩
  | @more s s' r e _ ih =>
    rintro k out rfl
    obtain ⟨a1, a2, a3, a4, a5⟩ := tok_more e
    obtain ⟨b1, b2, b3, b4, b5⟩ := ih k out rfl
    refine ⟨by omega, fun _ => b2 a2, by omega, b4, fun most' => ⟨fun c => .more ((a5 most').1 (by omega)) ((b5 most').1 c), fun c1 c2 => ?_⟩⟩
    rcases Nat.lt_or_ge most' s'.2.length with c | c
    · exact .done ((a5 most').2 c)
    · exact .more ((a5 most').1 c) ((b5 most').2 c c2)
theorem stored_ok {V nb most k k' : Nat} {out out' : List UInt8} (h : storedOf V nb most k out = .ok k' out') :
    out.length ≤ out'.length ∧ out'.length ≤ most ∧ k < k' ∧ k' ≤ nb ∧ ∀ most', (out'.length ≤ most' → storedOf V nb most' k out = .ok k' out') ∧ (most' < out'.length → storedOf V nb most' k out = .err .bound) := by
  unfold storedOf at h ⊢
  by_cases c1 : ¬ (k + 7) / 8 * 8 + 32 ≤ nb
  · rw [if_pos c1] at h; cases h
  · rw [if_neg c1] at h
    simp only [if_neg c1]
    by_cases c2 : V / 2 ^ ((k + 7) / 8 * 8) % 2 ^ 16 + V / 2 ^ ((k + 7) / 8 * 8 + 16) % 2 ^ 16 ≠ 65535
    · rw [if_pos c2] at h; cases h
    · rw [if_neg c2] at h
      simp only [if_neg c2]
      generalize V / 2 ^ ((k + 7) / 8 * 8) % 2 ^ 16 = n at *
      by_cases c3 : ¬ (k + 7) / 8 * 8 + 32 + 8 * n ≤ nb
      · rw [if_pos c3] at h; cases h
      · rw [if_neg c3] at h
        simp only [if_neg c3]
        by_cases c4 : most < out.length + n
        · rw [if_pos c4] at h; cases h
        · rw [if_neg c4] at h
          injection h with h1 h2
          subst h1 h2
          simp only [List.length_append, bytesOf_length]
          refine ⟨by omega, by omega, by omega, by omega, fun most' => ⟨fun c => by rw [if_neg (by omega)], fun c => by rw [if_pos (by omega)]⟩⟩
theorem dyn_le {V nb k k' many : Nat} {row : List Nat} (h : dyn V nb k = some (k', row, many)) : k < k' := by
  have key : ∀ tot l s r, Run (rowStep V nb tot l) s r → ∀ s', r = some s' → s.1 ≤ s'.1 := fun tot l s r h => by
    induction h with
    | done e =>
      rintro s' rfl
      unfold rowStep at e
      split at e
      · injection e with e; injection e with e; subst e; exact Nat.le_refl _
      · split at e
        · cases e
        · split at e
          · cases e
          · split at e
            · cases e
            · split at e
              · cases e
              · split at e <;> cases e
    | more e _ ih =>
      rintro s' rfl
      have := ih s' rfl
      refine Nat.le_trans ?_ this
      unfold rowStep at e
      split at e
      · cases e
      · split at e
        · cases e
        · split at e
          · injection e with e; subst e; show _ ≤ _ + _; omega
          · split at e
            · cases e
            · split at e
              · cases e
              · split at e
                · cases e
                · injection e with e; subst e; show _ ≤ _ + _ + _; omega
  unfold dyn at h
  split at h
  · cases h
  split at h
  · cases h
  split at h
  · cases h
  split at h
  · cases h
  split at h
  · cases h
  · cases h
  · next e =>
    have := key _ _ _ _ (of_run e) _ rfl
    split at h
    · cases h
    · injection h with h
      injection h with h1 _
      subst h1
      simp only at this
      omega
theorem block_ok {V nb most kind k k' : Nat} {out out' : List UInt8} (h : blockOf V nb most kind k out = some (.ok k' out')) :
    out.length ≤ out'.length ∧ (out.length ≤ most → out'.length ≤ most) ∧ k < k' ∧ k' ≤ nb ∧ ∀ most', (out'.length ≤ most' → blockOf V nb most' kind k out = some (.ok k' out')) ∧ (out.length ≤ most' → most' < out'.length → blockOf V nb most' kind k out = some (.err .bound)) := by
  unfold blockOf at h ⊢
  by_cases c0 : kind = 0
  · rw [if_pos c0] at h
    simp only [if_pos c0]
    injection h with h
    obtain ⟨a1, a2, a3, a4, a5⟩ := stored_ok h
    exact ⟨a1, fun _ => a2, a3, a4, fun m => ⟨fun c => by rw [(a5 m).1 c], fun _ c => by rw [(a5 m).2 c]⟩⟩
  · rw [if_neg c0] at h
    simp only [if_neg c0]
    by_cases c1 : kind = 1
    · rw [if_pos c1] at h
      simp only [if_pos c1]
      obtain ⟨a1, a2, a3, a4, a5⟩ := tok_run (of_run h) _ _ rfl
      exact ⟨a1, a2, a3, a4, fun m => ⟨fun c => run_of ((a5 m).1 c), fun c c' => run_of ((a5 m).2 c c')⟩⟩
    · rw [if_neg c1] at h
      simp only [if_neg c1]
      by_cases c2 : kind = 2
      · rw [if_pos c2] at h
        simp only [if_pos c2]
        cases hd : dyn V nb k with
        | none => rw [hd] at h; cases h
        | some q =>
          obtain ⟨k1, row, many⟩ := q
          rw [hd] at h
          have hk := dyn_le hd
          obtain ⟨a1, a2, a3, a4, a5⟩ := tok_run (of_run h) _ _ rfl
          simp only at a1 a2 a3 a5
          exact ⟨a1, a2, by omega, a4, fun m => ⟨fun c => run_of ((a5 m).1 c), fun c c' => run_of ((a5 m).2 c c')⟩⟩
      · rw [if_neg c2] at h; cases h
theorem blocks_run {V nb most : Nat} {s : St} {r : Res} (h : Run (blockStep V nb most) s r) : ∀ k out, r = .ok k out →
    s.2.length ≤ out.length ∧ (s.2.length ≤ most → out.length ≤ most) ∧ k ≤ nb ∧ ∀ most', (out.length ≤ most' → Run (blockStep V nb most') s (.ok k out)) ∧ (s.2.length ≤ most' → most' < out.length → Run (blockStep V nb most') s (.err .bound)) := by
  induction h with
  | @done s r e =>
    rintro k out rfl
    unfold blockStep at e
    by_cases c1 : ¬ s.1 + 3 ≤ nb
    · rw [if_pos c1] at e; cases e
    · rw [if_neg c1] at e
      split at e
      · cases e
      · cases e
      · next k1 o1 hb =>
        by_cases c2 : V / 2 ^ s.1 % 2 ^ 1 = 1
        · rw [if_pos c2] at e
          injection e with e
          injection e with e1 e2
          subst e1 e2
          obtain ⟨a1, a2, a3, a4, a5⟩ := block_ok hb
          refine ⟨a1, a2, a4, fun m => ⟨fun c => .done ?_, fun c c' => .done ?_⟩⟩
          · unfold blockStep; rw [if_neg c1, (a5 m).1 c]; simp only; rw [if_pos c2]
          · unfold blockStep; rw [if_neg c1, (a5 m).2 c c']
        · rw [if_neg c2] at e; cases e
  | @more s s' r e _ ih =>
    rintro k out rfl
    obtain ⟨b1, b2, b3, b5⟩ := ih k out rfl
    unfold blockStep at e
    by_cases c1 : ¬ s.1 + 3 ≤ nb
    · rw [if_pos c1] at e; cases e
    · rw [if_neg c1] at e
      split at e
      · cases e
      · cases e
      · next k1 o1 hb =>
        by_cases c2 : V / 2 ^ s.1 % 2 ^ 1 = 1
        · rw [if_pos c2] at e; cases e
        · rw [if_neg c2] at e
          injection e with e
          subst e
          obtain ⟨a1, a2, a3, a4, a5⟩ := block_ok hb
          simp only at b1 b2 b5
          refine ⟨by omega, fun c => b2 (a2 c), b3, fun m => ⟨fun c => .more (s' := (k1, o1)) ?_ ((b5 m).1 c), fun c c' => ?_⟩⟩
          · unfold blockStep; rw [if_neg c1, (a5 m).1 (by omega)]; simp only; rw [if_neg c2]
          · rcases Nat.lt_or_ge m o1.length with d | d
            · refine .done ?_
              unfold blockStep; rw [if_neg c1, (a5 m).2 c d]
            · refine .more (s' := (k1, o1)) ?_ ((b5 m).2 d c')
              unfold blockStep; rw [if_neg c1, (a5 m).1 d]; simp only; rw [if_neg c2]
/-- THE BOUND: what fits is told by every bound that it fits, and by no lesser one. -/
theorem infl_most {V nb most k : Nat} {out : List UInt8} (h : infl V nb most = some (.ok k out)) :
    out.length ≤ most ∧ k ≤ nb ∧ infl V nb out.length = some (.ok k out) ∧ ∀ m, m < out.length → infl V nb m = some (.err .bound) := by
  unfold infl at h ⊢
  obtain ⟨a1, a2, a3, a5⟩ := blocks_run (of_run h) _ _ rfl
  exact ⟨a2 (by simp), a3, run_of ((a5 _).1 (Nat.le_refl _)), fun m c => run_of ((a5 m).2 (by simp) c)⟩
end Go.Proofs.YtfeljhikeddodadGreatDoor.Nf
namespace Go.Proofs.YtfeljhikeddodadGreatDoor
open Go.RowKit Pm Cn Cd Nf

section
variable {P p : Nat} {s : ByteArray} {k : Nat} {out : List UInt8} {most : Nat} {fx : Value} {t : TypeId} {xT xB xS : Value}

/-- The fixed codes, made or kept. -/
def FxAt (w : World) (P p : Nat) (fx : Value) : Prop := fx = .pointer none ∨ ∃ C, fx = .pointer (some ⟨C, 0, none⟩) ∧ CsAt w P p C fixL 288 fixD 32
theorem FxAt.ki {w w' : World} {P p : Nat} {fx : Value} (h : FxAt w P p fx) (hk : KI P p w w') : FxAt w' P p fx := by
  rcases h with h | ⟨C, e, h⟩
  · exact .inl h
  · exact .inr ⟨C, e, h.ki hk⟩
end
end Go.Proofs.YtfeljhikeddodadGreatDoor
namespace Go.Proofs.YtfeljhikeddodadGreatDoor
open Go.RowKit Pm Cn Cd Nf

end Go.Proofs.YtfeljhikeddodadGreatDoor
