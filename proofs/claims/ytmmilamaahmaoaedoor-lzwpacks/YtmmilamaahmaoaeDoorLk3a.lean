/- Walk: the document's packing of numbers. -/
import Derived.Test.YtmmilamaahmaoaeDoorLk1
import Derived.Test.YtmmilamaahmaoaeDoorLk2
import Derived.Test.YtmmilamaahmaoaeDoorBR
import Derived.Test.YtmmilamaahmaoaeDoorWp
import Derived.Deep.RegionHeld
namespace Go.Proofs.YtmmilamaahmaoaeDoor
open Go.RowKit Lz
open Ps (Pc len val Fit)

theorem shl_wrapK (W : Nat) (h : W ≤ 12) : wrap64 ((2 : Int) ^ W) = ((2 ^ W : Nat) : Int) := by
  have h1 : 2 ^ W ≤ 2 ^ 12 := Nat.pow_le_pow_right (by omega) h
  rw [show ((2 : Int) ^ W) = ((2 ^ W : Nat) : Int) from by simp]
  generalize 2 ^ W = p at *
  unfold wrap64
  omega
theorem shl_u32K (W : Nat) (h : W ≤ 12) : (2 : Int) ^ W % 4294967296 = ((2 ^ W : Nat) : Int) := by
  have h1 : 2 ^ W ≤ 2 ^ 12 := Nat.pow_le_pow_right (by omega) h
  rw [show ((2 : Int) ^ W) = ((2 ^ W : Nat) : Int) from by simp]
  generalize 2 ^ W = p at *
  omega
theorem eq_pow {a S Y : Nat} (hS : wrap64 ((2 : Int) ^ S) = (Y : Int)) (h : a = Y) : ((a : Int) == wrap64 ((2 : Int) ^ S)) = true := by rw [hS, h]; simp
theorem ne_pow {a S Y : Nat} (hS : wrap64 ((2 : Int) ^ S) = (Y : Int)) (h : ¬ a = Y) : ((a : Int) == wrap64 ((2 : Int) ^ S)) = false := by
  rw [hS, beq_eq_false_iff_ne]
  intro q
  exact h (Int.ofNat_inj.1 q)
theorem eq_powA {X i S Y : Nat} (hS : wrap64 ((2 : Int) ^ S) = (Y : Int)) (h : X + 2 + i = Y) : ((X : Int) + 2 + (i : Int) == wrap64 ((2 : Int) ^ S)) = true := eq_pow (a := X + 2 + i) hS h
theorem ne_powA {X i S Y : Nat} (hS : wrap64 ((2 : Int) ^ S) = (Y : Int)) (h : ¬ X + 2 + i = Y) : ((X : Int) + 2 + (i : Int) == wrap64 ((2 : Int) ^ S)) = false := ne_pow (a := X + 2 + i) hS h
theorem eq_natA {X i Y : Nat} (h : X + 2 + i = Y) : ((X : Int) + 2 + (i : Int) == (Y : Int)) = true := by rw [← h]; simp
theorem ne_natA {X i Y : Nat} (h : ¬ X + 2 + i = Y) : ((X : Int) + 2 + (i : Int) == (Y : Int)) = false := by
  rw [beq_eq_false_iff_ne]
  intro q
  exact h (by omega)
theorem pow12 (S : Nat) (h : S ≤ 12) : 2 ^ S ≤ 4096 := Nat.pow_le_pow_right (n := 2) (j := 12) (by omega) h

/-- The document's packing in memory. -/
structure DM (w : World) (B W : Nat) (vB vL : Value) (T : List (List UInt8)) (ls : List Pc) : Prop where
  bits : OwnM w B vB (Bt.bl (len ls) (val ls))
  list : w.ownsRow B 73 2 vL T.length (lstV (2 ^ W + 2) T)
  apart : ∀ k, vB.ownBlock = some k → vL.ownBlock ≠ some k

theorem list_keep {w w' : World} {B n : Nat} {vL : Value} {xs : List Value} (h : w.ownsRow B 73 2 vL n xs) (hb : ∀ k, vL.ownBlock = some k → w'.heap[k]? = w.heap[k]?) : w'.ownsRow B 73 2 vL n xs := by
  refine ⟨h.1, ?_⟩
  rcases h.2 with q | ⟨g, cap, cur, rfl, hg, hh, r⟩
  · exact .inl q
  · exact .inr ⟨g, cap, cur, rfl, hg, by rw [hb g rfl]; exact hh, r⟩
theorem DM.below {w w' : World} {B W : Nat} {vB vL : Value} {T : List (List UInt8)} {ls : List Pc} (h : DM w B W vB vL T ls) (hb : Below w.heap.size w w') : DM w' B W vB vL T ls :=
  ⟨h.bits.below hb, list_keep h.list (fun k e => hb.block k (h.list.lt k e).2), h.apart⟩
/-- But for a block that is none of the two. -/
theorem DM.but {w w' : World} {B W p : Nat} {vB vL : Value} {T : List (List UInt8)} {ls : List Pc} (h : DM w B W vB vL T ls) (hb : But (· = p) w w') (h1 : vB.ownBlock ≠ some p) (h2 : vL.ownBlock ≠ some p) : DM w' B W vB vL T ls :=
  ⟨h.bits.keep (fun k e => hb.block k (h.bits.lt k e).2 (fun q => h1 (by rw [e, q]))) hb.size, list_keep h.list (fun k e => hb.block k (h.list.lt k e).2 (fun q => h2 (by rw [e, q]))), h.apart⟩
theorem OwnM.mono {w : World} {base base' : Nat} {v : Value} {l : List UInt8} (h : OwnM w base v l) (hb : base' ≤ base) : OwnM w base' v l := by
  obtain ⟨g, cap, e, hg, r⟩ := h.ex
  exact ⟨⟨g, cap, e, by omega, r⟩⟩
theorem DM.pushB {w w' : World} {B W : Nat} {vB vL vB' : Value} {T : List (List UInt8)} {ls : List Pc} {q : Pc} (h : DM w B W vB vL T ls) (ho : OwnM w' B vB' (Bt.bl (len (ls ++ [q])) (val (ls ++ [q])))) (hg : w.grownBy w' vB.ownBlock) (hat : vB'.ownBlock = vB.ownBlock ∨ vB'.ownBlock = some w.heap.size) (hB : B ≤ w.heap.size) : DM w' B W vB' vL T (ls ++ [q]) ∧ Below B w w' := by
  refine ⟨⟨ho, list_keep h.list (fun k e => hg.block k (h.list.lt k e).2 (fun q => h.apart k q.symm e)), fun k e1 e2 => ?_⟩, ⟨hg.os, hg.tape, hg.output, hg.size, fun k hk => hg.block k (by omega) (fun e => by have := (h.bits.lt k e.symm).1; omega)⟩⟩
  rcases hat with e | e
  · exact h.apart k (e ▸ e1) e2
  · rw [e1] at e
    injection e with e
    have := (h.list.lt k e2).2
    omega
theorem DM.pushL {w w0 w' : World} {B W : Nat} {vB vL vL' : Value} {T : List (List UInt8)} {x : List UInt8} {ls : List Pc} (h : DM w B W vB vL T ls) (h0 : Below w.heap.size w w0) (ho : w'.ownsRow B 73 2 vL' (T ++ [x]).length (lstV (2 ^ W + 2) (T ++ [x]))) (hg : w0.grownBy w' vL.ownBlock) (hat : vL'.ownBlock = vL.ownBlock ∨ vL'.ownBlock = some w0.heap.size) (hB : B ≤ w.heap.size) : DM w' B W vB vL' (T ++ [x]) ls ∧ Below B w w' := by
  have hs0 := h0.size
  refine ⟨⟨h.bits.keep (fun k e => ?_) (Nat.le_trans hs0 hg.size), ho, fun k e1 e2 => ?_⟩, ⟨hg.os.trans h0.os, hg.tape.trans h0.tape, hg.output.trans h0.output, Nat.le_trans hs0 hg.size, fun k hk => ?_⟩⟩
  · have hl := (h.bits.lt k e).2
    rw [hg.block k (by omega) (fun q => h.apart k e q.symm), h0.block k hl]
  · rcases hat with e | e
    · exact h.apart k e1 (e ▸ e2)
    · rw [e2] at e
      injection e with e
      have := (h.bits.lt k e1).2
      omega
  · rw [hg.block k (by omega) (fun e => by have := (h.list.lt k e.symm).1; omega), h0.block k (by omega)]
theorem DM.none_ {w : World} {B W : Nat} {vB vL : Value} {T : List (List UInt8)} {ls : List Pc} (h : DM w B W vB vL T ls) : DM w B W vB (.slice none 0 0) [] ls :=
  ⟨h.bits, World.ownsRow_nil w B _ 2, fun k _ e => by simp [Value.ownBlock] at e⟩
theorem DM.word {w : World} {B W n cL : Nat} {vB : Value} {aL : Option Addr} {T : List (List UInt8)} {ls : List Pc} (h : DM w B W vB (.slice aL n cL) T ls) (hn : n = T.length) (i : Nat) (hi : i < n) : ∃ g, aL = some ⟨g, 0, none⟩ ∧ w.cell? ⟨g, i * 2, none⟩ = some (.string ⟨(T.getD i []).toArray⟩) ∧ w.cell? ⟨g, i * 2 + 1, none⟩ = some (.int .i64 ((2 ^ W + 2 + i : Nat) : Int)) := by
  subst hn
  obtain ⟨h1, h2⟩ := lstV_at T (2 ^ W + 2) i hi
  rcases h.list.2 with ⟨e, e2⟩ | ⟨g, cap, cur, e, _⟩
  · omega
  · injection e with e1 e2 e3
    subst e1 e3
    exact ⟨g, rfl, (h.list.cellAt (i * 2) (by omega)).trans h1, (h.list.cellAt (i * 2 + 1) (by omega)).trans h2⟩

theorem bl_more {l : List Pc} (hf : Fit l) (q : Pc) : Bt.bl (len l) (val l) ++ Bt.bl q.2 q.1 = Bt.bl (len (l ++ [q])) (val (l ++ [q])) := by
  rw [Bt.bl_append _ _ _ _ (Ps.val_lt hf), Ps.len_append, Ps.val_append]
  simp [len, val]

theorem own_shapeL {w : World} {base size n : Nat} {e : TypeId} {v : Value} {xs : List Value} (h : w.ownsRow base e size v n xs) : ∃ a c, v = .slice a n c := by
  rcases h.2 with ⟨rfl, rfl⟩ | ⟨g, c, cur, rfl, _⟩
  · exact ⟨none, 0, rfl⟩
  · exact ⟨_, c, rfl⟩
theorem size_of (y : ByteArray) {l : List UInt8} (h : y.data.toList = l) : y.size = l.length := by
  rw [← h]; simp
theorem mid_text (s : ByteArray) (k n : Nat) : (s.extract k (k + n)).data.toList = (s.data.toList.drop k).take n := by
  simp [List.take_drop]
theorem two_newA (w : World) (v0 v1 : Value) (t : TypeId) : (w.alloc (.cells #[v0, v1] t)).drew.cell? ⟨w.heap.size, 0, none⟩ = some v0 := by
  show (w.alloc (.cells #[v0, v1] t)).cell? _ = _
  simp
theorem two_newB (w : World) (v0 v1 : Value) (t : TypeId) : (w.alloc (.cells #[v0, v1] t)).drew.cell? ⟨w.heap.size, 1, none⟩ = some v1 := by
  show (w.alloc (.cells #[v0, v1] t)).cell? _ = _
  simp
theorem two_newF (w : World) (v0 v1 : Value) (t : TypeId) (j : Nat) : (w.alloc (.cells #[v0, v1] t)).drew.frozen? ⟨w.heap.size, j, none⟩ = false := by
  show (w.alloc (.cells #[v0, v1] t)).frozen? _ = _
  simp
theorem one_text (s : ByteArray) (k : Nat) (h : k < s.size) : (s.extract k (k + 1)).data.toList = [s[k]] := by
  have h' : k < s.data.toList.length := by simpa using h
  simp only [ByteArray.data_extract, Array.toList_extract, List.extract_eq_take_drop]
  rw [List.drop_eq_getElem_cons h', Nat.add_sub_cancel_left]
  simp
  rfl
theorem drop_one (s : ByteArray) (k : Nat) (h : k < s.size) : s.data.toList.drop k = s[k] :: s.data.toList.drop (k + 1) := by
  have h' : k < s.data.toList.length := by simpa using h
  rw [List.drop_eq_getElem_cons h']
  simp
  rfl
end Go.Proofs.YtmmilamaahmaoaeDoor
