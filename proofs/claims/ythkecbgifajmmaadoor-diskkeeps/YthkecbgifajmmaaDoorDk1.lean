/- A disk in memory: sectors in rows, writes in a row, the disk itself; the document's disk. -/
import Derived.Test.YthkecbgifajmmaaDoorDk0
import Derived.Test.YthkecbgifajmmaaDoorRwv
import Derived.Deep.MidRow
import Derived.Deep.AppendLies
import Derived.Lib.BufferWrite
namespace Go.Proofs.YthkecbgifajmmaaDoor
open Go.RowKit

theorem sec_info : (Tryd.prog.info? 67).map (fun i => (i.size, i.bytes)) = some (64, 64) := by kernel_rfl
theorem wri_info : (Tryd.prog.info? 71).map (fun i => (i.size, i.bytes)) = some (65, 72) := by kernel_rfl
theorem wai_info : (Tryd.prog.info? 73).map (fun i => (i.zero, i.size, i.bytes)) = some (some (.agg #[.int .i64 0, .string ⟨#[]⟩]), 2, 24) := by kernel_rfl
theorem str_info : (Tryd.prog.info? 9).map (fun i => (i.zero, i.size, i.bytes)) = some (some (.string ⟨#[]⟩), 1, 16) := by kernel_rfl

/-- The cells of a sector. -/
def secL (s : ByteArray) : List Value := Lib.byteCells s.data.toList
theorem secL_length (s : ByteArray) : (secL s).length = s.size := by simp [secL, Lib.byteCells]
theorem secL_one (s : ByteArray) : ∀ u ∈ secL s, u.oneCell' = true := Lib.byteCells_one _

/-- Sectors in a row. -/
structure SecAt (w : World) (g n : Nat) (f : Nat → ByteArray) : Prop where
  cells : ∀ i, i < n → w.rangeAt g (i * 64) (secL (f i))
  there : ∀ i, i < n → w.there g (i * 64) 64
  lt : g < w.heap.size
theorem SecAt.kept {w w' : World} {g n : Nat} {f : Nat → ByteArray} (h : SecAt w g n f) (hb : w'.heap[g]? = w.heap[g]?) : SecAt w' g n f := by
  refine ⟨fun i hi j v hv => ?_, fun i hi j hj => ?_, ?_⟩
  · rw [World.cell?_of_block (w := w) (by exact hb)]; exact h.cells i hi j v hv
  · rw [World.cell?_of_block (w := w) (by exact hb), World.frozen?_of_block (w := w) (by exact hb)]; exact h.there i hi j hj
  · have h1 := h.lt
    rcases Nat.lt_or_ge g w'.heap.size with q | q
    · exact q
    · rw [Array.getElem?_eq_none q] at hb
      rw [Array.getElem?_eq_getElem h1] at hb
      cases hb
theorem SecAt.put {w : World} {g n : Nat} {f : Nat → ByteArray} (h : SecAt w g n f) (hf : ∀ i, (f i).size = 64) (i : Nat) (hi : i < n) (s : ByteArray) (hs : s.size = 64) : SecAt (w.setCells g (i * 64) (secL s)) g n (updS f i s) := by
  have hl : (secL s).length = 64 := by rw [secL_length, hs]
  refine ⟨fun k hk => ?_, fun k hk => World.there_setCells (h.there k hk) _ _ _, ?_⟩
  · by_cases e : k = i
    · subst e
      rw [updS_at]
      exact World.rangeAt_setCells_same _ _ _ _ (by rw [hl]; exact h.there k hk)
    · rw [updS_ne _ _ _ _ e]
      refine World.rangeAt_setCells_apart (h.cells k hk) _ _ _ (.inr ?_)
      rw [secL_length, hf, hl]
      rcases Nat.lt_or_gt_of_ne e with q | q
      · left; omega
      · right; omega
  · have : ∀ (vs : List Value) (o : Nat) (w : World), (w.setCells g o vs).heap.size = w.heap.size := by
      intro vs
      induction vs with
      | nil => intro o w; rfl
      | cons v r ih => intro o w; rw [World.setCells, ih]; simp [World.setCell]
    rw [this]; exact h.lt
theorem size_setCells (g : Nat) (vs : List Value) (o : Nat) (w : World) : (w.setCells g o vs).heap.size = w.heap.size := by
  induction vs generalizing o w with
  | nil => rfl
  | cons v r ih => rw [World.setCells, ih]; simp [World.setCell]
theorem heap_setCells (g k : Nat) (vs : List Value) (o : Nat) (w : World) (h : k ≠ g) : (w.setCells g o vs).heap[k]? = w.heap[k]? := by
  induction vs generalizing o w with
  | nil => rfl
  | cons v r ih => rw [World.setCells, ih, Below.heap_setCell _ _ _ _ h]
theorem But.setCells {S : Nat → Prop} {a w : World} (h : But S a w) {g : Nat} (hg : S g) (o : Nat) (vs : List Value) : But S a (w.setCells g o vs) := by
  induction vs generalizing o w with
  | nil => exact h
  | cons v r ih => rw [World.setCells]; exact ih (h.setCell (p := ⟨g, o, none⟩) hg v) _

/-- The cells of writes. -/
def wriL (x : Nat × ByteArray) : List Value := .int .i64 (x.1 : Int) :: secL x.2
theorem wriL_length (x : Nat × ByteArray) (h : x.2.size = 64) : (wriL x).length = 65 := by simp [wriL, secL_length, h]
theorem wriL_one (x : Nat × ByteArray) : ∀ u ∈ wriL x, u.oneCell' = true := fun u hu => by
  rcases List.mem_cons.1 hu with rfl | hu
  · rfl
  · exact secL_one _ u hu
def wriV : List (Nat × ByteArray) → List Value
  | [] => []
  | x :: l => wriL x ++ wriV l
theorem wriV_append (a b : List (Nat × ByteArray)) : wriV (a ++ b) = wriV a ++ wriV b := by
  induction a with
  | nil => rfl
  | cons x a ih => simp [wriV, ih]
theorem wriV_one (l : List (Nat × ByteArray)) : ∀ u ∈ wriV l, u.oneCell' = true := by
  induction l with
  | nil => intro u hu; cases hu
  | cons x l ih => intro u hu; rcases List.mem_append.1 hu with h | h; exact wriL_one x u h; exact ih u h
theorem wriV_length {l : List (Nat × ByteArray)} (h : ∀ x ∈ l, x.2.size = 64) : (wriV l).length = l.length * 65 := by
  induction l with
  | nil => rfl
  | cons x l ih => rw [wriV, List.length_append, ih (fun y hy => h y (by simp [hy])), wriL_length x (h x (by simp)), List.length_cons]; omega
theorem wriV_at {l : List (Nat × ByteArray)} (h : ∀ x ∈ l, x.2.size = 64) (k j : Nat) (hk : k < l.length) (hj : j < 65) : (wriV l)[k * 65 + j]? = (wriL (wat l k))[j]? := by
  induction l generalizing k with
  | nil => simp at hk
  | cons x l ih =>
    have hx := wriL_length x (h x (by simp))
    cases k with
    | zero => rw [wriV, List.getElem?_append_left (by omega), Nat.zero_mul, Nat.zero_add]; rfl
    | succ k =>
      rw [wriV, List.getElem?_append_right (by omega), hx, show (k + 1) * 65 + j - 65 = k * 65 + j by omega, ih (fun y hy => h y (by simp [hy])) k (by simpa using hk)]
      rfl

/-- Strings as cells. -/
def strL (f : Nat → ByteArray) (n : Nat) : List Value := (List.range n).map fun i => .string (f i)
theorem strL_length (f : Nat → ByteArray) (n : Nat) : (strL f n).length = n := by simp [strL]
theorem strL_at (f : Nat → ByteArray) (n i : Nat) (h : i < n) : (strL f n)[i]? = some (.string (f i)) := by simp [strL, h]
theorem strL_succ (f : Nat → ByteArray) (n : Nat) : strL f (n + 1) = strL f n ++ [.string (f n)] := by simp [strL, List.range_succ]
theorem strL_one (f : Nat → ByteArray) (n : Nat) : ∀ u ∈ strL f n, u.oneCell' = true := fun u hu => by
  obtain ⟨i, _, rfl⟩ := List.mem_map.1 hu
  rfl
theorem strL_set (f : Nat → ByteArray) (n i : Nat) (s : ByteArray) (h : i < n) : (strL f n).set i (.string s) = strL (updS f i s) n := by
  apply List.ext_getElem?
  intro j
  rw [List.getElem?_set]
  by_cases e : i = j
  · subst e
    rw [if_pos rfl, if_pos (by rw [strL_length]; exact h), strL_at _ _ _ h, updS_at]
  · rw [if_neg e]
    by_cases hj : j < n
    · rw [strL_at _ _ _ hj, strL_at _ _ _ hj, updS_ne _ _ _ _ (fun q => e q.symm)]
    · rw [List.getElem?_eq_none (by rw [strL_length]; omega), List.getElem?_eq_none (by rw [strL_length]; omega)]
/-- The document's waiting writes. -/
def waiL (x : Nat × ByteArray) : List Value := [.int .i64 (x.1 : Int), .string x.2]
def waiV : List (Nat × ByteArray) → List Value
  | [] => []
  | x :: l => waiL x ++ waiV l
theorem waiV_append (a b : List (Nat × ByteArray)) : waiV (a ++ b) = waiV a ++ waiV b := by
  induction a with
  | nil => rfl
  | cons x a ih => simp [waiV, ih]
theorem waiV_length (l : List (Nat × ByteArray)) : (waiV l).length = l.length * 2 := by
  induction l with
  | nil => rfl
  | cons x l ih => rw [waiV, List.length_append, ih, List.length_cons]; simp only [waiL, List.length_cons, List.length_nil]; omega
theorem waiV_at (l : List (Nat × ByteArray)) (k j : Nat) (hk : k < l.length) (hj : j < 2) : (waiV l)[k * 2 + j]? = (waiL (wat l k))[j]? := by
  induction l generalizing k with
  | nil => simp at hk
  | cons x l ih =>
    cases k with
    | zero => rw [waiV, List.getElem?_append_left (by simp [waiL]; omega), Nat.zero_mul, Nat.zero_add]; rfl
    | succ k =>
      rw [waiV, List.getElem?_append_right (by simp [waiL]; omega), show (k + 1) * 2 + j - (waiL x).length = k * 2 + j by simp [waiL]; omega, ih k (by simpa using hk)]
      rfl

def blkS (s : Option Addr) : Option Nat := s.map (·.block)

/-- Where the blocks of two things lie apart. -/
def Dj (a b : List Nat) : Prop := ∀ k, k ∈ a → k ∉ b
theorem Dj.symm {a b : List Nat} (h : Dj a b) : Dj b a := fun k h1 h2 => h k h2 h1
/-- What a call on a thing does: all but its blocks is as it was; its blocks behind it are its blocks ahead of it, or new. -/
structure Mv (fp fp' : List Nat) (w w' : World) : Prop where
  but : But (· ∈ fp) w w'
  new : ∀ k, k ∈ fp' → k ∈ fp ∨ w.heap.size ≤ k
theorem Mv.refl (fp : List Nat) (w : World) : Mv fp fp w w := ⟨But.refl _ _, fun _ h => .inl h⟩
theorem Mv.of_below (fp : List Nat) {w w' : World} (h : Below w.heap.size w w') : Mv fp fp w w' := ⟨(But.refl _ _).of_below h (fun k h1 h2 => by omega), fun _ h => .inl h⟩
theorem Mv.trans {a b c : List Nat} {w w' w'' : World} (h : Mv a b w w') (k : Mv b c w' w'') : Mv a c w w'' := by
  refine ⟨⟨k.but.os.trans h.but.os, k.but.tape.trans h.but.tape, k.but.output.trans h.but.output, Nat.le_trans h.but.size k.but.size, fun i hi hs => ?_⟩, fun i hi => ?_⟩
  · rw [k.but.block i (Nat.lt_of_lt_of_le hi h.but.size) (fun q => by rcases h.new i q with q | q; exact hs q; omega)]
    exact h.but.block i hi hs
  · rcases k.new i hi with q | q
    · exact h.new i q
    · exact .inr (Nat.le_trans h.but.size q)
theorem Mv.dj {a a' b : List Nat} {w w' : World} (h : Mv a a' w w') (hb : ∀ k, k ∈ b → k < w.heap.size) (hd : Dj a b) : Dj a' b := fun k h1 h2 => by
  rcases h.new k h1 with q | q
  · exact hd k q h2
  · have := hb k h2; omega
theorem Mv.from_ {a b : List Nat} {w w' : World} {B : Nat} (h : Mv a b w w') (hB : B ≤ w.heap.size) (ha : ∀ k, k ∈ a → B ≤ k) : ∀ k, k ∈ b → B ≤ k := fun k hk => by
  rcases h.new k hk with q | q
  · exact ha k q
  · omega
theorem Mv.below {a b : List Nat} {w w' : World} {B : Nat} (h : Mv a b w w') (hB : B ≤ w.heap.size) (ha : ∀ k, k ∈ a → B ≤ k) : Below B w w' := h.but.below hB (fun k hk q => by have := ha k q; omega)

/-- The program's disk in memory. -/
structure DP (w : World) (q n g1 c1 g2 c2 : Nat) (sw : Option Addr) (cw : Nat) (z : Int) (D : DkS) : Prop where
  box : w.heap[q]? = some (.cells #[.bool D.pw.isSome, .int .i64 (match D.pw with | none => z | some k => (k : Int)), .slice (some ⟨g1, 0, none⟩) n c1, .slice (some ⟨g2, 0, none⟩) n c2, .slice sw D.ws.length cw] 58)
  now : SecAt w g1 n D.now
  kept : SecAt w g2 n D.kept
  ws : w.ownsRow 0 71 65 (.slice sw D.ws.length cw) D.ws.length (wriV D.ws)
  b1 : n ≤ c1
  b2 : n ≤ c2
  m1 : c1 ≤ maxLen
  m2 : c2 ≤ maxLen
  pb : ∀ k, D.pw = some k → k ≤ 9223372036854775807
  nd : (q :: g1 :: g2 :: (blkS sw).toList).Nodup
def DAt (w : World) (q n : Nat) (fp : List Nat) (D : DkS) : Prop := ∃ g1 c1 g2 c2 sw cw z, fp = q :: g1 :: g2 :: (blkS sw).toList ∧ DP w q n g1 c1 g2 c2 sw cw z D

theorem own_lt {w : World} {base n cap k : Nat} {e : TypeId} {s : Option Addr} {xs : List Value} (h : w.ownsRow base e k (.slice s n cap) n xs) : ∀ b, b ∈ (blkS s).toList → b < w.heap.size := fun b hb => by
  rcases s with _ | ⟨g, o, sp⟩
  · simp [blkS] at hb
  · simp [blkS] at hb
    subst hb
    exact (h.lt b rfl).2
theorem own_keep {w w' : World} {base n cap k : Nat} {e : TypeId} {s : Option Addr} {xs : List Value} (h : w.ownsRow base e k (.slice s n cap) n xs) (hb : ∀ b, b ∈ (blkS s).toList → w'.heap[b]? = w.heap[b]?) : w'.ownsRow base e k (.slice s n cap) n xs := by
  refine ⟨h.1, ?_⟩
  rcases h.2 with q | ⟨g, cap', cur, e1, h1, h2, r⟩
  · exact .inl q
  · injection e1 with e1 e2 e3
    subst e1
    exact .inr ⟨g, cap', cur, by rw [e3], h1, (hb g (by simp [blkS])).trans h2, r⟩
theorem DAt.lt {w : World} {q n : Nat} {fp : List Nat} {D : DkS} (h : DAt w q n fp D) : ∀ k, k ∈ fp → k < w.heap.size := by
  obtain ⟨g1, c1, g2, c2, sw, cw, z, rfl, hp⟩ := h
  intro k hk
  rcases List.mem_cons.1 hk with rfl | hk
  · exact blk_lt hp.box
  rcases List.mem_cons.1 hk with rfl | hk
  · exact hp.now.lt
  rcases List.mem_cons.1 hk with rfl | hk
  · exact hp.kept.lt
  exact own_lt hp.ws k hk
theorem DAt.keep {w w' : World} {q n : Nat} {fp : List Nat} {D : DkS} (h : DAt w q n fp D) (hb : ∀ k, k ∈ fp → w'.heap[k]? = w.heap[k]?) : DAt w' q n fp D := by
  obtain ⟨g1, c1, g2, c2, sw, cw, z, rfl, hp⟩ := h
  exact ⟨g1, c1, g2, c2, sw, cw, z, rfl, (hb q (by simp)).trans hp.box, hp.now.kept (hb g1 (by simp)), hp.kept.kept (hb g2 (by simp)), own_keep hp.ws (fun b h => hb b (by simp only [List.mem_cons]; exact .inr (.inr (.inr h)))), hp.b1, hp.b2, hp.m1, hp.m2, hp.pb, hp.nd⟩
theorem DAt.mv {w w' : World} {q n : Nat} {fp a a' : List Nat} {D : DkS} (h : DAt w q n fp D) (hm : Mv a a' w w') (hd : Dj fp a) : DAt w' q n fp D :=
  h.keep fun k hk => hm.but.block k (h.lt k hk) (hd k hk)
theorem DAt.below {w w' : World} {q n : Nat} {fp : List Nat} {D : DkS} (h : DAt w q n fp D) (hb : Below w.heap.size w w') : DAt w' q n fp D := h.keep fun k hk => hb.block k (h.lt k hk)

/-- The document's disk in memory. -/
structure MP (w : World) (p n : Nat) (sk : Option Addr) (ck : Nat) (sn : Option Addr) (cn : Nat) (sw : Option Addr) (cw : Nat) (D : DkS) : Prop where
  box : w.heap[p]? = some (.cells #[.slice sk n ck, .slice sn n cn, .slice sw D.ws.length cw, .int .i64 (match D.pw with | none => -1 | some k => (k : Int))] 44)
  kept : w.ownsRow 0 9 1 (.slice sk n ck) n (strL D.kept n)
  now : w.ownsRow 0 9 1 (.slice sn n cn) n (strL D.now n)
  ws : w.ownsRow 0 73 2 (.slice sw D.ws.length cw) D.ws.length (waiV D.ws)
  pb : ∀ k, D.pw = some k → k ≤ 9223372036854775807
  nd : (p :: ((blkS sk).toList ++ ((blkS sn).toList ++ (blkS sw).toList))).Nodup
def MAt (w : World) (p n : Nat) (fp : List Nat) (D : DkS) : Prop := ∃ sk ck sn cn sw cw, fp = p :: ((blkS sk).toList ++ ((blkS sn).toList ++ (blkS sw).toList)) ∧ MP w p n sk ck sn cn sw cw D
theorem MAt.lt {w : World} {p n : Nat} {fp : List Nat} {D : DkS} (h : MAt w p n fp D) : ∀ k, k ∈ fp → k < w.heap.size := by
  obtain ⟨sk, ck, sn, cn, sw, cw, rfl, hp⟩ := h
  intro k hk
  rcases List.mem_cons.1 hk with rfl | hk
  · exact blk_lt hp.box
  rcases List.mem_append.1 hk with hk | hk
  · exact own_lt hp.kept k hk
  rcases List.mem_append.1 hk with hk | hk
  · exact own_lt hp.now k hk
  exact own_lt hp.ws k hk
theorem MAt.keep {w w' : World} {p n : Nat} {fp : List Nat} {D : DkS} (h : MAt w p n fp D) (hb : ∀ k, k ∈ fp → w'.heap[k]? = w.heap[k]?) : MAt w' p n fp D := by
  obtain ⟨sk, ck, sn, cn, sw, cw, rfl, hp⟩ := h
  exact ⟨sk, ck, sn, cn, sw, cw, rfl, (hb p (by simp)).trans hp.box, own_keep hp.kept (fun b h => hb b (List.mem_cons_of_mem _ (List.mem_append_left _ h))), own_keep hp.now (fun b h => hb b (List.mem_cons_of_mem _ (List.mem_append_right _ (List.mem_append_left _ h)))), own_keep hp.ws (fun b h => hb b (List.mem_cons_of_mem _ (List.mem_append_right _ (List.mem_append_right _ h)))), hp.pb, hp.nd⟩
theorem MAt.mv {w w' : World} {p n : Nat} {fp a a' : List Nat} {D : DkS} (h : MAt w p n fp D) (hm : Mv a a' w w') (hd : Dj fp a) : MAt w' p n fp D :=
  h.keep fun k hk => hm.but.block k (h.lt k hk) (hd k hk)
theorem MAt.below {w w' : World} {p n : Nat} {fp : List Nat} {D : DkS} (h : MAt w p n fp D) (hb : Below w.heap.size w w') : MAt w' p n fp D := h.keep fun k hk => hb.block k (h.lt k hk)
end Go.Proofs.YthkecbgifajmmaaDoor
