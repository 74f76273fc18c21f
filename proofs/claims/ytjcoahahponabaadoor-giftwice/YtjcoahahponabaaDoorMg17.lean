/- Rows of bytes that are made (cut out of Pe5). Colors and how often each is used. Plain. Rows of colors and how often each is used. Rows of numbers (cut out of Cu7). -/
import Derived.Test.YtjcoahahponabaaDoorOm
import Derived.Deep.OwnRows
import Derived.Test.YtjcoahahponabaaDoorMg1
import Derived.Test.YtjcoahahponabaaDoorMg4
import Derived.Test.YtjcoahahponabaaDoorMg5
namespace Go.Proofs.YtjcoahahponabaaDoor
open Go.RowKit

/-- A byte in it is another one. -/
theorem OwnM.put {w : World} {base g cap : Nat} {l : List UInt8} (h : OwnM w base (.slice (some ⟨g, 0, none⟩) l.length cap) l) (i : Nat) (hi : i < l.length) (b : UInt8) : OwnM (w.setCell ⟨g, i, none⟩ (.int .u8 (b.toNat : Int))) base (.slice (some ⟨g, 0, none⟩) l.length cap) (l.set i b) := by
  obtain ⟨g', cap', e, hg, hgl, hlc, hcm, hfree, hcell⟩ := h.ex
  injection e with e1 e2 e3
  injection e1 with e1
  injection e1 with e1
  subst e1
  subst e3
  refine ⟨⟨g, cap, by rw [List.length_set], hg, by simpa [World.setCell] using hgl, by rw [List.length_set]; exact hlc, hcm, fun j hj => ⟨?_, ?_⟩, fun j hj => ?_⟩⟩
  · by_cases e : j = i
    · subst e
      have hc := (hfree j hj).1
      rw [hcell j hi] at hc
      simp [go_sem, hcell j hi]
    · rw [World.cell?_setCell_other _ _ _ _ (fun q => e (by injection q with _ q; exact q.symm))]
      exact (hfree j hj).1
  · have := (hfree j hj).2
    simp [go_sem, this]
  · rw [List.length_set] at hj
    by_cases e : j = i
    · subst e
      simp [go_sem, hcell j hi]
    · rw [World.cell?_setCell_other _ _ _ _ (fun q => e (by injection q with _ q; exact q.symm)), List.getElem_set_ne (fun q => e q.symm)]
      exact hcell j hj

theorem mk_bytes (n : Nat) (hn : n ≤ 4000000) (w : World) : (Instr.makeSlice 73 (.int .i64 (n : Int)) (.int .i64 (n : Int))).run Tryd.prog w = .ok (.slice (some ⟨w.heap.size, 0, none⟩) n n) (w.alloc (.cells (madeCells #[.int .u8 0] n) 5)) :=
  run_make_row' (P := Tryd.prog) 73 5 (.int .u8 0) 1 Tryd.underlying73 info_u8 rfl .i64 .i64 n (by omega) (by omega) w
theorem bytes_made (n : Nat) (hn : n ≤ 4000000) (w : World) : OwnM (w.alloc (.cells (madeCells #[.int .u8 0] n) 5)) w.heap.size (.slice (some ⟨w.heap.size, 0, none⟩) n n) (List.replicate n 0) := by
  have hc : ∀ j, j < n → (madeCells #[.int .u8 0] n)[j]? = some (.int .u8 0) := fun j hj => by
    have e := toList_madeCells_one (.int .u8 0) n
    have : (madeCells #[.int .u8 0] n).toList[j]? = some (.int .u8 0) := by rw [e, List.getElem?_replicate, if_pos hj]
    simpa using this
  refine ⟨⟨w.heap.size, n, by rw [List.length_replicate], Nat.le_refl _, by simp, by simp, by unfold maxLen; omega, fun j hj => ⟨?_, ?_⟩, fun j hj => ?_⟩⟩
  · rw [World.cell?_alloc_mark, hc j hj]
    rfl
  · have hh := heap_alloc_new w (.cells (madeCells #[.int .u8 0] n) 5)
    unfold World.frozen?
    rw [hh]
    simp
  · rw [List.length_replicate] at hj
    rw [World.cell?_alloc_mark, hc j hj]
    simp

end Go.Proofs.YtjcoahahponabaaDoor
namespace Go.Proofs.YtjcoahahponabaaDoor

/-- A color, and how often it is used. -/
structure Us where
  c : Px
  t : Nat
instance : Inhabited Us := ⟨⟨default, 0⟩⟩
/-- How often a pixel is met among the first. -/
def tms (p : Nat → Px) : Nat → Px → Nat
  | 0, _ => 0
  | i + 1, x => tms p i x + if x = p i then 1 else 0
/-- The unlike ones of the first n, with how often they are met among the first i. -/
def cntH (p : Nat → Px) (n i : Nat) : List Us := (ulk p n).map fun x => ⟨x, tms p i x⟩
def ucnt (p : Nat → Px) (n : Nat) : List Us := cntH p n n
theorem cntH_length (p : Nat → Px) (n i : Nat) : (cntH p n i).length = (ulk p n).length := by simp [cntH]
theorem ucnt_length (p : Nat → Px) (n : Nat) : (ucnt p n).length = (ulk p n).length := cntH_length p n n
theorem tms_none (p : Nat → Px) (i : Nat) {x : Px} (h : x ∉ ulk p i) : tms p i x = 0 := by
  induction i with
  | zero => rfl
  | succ i ih =>
    have hx : x ∉ ulk p i := fun q => by
      obtain ⟨r, hr⟩ := ulk_front p (show i ≤ i + 1 by omega)
      exact h (by rw [hr]; exact List.mem_append_left _ q)
    have hn : x ≠ p i := fun q => h (by rw [q]; exact ulk_has p (by omega))
    show tms p i x + (if x = p i then 1 else 0) = 0
    rw [ih hx, if_neg hn]
theorem tms_le (p : Nat → Px) (i : Nat) (x : Px) : tms p i x ≤ i := by
  induction i with
  | zero => exact Nat.le_refl _
  | succ i ih =>
    show tms p i x + (if x = p i then 1 else 0) ≤ i + 1
    split <;> omega
theorem tms_pos (p : Nat → Px) (n : Nat) {x : Px} (h : x ∈ ulk p n) : 1 ≤ tms p n x := by
  induction n with
  | zero => simp [ulk] at h
  | succ n ih =>
    show 1 ≤ tms p n x + (if x = p n then 1 else 0)
    by_cases e : x = p n
    · rw [if_pos e]; omega
    · have : x ∈ ulk p n := by
        have h' : x ∈ addP (ulk p n) (p n) := h
        unfold addP at h'
        split at h'
        · exact h'
        · rcases List.mem_append.1 h' with q | q
          · exact q
          · exact absurd (by simpa using q) e
      have := ih this
      omega
/-- Ahead of the round: as it was, or with one more that is not used yet. -/
theorem cntH_old (p : Nat → Px) (i : Nat) (h : p i ∈ ulk p i) : cntH p (i + 1) i = ucnt p i := by
  have e : ulk p (i + 1) = ulk p i := by show addP _ _ = _; unfold addP; rw [if_pos h]
  unfold ucnt cntH
  rw [e]
theorem cntH_new (p : Nat → Px) (i : Nat) (h : p i ∉ ulk p i) : cntH p (i + 1) i = ucnt p i ++ [⟨p i, 0⟩] := by
  have e : ulk p (i + 1) = ulk p i ++ [p i] := by show addP _ _ = _; unfold addP; rw [if_neg h]
  unfold ucnt cntH
  rw [e, List.map_append]
  show _ ++ [(⟨p i, tms p i (p i)⟩ : Us)] = _
  rw [tms_none p i h]
theorem map_set_at {f g : Px → Us} : ∀ (l : List Px) (x : Px), l.Nodup → x ∈ l → (l.map f).set (l.idxOf x) (g x) = l.map (fun y => if y = x then g y else f y)
  | [], x, _, h => by simp at h
  | y :: l, x, hn, h => by
    rw [List.nodup_cons] at hn
    by_cases e : y = x
    · subst e
      rw [List.idxOf_cons_self]
      show g y :: l.map f = (if y = y then g y else f y) :: l.map _
      rw [if_pos rfl]
      congr 1
      refine List.map_congr_left (fun z hz => ?_)
      rw [if_neg (fun q => hn.1 (by rw [← q]; exact hz))]
    · have hx : x ∈ l := by
        rcases List.mem_cons.1 h with q | q
        · exact absurd q.symm e
        · exact q
      have hb : (y == x) = false := by simpa using e
      rw [List.idxOf_cons, hb]
      show f y :: (l.map f).set (l.idxOf x) (g x) = (if y = x then g y else f y) :: l.map _
      rw [if_neg e, map_set_at l x hn.2 hx]
/-- The round: one more of its like. -/
theorem ucnt_succ (p : Nat → Px) (i : Nat) : (cntH p (i + 1) i).set (nmb p i) ⟨p i, tms p i (p i) + 1⟩ = ucnt p (i + 1) := by
  have hm : p i ∈ ulk p (i + 1) := ulk_has p (by omega)
  have h := map_set_at (f := fun x => (⟨x, tms p i x⟩ : Us)) (g := fun x => (⟨x, tms p i x + 1⟩ : Us)) (ulk p (i + 1)) (p i) (ulk_nodup p _) hm
  unfold cntH nmb
  rw [h]
  unfold ucnt cntH
  refine List.map_congr_left (fun y _ => ?_)
  by_cases e : y = p i
  · rw [if_pos e]
    show (⟨y, tms p i y + 1⟩ : Us) = ⟨y, tms p i y + if y = p i then 1 else 0⟩
    rw [if_pos e]
  · rw [if_neg e]
    show (⟨y, tms p i y⟩ : Us) = ⟨y, tms p i y + if y = p i then 1 else 0⟩
    rw [if_neg e]
    rfl
theorem cntH_at (p : Nat → Px) (i : Nat) : (cntH p (i + 1) i)[nmb p i]? = some ⟨p i, tms p i (p i)⟩ := by
  unfold cntH
  rw [List.getElem?_map, nmb_at p (show i < i + 1 by omega)]
  rfl
theorem cntH_lt (p : Nat → Px) (i : Nat) : nmb p i < (cntH p (i + 1) i).length := by rw [cntH_length]; exact nmb_lt p (by omega)

/-- What is told of all pixels is told of the unlike ones, as often as they are used. -/
def sumN (f : Nat → Nat) : Nat → Nat
  | 0 => 0
  | i + 1 => sumN f i + f i
def sumU (F : Px → Nat) (l : List Us) : Nat := (l.map fun u => F u.c * u.t).sum
theorem sum_idx (F : Px → Nat) (T : Px → Nat) (x : Px) : ∀ l : List Px, l.Nodup → x ∈ l → (l.map fun y => F y * (T y + if y = x then 1 else 0)).sum = (l.map fun y => F y * T y).sum + F x
  | [], _, h => by simp at h
  | y :: l, hn, h => by
    rw [List.nodup_cons] at hn
    by_cases e : y = x
    · subst e
      have h2 : (l.map fun z => F z * (T z + if z = y then 1 else 0)) = l.map fun z => F z * T z := List.map_congr_left (fun z hz => by rw [if_neg (fun q => hn.1 (by rw [← q]; exact hz)), Nat.add_zero])
      rw [List.map_cons, List.map_cons, List.sum_cons, List.sum_cons, h2, if_pos rfl, Nat.mul_add, Nat.mul_one]
      omega
    · have hx : x ∈ l := by
        rcases List.mem_cons.1 h with q | q
        · exact absurd q.symm e
        · exact q
      rw [List.map_cons, List.map_cons, List.sum_cons, List.sum_cons, sum_idx F T x l hn.2 hx, if_neg e, Nat.add_zero]
      omega
theorem sumU_all (F : Px → Nat) (p : Nat → Px) (n : Nat) : sumU F (ucnt p n) = sumN (fun i => F (p i)) n := by
  unfold sumU ucnt cntH
  rw [List.map_map]
  show ((ulk p n).map fun x => F x * tms p n x).sum = _
  induction n with
  | zero => rfl
  | succ n ih =>
    have hs := sum_idx F (tms p n) (p n) (ulk p (n + 1)) (ulk_nodup p _) (ulk_has p (by omega))
    have e1 : ((ulk p (n + 1)).map fun x => F x * tms p (n + 1) x) = (ulk p (n + 1)).map fun y => F y * (tms p n y + if y = p n then 1 else 0) := rfl
    rw [e1, hs]
    show _ = sumN _ n + F (p n)
    rw [← ih]
    congr 1
    by_cases h : p n ∈ ulk p n
    · have e : ulk p (n + 1) = ulk p n := by show addP _ _ = _; unfold addP; rw [if_pos h]
      rw [e]
    · have e : ulk p (n + 1) = ulk p n ++ [p n] := by show addP _ _ = _; unfold addP; rw [if_neg h]
      rw [e, List.map_append, List.sum_append]
      simp [tms_none p n h]
end Go.Proofs.YtjcoahahponabaaDoor
namespace Go.Proofs.YtjcoahahponabaaDoor
open Go.RowKit

def Us.cells (u : Us) : List Value := [.int .u8 (u.c.r.toNat : Int), .int .u8 (u.c.g.toNat : Int), .int .u8 (u.c.b.toNat : Int), .int .u8 (u.c.a.toNat : Int), .int .i64 (u.t : Int)]
def usL (l : List Us) : List Value := l.flatMap Us.cells
theorem usL_append (a b : List Us) : usL (a ++ b) = usL a ++ usL b := by simp [usL]
theorem usL_length (l : List Us) : (usL l).length = l.length * 5 := by
  induction l with
  | nil => rfl
  | cons x l ih =>
    show (x.cells ++ usL l).length = _
    rw [List.length_append, ih]
    simp [Us.cells]
    omega
theorem usL_at : ∀ (l : List Us) (i j : Nat) (h : i < l.length), j < 5 → (usL l)[i * 5 + j]? = (l[i]).cells[j]?
  | [], i, j, h, _ => by simp at h
  | x :: l, 0, j, _, hj => by
    show (x.cells ++ usL l)[0 * 5 + j]? = _
    rw [Nat.zero_mul, Nat.zero_add, List.getElem?_append_left (by simpa [Us.cells] using hj)]
    rfl
  | x :: l, i + 1, j, h, hj => by
    show (x.cells ++ usL l)[(i + 1) * 5 + j]? = _
    have hc : x.cells.length = 5 := rfl
    rw [List.getElem?_append_right (by omega), hc, show (i + 1) * 5 + j - 5 = i * 5 + j by omega, usL_at l i j (by simpa using h) hj]
    rfl
theorem usL_set : ∀ (l : List Us) (i t : Nat) (h : i < l.length), (usL l).set (i * 5 + 4) (.int .i64 (t : Int)) = usL (l.set i ⟨(l[i]).c, t⟩)
  | [], i, t, h => by simp at h
  | x :: l, 0, t, _ => rfl
  | x :: l, i + 1, t, h => by
    have e : (i + 1) * 5 + 4 = i * 5 + 4 + 1 + 1 + 1 + 1 + 1 := by omega
    rw [e]
    show x.cells ++ (usL l).set (i * 5 + 4) _ = x.cells ++ usL _
    rw [usL_set l i t (by simpa using h)]
    rfl
theorem usL_put : ∀ (l : List Us) (i : Nat) (c : Px) (h : i < l.length), ((((usL l).set (i * 5) (.int .u8 (c.r.toNat : Int))).set (i * 5 + 1) (.int .u8 (c.g.toNat : Int))).set (i * 5 + 2) (.int .u8 (c.b.toNat : Int))).set (i * 5 + 3) (.int .u8 (c.a.toNat : Int)) = usL (l.set i ⟨c, (l[i]).t⟩)
  | [], i, c, h => by simp at h
  | x :: l, 0, c, _ => rfl
  | x :: l, i + 1, c, h => by
    have e : (i + 1) * 5 = i * 5 + 1 + 1 + 1 + 1 + 1 := by omega
    have e1 : (i + 1) * 5 + 1 = i * 5 + 1 + 1 + 1 + 1 + 1 + 1 := by omega
    have e2 : (i + 1) * 5 + 2 = i * 5 + 2 + 1 + 1 + 1 + 1 + 1 := by omega
    have e3 : (i + 1) * 5 + 3 = i * 5 + 3 + 1 + 1 + 1 + 1 + 1 := by omega
    rw [e3, e2, e1, e]
    show x.cells ++ ((((usL l).set (i * 5) _).set (i * 5 + 1) _).set (i * 5 + 2) _).set (i * 5 + 3) _ = x.cells ++ usL _
    rw [usL_put l i c (by simpa using h)]
    rfl

/-- A color and its number lie there. -/
structure UsAt (w : World) (k off : Nat) (u : Us) : Prop where
  c : PxAt w k off u.c
  t : w.cell? ⟨k, off + 4, none⟩ = some (.int .i64 (u.t : Int))
def IsUs (w : World) (a : Option Addr) (len : Nat) (u : Nat → Us) : Prop :=
  len = 0 ∨ ∃ b off, a = some ⟨b, off, none⟩ ∧ len ≤ maxLen ∧ ∀ i, i < len → UsAt w b (off + i * 5) (u i)
theorem UsAt.below {w w' : World} {b off B : Nat} {u : Us} (h : UsAt w b off u) (hb : Below B w w') (hB : b < B) : UsAt w' b off u :=
  ⟨h.c.below hb hB, (hb.cell (p := ⟨b, off + 4, none⟩) hB).trans h.t⟩
theorem IsUs.below {w w' : World} {a : Option Addr} {len : Nat} {u : Nat → Us} (h : IsUs w a len u) (hb : Below w.heap.size w w') : IsUs w' a len u := by
  rcases h with h | ⟨b, off, ha, hl, h⟩
  · exact .inl h
  · exact .inr ⟨b, off, ha, hl, fun i hi => (h i hi).below hb (h i hi).c.lt⟩
theorem IsUs.congr {w : World} {a : Option Addr} {len : Nat} {p q : Nat → Us} (h : IsUs w a len p) (he : ∀ i, i < len → p i = q i) : IsUs w a len q := by
  rcases h with h | ⟨b, off, ha, hl, h⟩
  · exact .inl h
  · exact .inr ⟨b, off, ha, hl, fun i hi => by rw [← he i hi]; exact h i hi⟩
/-- Row cells of a call's own. -/
theorem own_usAt {w : World} {base n cap g : Nat} {T : TypeId} {l : List Us} (h : w.ownsRow base T 5 (.slice (some ⟨g, 0, none⟩) n cap) n (usL l)) (i : Nat) (hi : i < l.length) (hn : l.length = n) : UsAt w g (i * 5) l[i] := by
  have hc : ∀ j, j < 5 → w.cell? ⟨g, i * 5 + j, none⟩ = (l[i]).cells[j]? := fun j hj => by
    rw [h.cellAt (i * 5 + j) (by omega)]
    exact usL_at l i j hi hj
  exact ⟨⟨hc 0 (by omega), hc 1 (by omega), hc 2 (by omega), hc 3 (by omega)⟩, hc 4 (by omega)⟩
theorem own_us {w : World} {base n cap : Nat} {T : TypeId} {a : Option Addr} {l : List Us} (h : w.ownsRow base T 5 (.slice a n cap) n (usL l)) (hn : l.length = n) (hm : n ≤ maxLen) : IsUs w a n (fun i => l.getD i default) := by
  by_cases h0 : n = 0
  · exact .inl h0
  rcases h.2 with ⟨_, q⟩ | ⟨g, cap', cur, hv, _⟩
  · exact absurd q h0
  · injection hv with hv _ _
    subst hv
    refine .inr ⟨g, 0, rfl, hm, fun i hi => ?_⟩
    have := own_usAt h i (by omega) hn
    show UsAt w g (0 + i * 5) (l.getD i default)
    rw [Nat.zero_add, List.getD_eq_getElem?_getD, List.getElem?_eq_getElem (by omega)]
    exact this
theorem own_shape5 {w : World} {base n : Nat} {e : TypeId} {v : Value} {xs : List Value} (h : w.ownsRow base e 5 v n xs) : ∃ a c, v = .slice a n c := by
  rcases h.2 with ⟨rfl, rfl⟩ | ⟨g, c, cur, rfl, _⟩
  · exact ⟨none, 0, rfl⟩
  · exact ⟨_, c, rfl⟩
theorem own_some {w : World} {base size n cap : Nat} {e : TypeId} {a : Option Addr} {xs : List Value} (h : w.ownsRow base e size (.slice a n cap) n xs) (h0 : 0 < n) : ∃ g, a = some ⟨g, 0, none⟩ ∧ base ≤ g ∧ g < w.heap.size := by
  rcases h.2 with ⟨_, q⟩ | ⟨g, cap', cur, hv, hb, hh, _⟩
  · omega
  · injection hv with hv _ _
    exact ⟨g, hv, hb, blk_lt hh⟩

theorem us_info : (Tryd.prog.info? 108).map (fun i => (i.zero, i.size, i.bytes)) = some (some (.agg #[.int .u8 0, .int .u8 0, .int .u8 0, .int .u8 0, .int .i64 0]), 5, 16) := by kernel_rfl
theorem app_us (w : World) (base q : Nat) (v : Value) (l : List Us) (x : Us) (t : TypeId) (hown : w.ownsRow base 108 5 v l.length (usL l)) (hx : UsAt w q 0 x) (hl : l.length ≤ 1000000) (hb : base ≤ w.heap.size) :
    ∃ v' w', (Builtin.append_ #[92, 92] t #[v, .slice (some ⟨q, 0, none⟩) 1 1]).run Tryd.prog w = .ok v' w' ∧ w'.ownsRow base 108 5 v' (l ++ [x]).length (usL (l ++ [x])) ∧ w.grownBy w' v.ownBlock ∧ (v'.ownBlock = v.ownBlock ∨ v'.ownBlock = some w.heap.size) := by
  obtain ⟨i0, hi, hz0, hz1, hz2⟩ := info_parts us_info
  obtain ⟨v', w', h1, h2, h3, h4, h5⟩ := run_append_own_at (P := Tryd.prog) w base 92 t 108 i0 (.agg #[.int .u8 0, .int .u8 0, .int .u8 0, .int .u8 0, .int .i64 0]) 5 16 Tryd.underlying92 hi hz0 hz1 hz2 rfl (by omega) v l.length (usL l) hown ⟨q, 0, none⟩ 1 1 x.cells rfl (fun j u hj => by
    have hadd : (⟨q, 0, none⟩ : Addr).add j = ⟨q, 0 + j, none⟩ := by unfold Addr.add; split <;> simp_all
    rw [hadd]
    match j, hj with
    | 0, hj => rw [← hj]; exact hx.c.r
    | 1, hj => rw [← hj]; exact hx.c.g
    | 2, hj => rw [← hj]; exact hx.c.b
    | 3, hj => rw [← hj]; exact hx.c.a
    | 4, hj => rw [← hj]; exact hx.t
    | j + 5, hj => simp [Us.cells] at hj) (fun u hu => by
    simp only [Us.cells, List.mem_cons, List.not_mem_nil, or_false] at hu
    rcases hu with rfl | rfl | rfl | rfl | rfl <;> rfl) (by unfold maxLen; omega) (by omega) hb
  refine ⟨v', w', h1, ?_, h3, h5⟩
  rw [usL_append, List.length_append]
  have e : usL [x] = x.cells := by simp [usL]
  rw [e]
  exact h2
theorem wpList_appUs (w : World) {ops : Array Oper} {rest : List Oper} {o : Oper} {a : Act} {Q : Exit → Act → World → Prop} (hgd : o.guard = none) (s x : Operand)
    (ho : o.op = .call { callee := .builtin .append, args := #[s, x], argTypes := #[92, 92] }) (base q : Nat) (v : Value) (l : List Us) (p : Us) (hs : a.eval s = v) (hx : a.eval x = .slice (some ⟨q, 0, none⟩) 1 1)
    (hown : w.ownsRow base 108 5 v l.length (usL l)) (hq : UsAt w q 0 p) (hl : l.length ≤ 1000000) (hb : base ≤ w.heap.size)
    (h : ∀ v' w', w'.ownsRow base 108 5 v' (l ++ [p]).length (usL (l ++ [p])) → w.grownBy w' v.ownBlock → (v'.ownBlock = v.ownBlock ∨ v'.ownBlock = some w.heap.size) → wpList Tryd.prog ops Q rest (a.put o.dst v') w') : wpList Tryd.prog ops Q (o :: rest) a w := by
  obtain ⟨v', w', h1, h2, h3, h4⟩ := app_us w base q v l p o.type hown hq hl hb
  refine wpList_plain hgd fun _ hK => ?_
  unfold Oper.wp execOp
  simp only [ho, resolve, invoke, builtin, Sem.run_bind, Sem.run_pure, Result.andThen_ok, List.map_toArray, List.map_cons, List.map_nil, hs, hx, h1]
  exact hK _ _ (h v' w' h2 h3 h4)
theorem five_new (w : World) (u : Us) (t : TypeId) : UsAt (w.alloc (.cells #[.int .u8 (u.c.r.toNat : Int), .int .u8 (u.c.g.toNat : Int), .int .u8 (u.c.b.toNat : Int), .int .u8 (u.c.a.toNat : Int), .int .i64 (u.t : Int)] t)) w.heap.size 0 u := by
  have c : ∀ j, (w.alloc (.cells #[.int .u8 (u.c.r.toNat : Int), .int .u8 (u.c.g.toNat : Int), .int .u8 (u.c.b.toNat : Int), .int .u8 (u.c.a.toNat : Int), .int .i64 (u.t : Int)] t)).cell? ⟨w.heap.size, j, none⟩ = (#[.int .u8 (u.c.r.toNat : Int), .int .u8 (u.c.g.toNat : Int), .int .u8 (u.c.b.toNat : Int), .int .u8 (u.c.a.toNat : Int), .int .i64 (u.t : Int)] : Array Value)[j]? := fun j => World.cell?_alloc_mark ..
  exact ⟨⟨c 0, c 1, c 2, c 3⟩, c 4⟩
end Go.Proofs.YtjcoahahponabaaDoor
namespace Go.Proofs.YtjcoahahponabaaDoor
open Go.RowKit

/-- Numbers lie there. -/
def IsNm (w : World) (a : Option Addr) (l : List Nat) : Prop := ∃ g, a = some ⟨g, 0, none⟩ ∧ g < w.heap.size ∧ ∀ j, j < l.length → w.cell? ⟨g, j, none⟩ = some (.int .i64 (l.getD j 0 : Nat))
theorem IsNm.below {w w' : World} {a : Option Addr} {l : List Nat} (h : IsNm w a l) (hb : Below w.heap.size w w') : IsNm w' a l := by
  obtain ⟨g, ha, hg, h⟩ := h
  exact ⟨g, ha, by have := hb.size; omega, fun j hj => (hb.cell (p := ⟨g, j, none⟩) hg).trans (h j hj)⟩
theorem own_nm {w : World} {base n c : Nat} {a : Option Addr} {l : List Nat} (h : w.ownsRow base 3 1 (.slice a n c) n (nV l)) (hl : l.length = n) (h0 : 0 < n) : IsNm w a l := by
  obtain ⟨g, rfl, _, hg⟩ := own_some h h0
  exact ⟨g, rfl, hg, fun j hj => by rw [h.cellAt j (by omega), nV_at l j hj]⟩
end Go.Proofs.YtjcoahahponabaaDoor
