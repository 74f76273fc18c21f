/- Packages in memory: rows of what they cost and of their symbols; two rows merged, in order. Walk of the program's pairs of packages. -/
import Derived.Test.YtfeljhikeddodadGreatDoorMh9
import Derived.Test.YtfeljhikeddodadGreatDoorMh10
import Derived.Test.YtfeljhikeddodadGreatDoorMh11
import Derived.Test.YtfeljhikeddodadGreatDoorMh12
import Derived.Deep.RegionLaw
namespace Go.Proofs.YtfeljhikeddodadGreatDoor
open Go.Shelf Go.RowKit Go.Lib Go.Sort St Pm
variable {Bq : Nat}

/-- A package of places F: the symbols are sg of them, it costs what they weigh. -/
structure PkAt (Bq : Nat) (w : World) (sg c : Nat → Nat) (x : PkV) (F : List Nat) : Prop where
  cost : x.1 = (Pm.load c F : Nat)
  len : x.2.2.1 = F.length
  pos : 0 < F.length
  lies : ∃ b o, x.2.1 = some ⟨b, o, none⟩ ∧ Bq ≤ b ∧ ∀ j, (h : j < F.length) → w.cell? ⟨b, o + j, none⟩ = some (.int .i64 (sg F[j] : Nat))
theorem PkAt.below {w w' : World} {sg c : Nat → Nat} {x : PkV} {F : List Nat} (h : PkAt Bq w sg c x F) (hb : Below w.heap.size w w') : PkAt Bq w' sg c x F := by
  obtain ⟨b, o, e, hq, hc⟩ := h.lies
  refine ⟨h.cost, h.len, h.pos, b, o, e, hq, fun j hj => ?_⟩
  have := hc j hj
  rw [hb.cell (World.block_lt_of_cell? _ _ this)]; exact this
theorem PkAt.grown {w w' : World} {sg c : Nat → Nat} {x : PkV} {F : List Nat} {row : Option Nat} (h : PkAt Bq w sg c x F) (hg : w.grownBy w' row) (hne : ∀ ad, x.2.1 = some ad → row ≠ some ad.block) : PkAt Bq w' sg c x F := by
  obtain ⟨b, o, e, hq, hc⟩ := h.lies
  refine ⟨h.cost, h.len, h.pos, b, o, e, hq, fun j hj => ?_⟩
  have := hc j hj
  rw [World.cell?_of_block (hg.block b (World.block_lt_of_cell? _ _ this) (fun q => hne _ e q.symm))]; exact this
theorem PkAt.lt {w : World} {sg c : Nat → Nat} {x : PkV} {F : List Nat} (h : PkAt Bq w sg c x F) (ad : Addr) (hx : x.2.1 = some ad) : ad.block < w.heap.size := by
  obtain ⟨b, o, e, hq, hc⟩ := h.lies
  rw [e] at hx
  injection hx with hx
  rw [← hx]
  exact World.block_lt_of_cell? _ _ (hc 0 h.pos)
def AllP (Bq : Nat) (w : World) (sg c : Nat → Nat) : List PkV → List (List Nat) → Prop
  | [], [] => True
  | x :: xs, F :: Q => PkAt Bq w sg c x F ∧ AllP Bq w sg c xs Q
  | _, _ => False
theorem AllP.below {w w' : World} {sg c : Nat → Nat} (hb : Below w.heap.size w w') : ∀ {xs : List PkV} {Q : List (List Nat)}, AllP Bq w sg c xs Q → AllP Bq w' sg c xs Q
  | [], [], _ => trivial
  | _ :: _, _ :: _, h => ⟨h.1.below hb, AllP.below hb h.2⟩
theorem AllP.grown {w w' : World} {sg c : Nat → Nat} {row : Option Nat} (hg : w.grownBy w' row) : ∀ {xs : List PkV} {Q : List (List Nat)}, AllP Bq w sg c xs Q → (∀ x ∈ xs, ∀ ad, x.2.1 = some ad → row ≠ some ad.block) → AllP Bq w' sg c xs Q
  | [], [], _, _ => trivial
  | x :: _, _ :: _, h, hne => ⟨h.1.grown hg (hne x (by simp)), AllP.grown hg h.2 (fun y hy => hne y (by simp [hy]))⟩
theorem AllP.lt {w : World} {sg c : Nat → Nat} : ∀ {xs : List PkV} {Q : List (List Nat)}, AllP Bq w sg c xs Q → ∀ x ∈ xs, ∀ ad, x.2.1 = some ad → ad.block < w.heap.size
  | _ :: xs, _ :: _, h, x, hx, ad, e => by
    rcases List.mem_cons.1 hx with rfl | hx
    · exact h.1.lt ad e
    · exact AllP.lt h.2 x hx ad e
theorem AllP.length {w : World} {sg c : Nat → Nat} : ∀ {xs : List PkV} {Q : List (List Nat)}, AllP Bq w sg c xs Q → xs.length = Q.length
  | [], [], _ => rfl
  | _ :: _, _ :: _, h => by rw [List.length_cons, List.length_cons, AllP.length h.2]
theorem AllP.at {w : World} {sg c : Nat → Nat} : ∀ {xs : List PkV} {Q : List (List Nat)} (_ : AllP Bq w sg c xs Q) (i : Nat) (h1 : i < xs.length) (h2 : i < Q.length), PkAt Bq w sg c xs[i] Q[i]
  | _ :: _, _ :: _, h, 0, _, _ => h.1
  | _ :: _, _ :: _, h, i + 1, h1, h2 => AllP.at h.2 i (by simpa using h1) (by simpa using h2)
theorem AllP.append {w : World} {sg c : Nat → Nat} : ∀ {xs ys : List PkV} {Q R : List (List Nat)}, AllP Bq w sg c xs Q → AllP Bq w sg c ys R → AllP Bq w sg c (xs ++ ys) (Q ++ R)
  | [], _, [], _, _, h => h
  | _ :: _, _, _ :: _, _, h, h' => ⟨h.1, AllP.append h.2 h'⟩
theorem AllP.take {w : World} {sg c : Nat → Nat} : ∀ {xs : List PkV} {Q : List (List Nat)} (k : Nat), AllP Bq w sg c xs Q → AllP Bq w sg c (xs.take k) (Q.take k)
  | [], [], _, _ => by simp [AllP]
  | _ :: _, _ :: _, 0, _ => trivial
  | _ :: _, _ :: _, k + 1, h => ⟨h.1, AllP.take k h.2⟩
theorem AllP.perm {w : World} {sg c : Nat → Nat} {xs ys : List PkV} (hp : ys.Perm xs) : ∀ {Q : List (List Nat)}, AllP Bq w sg c xs Q → ∃ R, AllP Bq w sg c ys R ∧ R.Perm Q := by
  induction hp with
  | nil =>
    intro Q h
    cases Q with
    | nil => exact ⟨[], trivial, List.Perm.refl _⟩
    | cons _ _ => exact absurd h id
  | cons x _ ih =>
    intro Q h
    cases Q with
    | nil => exact absurd h id
    | cons F Q =>
      obtain ⟨R, h1, h2⟩ := ih h.2
      exact ⟨F :: R, ⟨h.1, h1⟩, h2.cons F⟩
  | swap x y l =>
    intro Q h
    match Q, h with
    | F :: G :: Q, h => exact ⟨G :: F :: Q, ⟨h.2.1, h.1, h.2.2⟩, List.Perm.swap _ _ _⟩
  | trans _ _ ih1 ih2 =>
    intro Q h
    obtain ⟨R, h1, h2⟩ := ih2 h
    obtain ⟨R', h3, h4⟩ := ih1 h1
    exact ⟨R', h3, h4.trans h2⟩
def pkCells (xs : List PkV) : List Value := xs.flatMap encP
theorem pkCells_append (xs ys : List PkV) : pkCells (xs ++ ys) = pkCells xs ++ pkCells ys := by simp [pkCells]
theorem pkCells_length (xs : List PkV) : (pkCells xs).length = xs.length * 2 := by
  induction xs with
  | nil => rfl
  | cons x xs ih => unfold pkCells at *; rw [List.flatMap_cons, List.length_append, ih, encP_len, List.length_cons]; omega
theorem pkCells_one (xs : List PkV) : ∀ u ∈ pkCells xs, u.oneCell' = true := fun u hu => by
  obtain ⟨x, _, hx⟩ := List.mem_flatMap.1 hu
  exact encP_one x u hx
theorem pkCells_at : ∀ (xs : List PkV) (i : Nat) (h : i < xs.length), (pkCells xs)[i * 2]? = some (.int .i64 xs[i].1) ∧ (pkCells xs)[i * 2 + 1]? = some (.slice xs[i].2.1 xs[i].2.2.1 xs[i].2.2.2)
  | x :: xs, 0, _ => ⟨rfl, rfl⟩
  | x :: xs, i + 1, h => by
    have := pkCells_at xs i (by simpa using h)
    have e : pkCells (x :: xs) = .int .i64 x.1 :: .slice x.2.1 x.2.2.1 x.2.2.2 :: pkCells xs := rfl
    rw [e, show (i + 1) * 2 = i * 2 + 1 + 1 by omega]
    exact this
/-- A slice of packages. -/
def IsPk (Bq : Nat) (w : World) (sg c : Nat → Nat) (u : Value) (Q : List (List Nat)) : Prop :=
  (u = .slice none 0 0 ∧ Q = []) ∨ ∃ g cap xs, u = .slice (some ⟨g, 0, none⟩) xs.length cap ∧ Bq ≤ g ∧ xs.length ≤ cap ∧ AllP Bq w sg c xs Q ∧
    ∀ i, (h : i < xs.length) → w.cell? ⟨g, i * 2, none⟩ = some (.int .i64 xs[i].1) ∧ w.cell? ⟨g, i * 2 + 1, none⟩ = some (.slice xs[i].2.1 xs[i].2.2.1 xs[i].2.2.2)
theorem IsPk.below {w w' : World} {sg c : Nat → Nat} {u : Value} {Q : List (List Nat)} (h : IsPk Bq w sg c u Q) (hb : Below w.heap.size w w') : IsPk Bq w' sg c u Q := by
  rcases h with h | ⟨g, cap, xs, e, hq, hc, ha, hx⟩
  · exact .inl h
  · refine .inr ⟨g, cap, xs, e, hq, hc, ha.below hb, fun i hi => ?_⟩
    obtain ⟨h1, h2⟩ := hx i hi
    exact ⟨(hb.cell (World.block_lt_of_cell? _ _ h1)).trans h1, (hb.cell (World.block_lt_of_cell? _ _ h2)).trans h2⟩
theorem IsPk.src {w : World} {sg c : Nat → Nat} {u : Value} {Q : List (List Nat)} (h : IsPk Bq w sg c u Q) : ∃ xs, SrcC w u 2 xs.length (pkCells xs) ∧ AllP Bq w sg c xs Q := by
  rcases h with ⟨rfl, rfl⟩ | ⟨g, cap, xs, e, _, hc, ha, hx⟩
  · exact ⟨[], .inl ⟨rfl, rfl, rfl⟩, trivial⟩
  · refine ⟨xs, .inr ⟨⟨g, 0, none⟩, cap, e, pkCells_length xs, fun j v hj => ?_⟩, ha⟩
    have hjl : j < xs.length * 2 := by
      rcases Nat.lt_or_ge j (xs.length * 2) with h | h
      · exact h
      · rw [List.getElem?_eq_none (by rw [pkCells_length]; exact h)] at hj; cases hj
    obtain ⟨h1, h2⟩ := hx (j / 2) (by omega)
    obtain ⟨k1, k2⟩ := pkCells_at xs (j / 2) (by omega)
    rw [addr_add, Nat.zero_add]
    rcases Nat.mod_two_eq_zero_or_one j with e | e
    · have e2 : j / 2 * 2 = j := by omega
      rw [e2] at h1 k1
      rw [h1, ← k1, hj]
    · have e2 : j / 2 * 2 + 1 = j := by omega
      rw [e2] at h2 k2
      rw [h2, ← k2, hj]
theorem IsPk.own {w : World} {sg c : Nat → Nat} {base n : Nat} {v : Value} {xs : List PkV} {Q : List (List Nat)} (h : w.ownsRow base 125 2 v n (pkCells xs)) (ha : AllP Bq w sg c xs Q) (hq : Bq ≤ base) : IsPk Bq w sg c v Q := by
  have hl : xs.length = n := by have := h.1; rw [pkCells_length] at this; omega
  rcases h.2 with ⟨rfl, rfl⟩ | ⟨g, cap, cur, rfl, hb, hg, hn, _⟩
  · obtain rfl : xs = [] := List.length_eq_zero_iff.1 hl
    cases Q with
    | nil => exact .inl ⟨rfl, rfl⟩
    | cons _ _ => exact absurd ha id
  · subst hl
    refine .inr ⟨g, cap, xs, rfl, by omega, hn, ha, fun i hi => ?_⟩
    obtain ⟨k1, k2⟩ := pkCells_at xs i hi
    exact ⟨(h.cellAt (i * 2) (by omega)).trans k1, (h.cellAt (i * 2 + 1) (by omega)).trans k2⟩
/-! ### Two rows merged -/
def cfP (x y : PkV) : Int := cmpI x.1 y.1
def ltP (x y : PkV) : Bool := decide (x.1 < y.1)
theorem swoP : SWO ltP where
  irrefl x := by unfold ltP; simp
  trans x y u h1 h2 := by unfold ltP at *; simp only [decide_eq_true_eq] at *; omega
  ntrans x y u h1 h2 := by unfold ltP at *; simp only [decide_eq_false_iff_not] at *; omega
theorem gP (x y : PkV) : G (ltOf cfP) ltP x y := by unfold G ltOf cfP ltP; rw [cmpI_neg]
set_option maxHeartbeats 1000000 in
theorem merged1_any (x y : PkV) (W : World) : Calls Tryz.prog 157 #[.agg #[.int .i64 x.1, .slice x.2.1 x.2.2.1 x.2.2.2], .agg #[.int .i64 y.1, .slice y.2.1 y.2.2.1 y.2.2.2]] W fun e w' => e = .returned (.int .i64 (cfP x y)) ∧ ∃ q os', w' = grow (W.drewN q) os' := by
  have hcon := fun W' => hide (compare_any x.1 y.1 W')
  unfold cfP
  go_enter Tryz.func157, Tryz.ntmps157
  go_wp2_with fail
  refine (unhide (hcon _)).mono ?_; rintro e w1 ⟨rfl, rfl⟩
  go_wp2
  go_ret
  exact ⟨rfl, 0, _, by rw [alloc_eq_grow, alloc_eq_grow, grow_grow]; rfl⟩
theorem holdsP {w : World} {base g cap : Nat} {xs : List PkV} (h : w.ownsRow base 125 2 (.slice (some ⟨g, 0, none⟩) xs.length cap) xs.length (pkCells xs)) : HoldsK encP 2 w g 0 xs.toArray := by
  intro t ht
  rw [size_flatK] at ht
  have ht' : t < xs.length * 2 := by simpa using ht
  rw [get_flatK _ _ _ _ ht, Nat.zero_add, h.cellAt t ht']
  refine ⟨?_, h.frozenAt t⟩
  obtain ⟨k1, k2⟩ := pkCells_at xs (t / 2) (by omega)
  have e : xs.toArray[t / 2]! = xs[t / 2] := by rw [getElem!_pos _ _ (by simp; omega)]; simp
  rw [e]
  rcases Nat.mod_two_eq_zero_or_one t with q | q
  · rw [show t / 2 * 2 = t by omega] at k1; rw [k1, q]; rfl
  · rw [show t / 2 * 2 + 1 = t by omega] at k2; rw [k2, q]; rfl
theorem sortedP_own {w w2 w3 : World} {B g : Nat} {d0 d' : Array PkV} (R : RowK encP 2 w2 g 0 d0) (hs : d'.size = d0.size) (hB : B ≤ g) (hBw : B ≤ w2.heap.size) (hb : Below B w w2) (S : SWK encP 2 w2 g 0 d' w3) :
    (∀ i, (h : i < d'.toList.length) → w3.cell? ⟨g, i * 2, none⟩ = some (.int .i64 d'.toList[i].1) ∧ w3.cell? ⟨g, i * 2 + 1, none⟩ = some (.slice d'.toList[i].2.1 d'.toList[i].2.2.1 d'.toList[i].2.2.2)) ∧ Below B w w3 := by
  refine ⟨fun i h => ?_, ?_⟩
  · obtain ⟨c1, c2, _, _⟩ := cellsP S R hs i (by simpa using h)
    have e : d'[i]! = d'.toList[i] := by rw [getElem!_pos d' i (by simpa using h)]; simp
    rw [e, Nat.zero_add] at c1 c2
    exact ⟨c1, c2⟩
  · obtain ⟨m, os, rfl⟩ := S
    have h2 : Below B w (putRow id (Sort.ahead w2 m) g 0 (flatK encP 2 d')) := below_putRow hb hB
    exact h2.trans (below_grow B _ (by rw [size_putRow]; exact hBw) 0 os)
theorem ord_sorted {w : World} {sg c : Nat → Nat} {d : Array PkV} {Q : List (List Nat)} (hs : SortedIn ltP 0 d.size d) (ha : AllP Bq w sg c d.toList Q) : Pm.Ord (Q.map (Pm.load c)) := by
  have hl := ha.length
  refine List.pairwise_iff_getElem.2 (fun i j hi hj hij => ?_)
  have hi' : i < Q.length := by simpa using hi
  have hj' : j < Q.length := by simpa using hj
  have h1 := hs i j (by omega) hij (by rw [Array.length_toList] at hl; omega)
  rw [Array.length_toList] at hl
  rw [getElem!_pos d i (by omega), getElem!_pos d j (by omega)] at h1
  unfold ltP at h1
  have a1 := (ha.at i (by simp; omega) hi').cost
  have a2 := (ha.at j (by simp; omega) hj').cost
  simp only [Array.getElem_toList] at a1 a2
  simp only [List.getElem_map]
  simp only [decide_eq_false_iff_not] at h1
  omega
set_option maxHeartbeats 1000000 in
set_option maxRecDepth 100000 in
theorem merged_any (sg c : Nat → Nat) (ua ub : Value) (Qa Qb : List (List Nat)) (w : World) (ha : IsPk Bq w sg c ua Qa) (hb : IsPk Bq w sg c ub Qb) (hla : Qa.length ≤ 50000) (hlb : Qb.length ≤ 50000) (hne : 0 < Qa.length) (hq : Bq ≤ w.heap.size) :
    Calls Tryz.prog 127 #[ua, ub] w fun e w' => ∃ v Q, e = .returned v ∧ IsPk Bq w' sg c v Q ∧ Q.Perm (Qa ++ Qb) ∧ Pm.Ord (Q.map (Pm.load c)) ∧ Below w.heap.size w w' := by
  obtain ⟨xa, sa, aa⟩ := ha.src
  obtain ⟨xb, sb, ab⟩ := hb.src
  have la := aa.length
  have lb := ab.length
  have hb0 : Below w.heap.size w (w.alloc (.cells #[ua, ub] 122)) := (Below.refl _ _).alloc (Nat.le_refl _) _
  have hs0 : (w.alloc (.cells #[ua, ub] 122)).heap.size = w.heap.size + 1 := by simp
  have HC := hide (concatP_any w.heap.size ua ub xa.length xb.length (pkCells xa) (pkCells xb) (w.alloc (.cells #[ua, ub] 122)) (by simp) (by simp) (sa.below hb0) (sb.below hb0) (pkCells_one xa) (pkCells_one xb) (by omega) (by omega))
  have HA := hide aa
  have HB := hide ab
  obtain ⟨a1, k1, e1⟩ := sa.shape
  obtain ⟨a2, k2, e2⟩ := sb.shape
  have LA := hide la
  have LB := hide lb
  clear ha hb sa sb aa ab la lb
  subst e1 e2
  go_enter Tryz.func127, Tryz.ntmps127
  go_wp2_with fail
  refine (unhide HC).mono ?_; rintro e w2 ⟨v, rfl, hown, hbc⟩
  rw [hs0, ← pkCells_append, ← List.length_append] at hown
  have hbw := hb0.trans (hbc.mono (by rw [hs0]; omega))
  have hsz : w.heap.size + 1 ≤ w2.heap.size := by have := hbc.size; rw [hs0] at this; exact this
  have hall := (unhide HA).append (unhide HB)
  have la := unhide LA
  have lb := unhide LB
  obtain ⟨xs, hxs⟩ : ∃ xs, xs = xa ++ xb := ⟨_, rfl⟩
  have hxl : xs.length = Qa.length + Qb.length := by rw [hxs, List.length_append, la, lb]
  rw [← hxs] at hown hall
  have hsh : ∃ g cap, v = .slice (some ⟨g, 0, none⟩) xs.length cap ∧ w.heap.size + 1 ≤ g ∧ xs.length ≤ cap := by
    rcases hown.2 with ⟨_, h0⟩ | ⟨g, cap, cur, e, hb, _, hc, _⟩
    · omega
    · exact ⟨g, cap, e, hb, hc⟩
  obtain ⟨g, cap, rfl, hg, hcap⟩ := hsh
  have hgl := (hown.lt g rfl).2
  have R : RowK encP 2 w2 g 0 xs.toArray := ⟨encP_len, encP_one, holdsP hown, hgl⟩
  have eg : ∀ args w, (callFunc 157 args).run Tryz.prog w = .ok (.enter 157 args) w := enters_of Tryz.func157 (by kernel_rfl) rfl
  have hcon := sortStableK_any 157 #[] g 0 cap xs.toArray w2 ltP swoP cfP eg (fun _ _ _ _ x y => merged1_any x y _) R (by simp; omega) (fun s t _ _ => gP _ _) (SWK.start R.hH)
  have hsa : xs.toArray.size = xs.length := by simp
  have HFIN : Hid (∀ (d' : Array PkV) (w3 : World), SWK encP 2 w2 g 0 d' w3 → PermIn 0 xs.toArray.size xs.toArray d' → SortedIn ltP 0 xs.toArray.size d' →
      ∃ Q, IsPk Bq w3 sg c (.slice (some ⟨g, 0, none⟩) xs.length cap) Q ∧ Q.Perm (Qa ++ Qb) ∧ Pm.Ord (Q.map (Pm.load c)) ∧ Below w.heap.size w w3) := fun d' w3 S hp hso => by
    obtain ⟨Q, q1, q2⟩ := hall.perm (perm_whole hp)
    have hd : d'.toList.length = xs.length := by rw [Array.length_toList, hp.1, hsa]
    obtain ⟨o1, o2⟩ := sortedP_own R hp.1 (B := w.heap.size) (by omega) (by omega) hbw S
    refine ⟨Q, .inr ⟨g, cap, d'.toList, by rw [hd], by omega, by omega, q1.below o2, o1⟩, q2, ?_, o2⟩
    rw [← hp.1] at hso
    exact ord_sorted hso q1
  rw [hsa] at hcon HFIN
  have HCON := hide hcon
  clear hcon HC HA HB hown hall hbc hb0 hs0 la lb hxl hxs
  go_wp2_with fail
  refine (unhide HCON).mono ?_; rintro e w3 ⟨rfl, d', S, hp, hso⟩
  have HF := hide (unhide HFIN d' w3 S hp hso)
  clear HCON HFIN S hp hso R
  go_wp2
  go_ret
  obtain ⟨Q, f1, f2, f3, f4⟩ := unhide HF
  exact ⟨_, Q, rfl, f1, f2, f3, f4⟩
end Go.Proofs.YtfeljhikeddodadGreatDoor
namespace Go.Proofs.YtfeljhikeddodadGreatDoor
open Go.Shelf Go.RowKit Go.Lib Go.Sort St Pm

theorem cat_at : ∀ (Q : List (List Nat)) (k : Nat) (h : k < (cat Q).length) (h1 : 2 * k < Q.length) (h2 : 2 * k + 1 < Q.length), (cat Q)[k] = Q[2 * k] ++ Q[2 * k + 1]
  | a :: b :: r, 0, _, _, _ => rfl
  | a :: b :: r, k + 1, h, h1, h2 => by
    have e := cat_at r k (by simpa [cat] using h) (by simp at h1; omega) (by simp at h2; omega)
    simp only [cat, List.getElem_cons_succ, e, show 2 * (k + 1) = 2 * k + 1 + 1 by omega]
  | [a], k, h, _, _ => by simp [cat] at h
  | [], k, h, _, _ => by simp [cat] at h
/-- An append onto packages of one's own, as one step of a statement that draws its order. -/
theorem step_appP {ops : Array Oper} {o : Oper} {a : Act} {w : World} {K : Act → World → Prop} {Q : Exit → Act → World → Prop} {E : Prop} (hgd : o.guard = none) (s x : Operand)
    (ho : o.op = .call { callee := .builtin .append, args := #[s, x], argTypes := #[122, 122] }) (base : Nat) (v u : Value) (n m : Nat) (F G : List Value) (hs : a.eval s = v) (hx : a.eval x = u)
    (hown : w.ownsRow base 125 2 v n F) (hsrc : SrcC w u 2 m G) (h1 : ∀ u ∈ G, u.oneCell' = true) (hlen : n + m ≤ 1000000) (hbase : base ≤ w.heap.size)
    (h : ∀ v' w', w'.ownsRow base 125 2 v' (n + m) (F ++ G) → w.grownBy w' v.ownBlock → (v'.ownBlock = v.ownBlock ∨ v'.ownBlock = some w.heap.size) → K (a.put o.dst v') w') : if Region.wanted o (yielded ops a.tmps) = true then Oper.wp Tryz.prog o a w K Q else E := by
  have hw : Region.wanted o (yielded ops a.tmps) = true := by simp [Region.wanted, hgd]
  rw [if_pos hw]
  obtain ⟨i0, hi, hz0, hz1, hz2⟩ := info_parts info_pk
  have key : ∃ v' w', (Builtin.append_ #[122, 122] o.type #[v, u]).run Tryz.prog w = .ok v' w' ∧ w'.ownsRow base 125 2 v' (n + m) (F ++ G) ∧ w.grownBy w' v.ownBlock ∧ (v'.ownBlock = v.ownBlock ∨ v'.ownBlock = some w.heap.size) := by
    rcases hsrc with ⟨rfl, rfl, rfl⟩ | ⟨ad, c, rfl, hl, hc⟩
    · refine ⟨v, w, run_append_owned_none w base 122 o.type 125 i0 2 Tryz.underlying122 hi v _ _ hown, by rw [List.append_nil, Nat.add_zero]; exact hown, ⟨rfl, rfl, rfl, Nat.le_refl _, fun _ _ _ => rfl⟩, .inl rfl⟩
    · obtain ⟨v', w', h1, h2, h3, _, h5⟩ := run_append_own_at (P := Tryz.prog) w base 122 o.type 125 i0 (.agg #[.int .i64 0, .slice none 0 0]) 2 32 Tryz.underlying122 hi hz0 hz1 hz2 rfl (by omega) v n F hown ad m c G hl hc h1 (by unfold maxLen; omega) (by omega) hbase
      exact ⟨v', w', h1, h2, h3, h5⟩
  obtain ⟨v', w', h1, h2, h3, h5⟩ := key
  unfold Oper.wp execOp
  simp only [ho, resolve, invoke, builtin, Sem.run_bind, Sem.run_pure, Result.andThen_ok, List.map_toArray, List.map_cons, List.map_nil, hs, hx, h1]
  exact h v' w' h2 h3 h5
set_option maxRecDepth 100000 in
/-- A call of a Go function of one argument, as one step of a statement that draws its order. -/
theorem step_call {ops : Array Oper} {o : Oper} {a : Act} {w : World} {K : Act → World → Prop} {Q : Exit → Act → World → Prop} {E : Prop} (hgd : o.guard = none) (f : Nat) (x : Operand) (t : TypeId)
    (ho : o.op = .call { callee := .value (.func f), args := #[x], argTypes := #[t] }) (u : Value) (hx : a.eval x = u) (ent : ∀ args w, (callFunc f args).run Tryz.prog w = .ok (.enter f args) w)
    (h : Calls Tryz.prog f #[u] w fun e w' => ∃ v, e = .returned v ∧ K (a.put o.dst v) w') : if Region.wanted o (yielded ops a.tmps) = true then Oper.wp Tryz.prog o a w K Q else E := by
  have hw : Region.wanted o (yielded ops a.tmps) = true := by simp [Region.wanted, hgd]
  rw [if_pos hw]
  unfold Oper.wp execOp
  have e1 : a.eval (.func f) = Value.func (.func f) #[] #[] := rfl
  have e2 : ∀ ar : Array Value, ar ++ #[] = ar := fun ar => by simp
  simp only [ho, resolve, invoke, Deferred.ofValue, e1, e2, Sem.run_bind, Sem.run_pure, Result.andThen_ok, List.map_toArray, List.map_cons, List.map_nil, hx, ent]
  rw [Oper.upon_enter]
  refine h.mono ?_
  rintro e w' ⟨v, rfl, hk⟩
  exact hk
theorem own_at {w : World} {base n : Nat} {e : TypeId} {v : Value} {xs : List Value} (h : w.ownsRow base e 1 v n xs) (hn : 0 < n) : ∃ g c, v = .slice (some ⟨g, 0, none⟩) n c ∧ base ≤ g := by
  rcases h.2 with ⟨_, h0⟩ | ⟨g, c, cur, e, hb, _⟩
  · omega
  · exact ⟨g, c, e, hb⟩
theorem cell_new (W : World) (a b : Value) (t : TypeId) : (W.alloc (.cells #[a, b] t)).cell? ⟨W.heap.size, 0, none⟩ = some a ∧ (W.alloc (.cells #[a, b] t)).cell? ⟨W.heap.size, 1, none⟩ = some b := by simp
theorem src_pk (W : World) (a b : Value) (t : TypeId) : SrcC (W.alloc (.cells #[a, b] t)) (.slice (some ⟨W.heap.size, 0, none⟩) 1 1) 2 1 [a, b] := by
  refine .inr ⟨⟨W.heap.size, 0, none⟩, 1, rfl, rfl, fun j v hj => ?_⟩
  rw [addr_add, Nat.zero_add]
  obtain ⟨h1, h2⟩ := cell_new W a b t
  match j, hj with
  | 0, hj => rw [h1]; simpa using hj
  | 1, hj => rw [h2]; simpa using hj
theorem natSrc {w : World} {sg : Nat → Nat} {b o kx : Nat} {F : List Nat} (h : ∀ j, (hj : j < F.length) → w.cell? ⟨b, o + j, none⟩ = some (.int .i64 (sg F[j] : Nat))) : SrcC w (.slice (some ⟨b, o, none⟩) F.length kx) 1 F.length (natVals (F.map sg)) := by
  refine .inr ⟨⟨b, o, none⟩, kx, rfl, by rw [natVals_length, List.length_map, Nat.mul_one], fun j v hj => ?_⟩
  rw [natVals_at, List.getElem?_map] at hj
  by_cases hl : j < F.length
  · rw [List.getElem?_eq_getElem hl] at hj
    simp only [Option.map_some, Option.some.injEq] at hj
    rw [addr_add, h j hl, hj]
  · rw [List.getElem?_eq_none (by omega)] at hj; cases hj
end Go.Proofs.YtfeljhikeddodadGreatDoor
