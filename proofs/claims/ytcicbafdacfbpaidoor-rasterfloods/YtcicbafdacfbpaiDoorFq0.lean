/- Floods: all like places that are come to from the first one. Plain. -/
import Derived.Test.YtcicbafdacfbpaiDoorLm0
namespace Go.Proofs.YtcicbafdacfbpaiDoor

/-- A neighbour. -/
def Nb (x y u v : Nat) : Prop := (u + 1 = x ∧ v = y) ∨ (u = x + 1 ∧ v = y) ∨ (u = x ∧ v + 1 = y) ∨ (u = x ∧ v = y + 1)
/-- Places that are come to from the first one, by like ones. -/
inductive Rch (W H : Nat) (p : Nat → Px) (sx sy : Nat) : Nat → Nat → Prop
  | start : Rch W H p sx sy sx sy
  | step {x y u v : Nat} (h : Rch W H p sx sy x y) (hn : Nb x y u v) (hu : u < W) (hv : v < H) (hl : p (v * W + u) = p (sy * W + sx)) : Rch W H p sx sy u v
/-- Just those are marked. -/
def FloodF (W H : Nat) (p : Nat → Px) (sx sy : Nat) (f : Nat → Bool) : Prop := ∀ u v, u < W → v < H → (f (v * W + u) = true ↔ Rch W H p sx sy u v)
theorem FloodF.uniq {W H : Nat} {p : Nat → Px} {sx sy : Nat} {f g : Nat → Bool} (hW : 1 ≤ W) (hf : FloodF W H p sx sy f) (hg : FloodF W H p sx sy g) (i : Nat) (hi : i < W * H) : f i = g i := by
  have h1 : i % W < W := Nat.mod_lt _ (by omega)
  have h2 : i / W < H := Nat.div_lt_of_lt_mul hi
  have e : i / W * W + i % W = i := by rw [Nat.mul_comm]; exact Nat.div_add_mod i W
  have a := hf (i % W) (i / W) h1 h2
  have b := hg (i % W) (i / W) h1 h2
  rw [e] at a b
  have ab := a.trans b.symm
  rcases hfi : f i with _ | _ <;> rcases hgi : g i with _ | _ <;> simp_all
/-- All like neighbours of a place are marked. -/
def Cls (W H : Nat) (p : Nat → Px) (sx sy : Nat) (f : Nat → Bool) (x y : Nat) : Prop := ∀ u v, Nb x y u v → u < W → v < H → p (v * W + u) = p (sy * W + sx) → f (v * W + u) = true
theorem flood_of {W H : Nat} {p : Nat → Px} {sx sy : Nat} {f : Nat → Bool} (hsx : sx < W) (hsy : sy < H) (h1 : ∀ u v, u < W → v < H → f (v * W + u) = true → Rch W H p sx sy u v) (h2 : f (sy * W + sx) = true) (h3 : ∀ x y, x < W → y < H → f (y * W + x) = true → Cls W H p sx sy f x y) : FloodF W H p sx sy f := by
  intro u v hu hv
  refine ⟨h1 u v hu hv, fun h => ?_⟩
  have key : ∀ u v, Rch W H p sx sy u v → u < W ∧ v < H ∧ f (v * W + u) = true := by
    intro u v h
    induction h with
    | start => exact ⟨hsx, hsy, h2⟩
    | step _ hn hu hv hl ih => exact ⟨hu, hv, h3 _ _ ih.1 ih.2.1 ih.2.2 _ _ hn hu hv hl⟩
  exact (key u v h).2.2

/-- How many are not marked. -/
def unm (f : Nat → Bool) : Nat → Nat
  | 0 => 0
  | i + 1 => unm f i + if f i = true then 0 else 1
theorem unm_congr {f g : Nat → Bool} (n : Nat) (h : ∀ i, i < n → f i = g i) : unm f n = unm g n := by
  induction n with
  | zero => rfl
  | succ n ih => unfold unm; rw [ih (fun i hi => h i (by omega)), h n (by omega)]
theorem unm_put {f : Nat → Bool} {i n : Nat} (hi : i < n) (hf : f i = false) : unm (updB f i) n + 1 = unm f n := by
  induction n with
  | zero => omega
  | succ n ih =>
    unfold unm
    by_cases e : i = n
    · subst e
      have e1 : unm (updB f i) i = unm f i := unm_congr i (fun j hj => by unfold updB; exact if_neg (by omega))
      rw [e1, hf]
      unfold updB
      simp
    · have e1 := ih (by omega)
      have e2 : updB f i n = f n := by unfold updB; exact if_neg (by omega)
      rw [e2]
      omega
theorem unm_all (n : Nat) : unm (fun _ => false) n = n := by
  induction n with
  | zero => rfl
  | succ n ih => unfold unm; rw [ih]; simp
theorem place_inj {W x y u v : Nat} (hx : x < W) (hu : u < W) (h : y * W + x = v * W + u) : x = u ∧ y = v := by
  have e1 : (y * W + x) / W = y := by rw [Nat.add_comm, Nat.add_mul_div_right _ _ (by omega), Nat.div_eq_of_lt hx, Nat.zero_add]
  have e2 : (v * W + u) / W = v := by rw [Nat.add_comm, Nat.add_mul_div_right _ _ (by omega), Nat.div_eq_of_lt hu, Nat.zero_add]
  rw [h, e2] at e1
  subst e1
  exact ⟨by omega, rfl⟩
theorem place_ltF {W H x y : Nat} (hx : x < W) (hy : y < H) : y * W + x < W * H := by
  have := Nat.mul_le_mul_right W (show y + 1 ≤ H by omega)
  rw [Nat.succ_mul, Nat.mul_comm H W] at this
  omega

/-- What stands while places wait; P: those of which not all neighbours have been met yet. -/
structure LI (W H : Nat) (p : Nat → Px) (sx sy : Nat) (f : Nat → Bool) (l : List (Nat × Nat)) (P : Nat → Nat → Prop) : Prop where
  sub : ∀ u v, u < W → v < H → f (v * W + u) = true → Rch W H p sx sy u v
  lin : ∀ q ∈ l, q.1 < W ∧ q.2 < H ∧ f (q.2 * W + q.1) = true
  cl : ∀ x y, x < W → y < H → f (y * W + x) = true → (x, y) ∈ l ∨ P x y ∨ Cls W H p sx sy f x y
  cnt : l.length + unm f (W * H) ≤ W * H
/-- What meeting a place does. -/
def MeetR (W H : Nat) (p : Nat → Px) (like : Px) (f : Nat → Bool) (l : List (Nat × Nat)) (x y : Int) (f' : Nat → Bool) (l' : List (Nat × Nat)) : Prop :=
  (∃ u v : Nat, x = u ∧ y = v ∧ u < W ∧ v < H ∧ p (v * W + u) = like ∧ f (v * W + u) = false ∧ f' = updB f (v * W + u) ∧ l' = l ++ [(u, v)]) ∨
  (f' = f ∧ l' = l ∧ ∀ u v : Nat, x = u → y = v → u < W → v < H → p (v * W + u) = like → f (v * W + u) = true)
theorem updB_mono {f : Nat → Bool} {i j : Nat} (h : f j = true) : updB f i j = true := by unfold updB; split <;> simp_all
theorem MeetR.mono {W H : Nat} {p : Nat → Px} {like : Px} {f f' : Nat → Bool} {l l' : List (Nat × Nat)} {x y : Int} (h : MeetR W H p like f l x y f' l') : ∀ i, f i = true → f' i = true := by
  rcases h with ⟨u, v, _, _, _, _, _, _, rfl, _⟩ | ⟨rfl, _, _⟩
  · exact fun i hi => updB_mono hi
  · exact fun i hi => hi
theorem MeetR.met {W H : Nat} {p : Nat → Px} {like : Px} {f f' : Nat → Bool} {l l' : List (Nat × Nat)} {x y : Int} (h : MeetR W H p like f l x y f' l') (u v : Nat) (hx : x = u) (hy : y = v) (hu : u < W) (hv : v < H) (hl : p (v * W + u) = like) : f' (v * W + u) = true := by
  rcases h with ⟨u', v', hx', hy', _, _, _, _, rfl, _⟩ | ⟨rfl, _, h⟩
  · have e1 : u = u' := by omega
    have e2 : v = v' := by omega
    subst e1 e2
    unfold updB
    exact if_pos rfl
  · exact h u v hx hy hu hv hl
theorem LI.meet {W H : Nat} {p : Nat → Px} {sx sy : Nat} {f f' : Nat → Bool} {l l' : List (Nat × Nat)} {x y : Int} {P : Nat → Nat → Prop} (h : LI W H p sx sy f l P) (m : MeetR W H p (p (sy * W + sx)) f l x y f' l')
    (hR : ∀ u v : Nat, x = u → y = v → u < W → v < H → p (v * W + u) = p (sy * W + sx) → Rch W H p sx sy u v) : LI W H p sx sy f' l' P ∧ l'.length + 2 * unm f' (W * H) ≤ l.length + 2 * unm f (W * H) := by
  rcases m with ⟨u, v, hx, hy, hu, hv, hl, hf, rfl, rfl⟩ | ⟨rfl, rfl, _⟩
  · have hc := unm_put (place_ltF hu hv) hf
    refine ⟨⟨fun a b ha hb hab => ?_, fun q hq => ?_, fun a b ha hb hab => ?_, ?_⟩, ?_⟩
    · by_cases e : b * W + a = v * W + u
      · obtain ⟨rfl, rfl⟩ := place_inj ha hu e
        exact hR _ _ hx hy hu hv hl
      · unfold updB at hab
        rw [if_neg e] at hab
        exact h.sub a b ha hb hab
    · rcases List.mem_append.1 hq with hq | hq
      · obtain ⟨q1, q2, q3⟩ := h.lin q hq
        exact ⟨q1, q2, updB_mono q3⟩
      · rw [List.mem_singleton] at hq
        subst hq
        exact ⟨hu, hv, by unfold updB; exact if_pos rfl⟩
    · by_cases e : b * W + a = v * W + u
      · obtain ⟨rfl, rfl⟩ := place_inj ha hu e
        exact .inl (by simp)
      · unfold updB at hab
        rw [if_neg e] at hab
        rcases h.cl a b ha hb hab with q | q | q
        · exact .inl (by simp [q])
        · exact .inr (.inl q)
        · exact .inr (.inr (fun u2 v2 hn h2 h3 h4 => updB_mono (q u2 v2 hn h2 h3 h4)))
    · have := h.cnt
      rw [List.length_append]
      simp only [List.length_singleton]
      omega
    · rw [List.length_append]
      simp only [List.length_singleton]
      omega
  · exact ⟨h, Nat.le_refl _⟩
theorem LI.pop {W H : Nat} {p : Nat → Px} {sx sy : Nat} {f : Nat → Bool} {l : List (Nat × Nat)} {x y : Nat} (h : LI W H p sx sy f (l ++ [(x, y)]) (fun _ _ => False)) : LI W H p sx sy f l (fun a b => a = x ∧ b = y) ∧ x < W ∧ y < H ∧ Rch W H p sx sy x y := by
  obtain ⟨h1, h2, h3⟩ := h.lin (x, y) (by simp)
  refine ⟨⟨h.sub, fun q hq => h.lin q (by simp [hq]), fun a b ha hb hab => ?_, ?_⟩, h1, h2, h.sub x y h1 h2 h3⟩
  · rcases h.cl a b ha hb hab with q | q | q
    · rcases List.mem_append.1 q with q | q
      · exact .inl q
      · rw [List.mem_singleton] at q
        injection q with q1 q2
        exact .inr (.inl ⟨q1, q2⟩)
    · exact absurd q id
    · exact .inr (.inr q)
  · have := h.cnt
    rw [List.length_append] at this
    omega
theorem LI.closed {W H : Nat} {p : Nat → Px} {sx sy : Nat} {f : Nat → Bool} {l : List (Nat × Nat)} {x y : Nat} (h : LI W H p sx sy f l (fun a b => a = x ∧ b = y)) (hc : Cls W H p sx sy f x y) : LI W H p sx sy f l (fun _ _ => False) := by
  refine ⟨h.sub, h.lin, fun a b ha hb hab => ?_, h.cnt⟩
  rcases h.cl a b ha hb hab with q | ⟨rfl, rfl⟩ | q
  · exact .inl q
  · exact .inr (.inr hc)
  · exact .inr (.inr q)
/-- One place that waited: its four neighbours are met. -/
theorem LI.round {W H : Nat} {p : Nat → Px} {sx sy : Nat} {f f1 f2 f3 f4 : Nat → Bool} {l l1 l2 l3 l4 : List (Nat × Nat)} {x y : Nat} (h : LI W H p sx sy f (l ++ [(x, y)]) (fun _ _ => False))
    (m1 : MeetR W H p (p (sy * W + sx)) f l ((x : Int) - 1) y f1 l1) (m2 : MeetR W H p (p (sy * W + sx)) f1 l1 ((x : Int) + 1) y f2 l2) (m3 : MeetR W H p (p (sy * W + sx)) f2 l2 x ((y : Int) - 1) f3 l3) (m4 : MeetR W H p (p (sy * W + sx)) f3 l3 x ((y : Int) + 1) f4 l4) :
    LI W H p sx sy f4 l4 (fun _ _ => False) ∧ l4.length + 2 * unm f4 (W * H) < (l ++ [(x, y)]).length + 2 * unm f (W * H) := by
  obtain ⟨i0, hx, hy, hr⟩ := h.pop
  have st : ∀ u v : Nat, Nb x y u v → u < W → v < H → p (v * W + u) = p (sy * W + sx) → Rch W H p sx sy u v := fun u v hn hu hv hl => .step hr hn hu hv hl
  obtain ⟨i1, c1⟩ := i0.meet m1 (fun u v e1 e2 => st u v (by unfold Nb; omega))
  obtain ⟨i2, c2⟩ := i1.meet m2 (fun u v e1 e2 => st u v (by unfold Nb; omega))
  obtain ⟨i3, c3⟩ := i2.meet m3 (fun u v e1 e2 => st u v (by unfold Nb; omega))
  obtain ⟨i4, c4⟩ := i3.meet m4 (fun u v e1 e2 => st u v (by unfold Nb; omega))
  refine ⟨i4.closed (fun u v hn hu hv hl => ?_), ?_⟩
  · rcases hn with ⟨e1, e2⟩ | ⟨e1, e2⟩ | ⟨e1, e2⟩ | ⟨e1, e2⟩
    · exact m4.mono _ (m3.mono _ (m2.mono _ (m1.met u v (by omega) (by omega) hu hv hl)))
    · exact m4.mono _ (m3.mono _ (m2.met u v (by omega) (by omega) hu hv hl))
    · exact m4.mono _ (m3.met u v (by omega) (by omega) hu hv hl)
    · exact m4.met u v (by omega) (by omega) hu hv hl
  · rw [List.length_append]
    simp only [List.length_singleton]
    omega
theorem LI.init {W H : Nat} {p : Nat → Px} {sx sy : Nat} : LI W H p sx sy (fun _ => false) [] (fun _ _ => False) :=
  ⟨fun _ _ _ _ h => by simp at h, fun _ h => by simp at h, fun _ _ _ _ h => by simp at h, by rw [unm_all]; simp⟩
theorem LI.done {W H : Nat} {p : Nat → Px} {sx sy : Nat} {f : Nat → Bool} (hsx : sx < W) (hsy : sy < H) (h : LI W H p sx sy f [] (fun _ _ => False)) (h2 : f (sy * W + sx) = true) : FloodF W H p sx sy f :=
  flood_of hsx hsy h.sub h2 (fun x y hx hy hxy => by
    rcases h.cl x y hx hy hxy with q | q | q
    · simp at q
    · exact absurd q id
    · exact q)
end Go.Proofs.YtcicbafdacfbpaiDoor
