/- Floods by waves: what stands in one pass over all places. Plain. -/
import Derived.Test.YtcicbafdacfbpaiDoorFq3
namespace Go.Proofs.YtcicbafdacfbpaiDoor

/-- A marked neighbour. -/
def Near (W H : Nat) (f : Nat → Bool) (u v : Nat) : Prop := ∃ a b, Nb u v a b ∧ a < W ∧ b < H ∧ f (b * W + a) = true
/-- Nothing is to be done at a place. -/
def OKp (W H : Nat) (p : Nat → Px) (sx sy : Nat) (f : Nat → Bool) (u v : Nat) : Prop := f (v * W + u) = true ∨ p (v * W + u) ≠ p (sy * W + sx) ∨ ¬ Near W H f u v
/-- In a pass that began with f0: k places have been visited. -/
structure PS (W H : Nat) (p : Nat → Px) (sx sy : Nat) (f0 f : Nat → Bool) (mb : Bool) (k : Nat) : Prop where
  sub : ∀ u v, u < W → v < H → f (v * W + u) = true → Rch W H p sx sy u v
  st : f (sy * W + sx) = true
  no : mb = false → f = f0 ∧ ∀ u v, u < W → v < H → v * W + u < k → OKp W H p sx sy f u v
  yes : mb = true → unm f (W * H) < unm f0 (W * H)
theorem PS.skip {W H : Nat} {p : Nat → Px} {sx sy : Nat} {f0 f : Nat → Bool} {mb : Bool} {u v : Nat} (h : PS W H p sx sy f0 f mb (v * W + u)) (hu : u < W) (ho : OKp W H p sx sy f u v) : PS W H p sx sy f0 f mb (v * W + (u + 1)) := by
  refine ⟨h.sub, h.st, fun e => ⟨(h.no e).1, fun a b ha hb hk => ?_⟩, h.yes⟩
  by_cases q : b * W + a < v * W + u
  · exact (h.no e).2 a b ha hb q
  · obtain ⟨rfl, rfl⟩ := place_inj ha hu (show b * W + a = v * W + u by omega)
    exact ho
theorem PS.mark {W H : Nat} {p : Nat → Px} {sx sy : Nat} {f0 f : Nat → Bool} {mb : Bool} {u v : Nat} (h : PS W H p sx sy f0 f mb (v * W + u)) (hu : u < W) (hv : v < H) (hf : f (v * W + u) = false) (hl : p (v * W + u) = p (sy * W + sx)) (hn : Near W H f u v) : PS W H p sx sy f0 (updB f (v * W + u)) true (v * W + (u + 1)) := by
  have hc := unm_put (place_ltF hu hv) hf
  refine ⟨fun a b ha hb hab => ?_, updB_mono h.st, fun e => by simp at e, fun _ => ?_⟩
  · by_cases e : b * W + a = v * W + u
    · obtain ⟨rfl, rfl⟩ := place_inj ha hu e
      obtain ⟨x, y, hnb, hx, hy, hxy⟩ := hn
      refine .step (h.sub x y hx hy hxy) ?_ hu hv hl
      unfold Nb at *
      omega
    · unfold updB at hab
      rw [if_neg e] at hab
      exact h.sub a b ha hb hab
  · rcases hm : mb with _ | _
    · have := (h.no hm).1
      rw [this] at hc ⊢
      omega
    · have := h.yes hm
      omega
theorem PS.row {W H : Nat} {p : Nat → Px} {sx sy : Nat} {f0 f : Nat → Bool} {mb : Bool} {v : Nat} (h : PS W H p sx sy f0 f mb (v * W + W)) : PS W H p sx sy f0 f mb ((v + 1) * W + 0) := by
  rw [Nat.succ_mul, Nat.add_zero]
  exact h
theorem PS.begin {W H : Nat} {p : Nat → Px} {sx sy : Nat} {f : Nat → Bool} (h1 : ∀ u v, u < W → v < H → f (v * W + u) = true → Rch W H p sx sy u v) (h2 : f (sy * W + sx) = true) : PS W H p sx sy f f false (0 * W + 0) :=
  ⟨h1, h2, fun _ => ⟨rfl, fun _ _ _ _ h => by omega⟩, fun e => by simp at e⟩
theorem PS.done {W H : Nat} {p : Nat → Px} {sx sy : Nat} {f0 f : Nat → Bool} (hsx : sx < W) (hsy : sy < H) (h : PS W H p sx sy f0 f false (H * W + 0)) : FloodF W H p sx sy f := by
  refine flood_of hsx hsy h.sub h.st (fun x y hx hy hxy u v hn hu hv hl => ?_)
  rcases (h.no rfl).2 u v hu hv (by rw [Nat.mul_comm H W, Nat.add_zero]; exact place_ltF hu hv) with q | q | q
  · exact q
  · exact absurd hl q
  · exact absurd ⟨x, y, by unfold Nb at *; omega, hx, hy, hxy⟩ q
def bN : Value → Nat
  | .bool true => 1
  | _ => 0
/-- The first of two tests for a marked neighbour: beside it. -/
def nrX (W : Nat) (f : Nat → Bool) (u k : Nat) : Bool := (decide (0 < u) && f (k - 1)) || (decide (u + 1 < W) && f (k + 1))
/-- The second: above and beneath it. -/
def nrY (W H : Nat) (f : Nat → Bool) (v k : Nat) : Bool := (decide (0 < v) && f (k - W)) || (decide (v + 1 < H) && f (k + W))
theorem near_iff {W H : Nat} {f : Nat → Bool} {u v k : Nat} (hu : u < W) (hv : v < H) (hk : k = v * W + u) : (nrX W f u k || nrY W H f v k) = true ↔ Near W H f u v := by
  have e1 : 0 < u → v * W + (u - 1) = k - 1 := fun h => by omega
  have e2 : v * W + (u + 1) = k + 1 := by omega
  have e3 : 0 < v → (v - 1) * W + u = k - W := fun h => by
    obtain ⟨m, rfl⟩ : ∃ m, v = m + 1 := ⟨v - 1, by omega⟩
    rw [hk, Nat.succ_mul, Nat.add_sub_cancel]
    omega
  have e4 : (v + 1) * W + u = k + W := by rw [hk, Nat.succ_mul]; omega
  unfold nrX nrY Near
  simp only [Bool.or_eq_true, Bool.and_eq_true, decide_eq_true_eq]
  constructor
  · rintro ((⟨h1, h2⟩ | ⟨h1, h2⟩) | (⟨h1, h2⟩ | ⟨h1, h2⟩))
    · exact ⟨u - 1, v, by unfold Nb; omega, by omega, hv, by rw [e1 h1]; exact h2⟩
    · exact ⟨u + 1, v, by unfold Nb; omega, h1, hv, by rw [e2]; exact h2⟩
    · exact ⟨u, v - 1, by unfold Nb; omega, hu, by omega, by rw [e3 h1]; exact h2⟩
    · exact ⟨u, v + 1, by unfold Nb; omega, hu, h1, by rw [e4]; exact h2⟩
  · rintro ⟨a, b, hn, ha, hb, hf⟩
    rcases hn with ⟨h1, h2⟩ | ⟨h1, h2⟩ | ⟨h1, h2⟩ | ⟨h1, h2⟩
    · subst h2
      obtain rfl : a = u - 1 := by omega
      rw [e1 (by omega)] at hf
      exact .inl (.inl ⟨by omega, hf⟩)
    · subst h1 h2
      rw [e2] at hf
      exact .inl (.inr ⟨ha, hf⟩)
    · subst h1
      obtain rfl : b = v - 1 := by omega
      rw [e3 (by omega)] at hf
      exact .inr (.inl ⟨by omega, hf⟩)
    · subst h1 h2
      rw [e4] at hf
      exact .inr (.inr ⟨hb, hf⟩)
end Go.Proofs.YtcicbafdacfbpaiDoor
