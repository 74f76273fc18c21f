/- Rows of pixels, written one behind the other, or each place once: plain; Own as a row that may be written. -/
import Derived.Test.YtjhnneplknhmkahDoorMg4
import Derived.Test.YtjhnneplknhmkahDoorRw0
namespace Go.Proofs.YtjhnneplknhmkahDoor
open Go.RowKit

theorem far4g (w : World) (k o0 o1 o2 o3 b o : Nat) (v0 v1 v2 v3 : Value) (h : k ≠ b) : ((((w.setCell ⟨k, o0, none⟩ v0).setCell ⟨k, o1, none⟩ v1).setCell ⟨k, o2, none⟩ v2).setCell ⟨k, o3, none⟩ v3).cell? ⟨b, o, none⟩ = w.cell? ⟨b, o, none⟩ := by
  rw [World.cell?_setCell_far _ _ _ _ h, World.cell?_setCell_far _ _ _ _ h, World.cell?_setCell_far _ _ _ _ h, World.cell?_setCell_far _ _ _ _ h]
theorem far3g (w : World) (k o0 o1 o2 b o : Nat) (v0 v1 v2 : Value) (h : k ≠ b) : (((w.setCell ⟨k, o0, none⟩ v0).setCell ⟨k, o1, none⟩ v1).setCell ⟨k, o2, none⟩ v2).cell? ⟨b, o, none⟩ = w.cell? ⟨b, o, none⟩ := by
  rw [World.cell?_setCell_far _ _ _ _ h, World.cell?_setCell_far _ _ _ _ h, World.cell?_setCell_far _ _ _ _ h]
/-- The first k places are told by G, the others by p. -/
def ord (G p : Nat → Px) (k : Nat) : Nat → Px := fun i => if i < k then G i else p i
theorem ord_zero (G p : Nat → Px) : ord G p 0 = p := by funext i; simp [ord]
theorem ord_put (G p : Nat → Px) (k : Nat) (v : Px) (h : v = G k) : updP (ord G p k) k v = ord G p (k + 1) := by
  funext i
  unfold updP ord
  by_cases e : i = k
  · subst e; rw [if_pos rfl, if_pos (by omega), h]
  · rw [if_neg e]
    by_cases l : i < k
    · rw [if_pos l, if_pos (by omega)]
    · rw [if_neg l, if_neg (by omega)]
theorem ord_skip (G p : Nat → Px) (k : Nat) (h : p k = G k) : ord G p k = ord G p (k + 1) := by
  funext i
  unfold ord
  by_cases e : i = k
  · subst e; rw [if_neg (by omega), if_pos (by omega), h]
  · by_cases l : i < k
    · rw [if_pos l, if_pos (by omega)]
    · rw [if_neg l, if_neg (by omega)]
theorem ord_all {w : World} {g n : Nat} {G p : Nat → Px} (h : PR w g n (ord G p n)) : PR w g n G := h.congr fun i hi => by unfold ord; rw [if_pos hi]

/-- The places ahead of (x, y) have been written, each where ix says. -/
def Fl (ix : Nat → Nat → Nat) (val : Nat → Nat → Px) (W x y : Nat) (p : Nat → Px) : Prop := ∀ x' y', x' < W → (y' < y ∨ (y' = y ∧ x' < x)) → p (ix x' y') = val x' y'
theorem Fl.zero (ix : Nat → Nat → Nat) (val : Nat → Nat → Px) (W : Nat) (p : Nat → Px) : Fl ix val W 0 0 p := fun _ _ _ h => by omega
theorem Fl.row {ix : Nat → Nat → Nat} {val : Nat → Nat → Px} {W y : Nat} {p : Nat → Px} (h : Fl ix val W W y p) : Fl ix val W 0 (y + 1) p := fun x' y' hx hy => h x' y' hx (by omega)
theorem Fl.put {ix : Nat → Nat → Nat} {val : Nat → Nat → Px} {W x y i : Nat} {p : Nat → Px} (h : Fl ix val W x y p) (hi : i = ix x y) (hj : ∀ x' y', x' < W → (y' < y ∨ (y' = y ∧ x' < x)) → ix x' y' ≠ ix x y) : Fl ix val W (x + 1) y (updP p i (val x y)) := fun x' y' hx hy => by
  unfold updP
  by_cases e : x' = x ∧ y' = y
  · obtain ⟨rfl, rfl⟩ := e
    rw [if_pos hi.symm]
  · have h2 : y' < y ∨ (y' = y ∧ x' < x) := by omega
    rw [if_neg (by rw [hi]; exact hj x' y' hx h2)]
    exact h x' y' hx h2
theorem mul_apart {W x y x' y' : Nat} (hx : x < W) (hx' : x' < W) (h : x ≠ x' ∨ y ≠ y') : y * W + x ≠ y' * W + x' := fun e => by
  have e1 : (y * W + x) % W = x := by rw [Nat.add_comm, Nat.add_mul_mod_self_right, Nat.mod_eq_of_lt hx]
  have e2 : (y' * W + x') % W = x' := by rw [Nat.add_comm, Nat.add_mul_mod_self_right, Nat.mod_eq_of_lt hx']
  have e3 : (y * W + x) / W = y := by rw [Nat.add_comm, Nat.add_mul_div_right _ _ (by omega), Nat.div_eq_of_lt hx, Nat.zero_add]
  have e4 : (y' * W + x') / W = y' := by rw [Nat.add_comm, Nat.add_mul_div_right _ _ (by omega), Nat.div_eq_of_lt hx', Nat.zero_add]
  rw [e] at e1 e3
  omega

theorem own_rowP (W H : Int) (a : Option Addr) (n c : Nat) (p : Nat → Px) (w : World) (hP : IsPx w a n p) (hn : n ≤ 100000) (h0 : 1 ≤ n) :
    Calls Tryd.prog 16 #[.agg #[.int .i64 W, .int .i64 H, .slice a n c]] w fun e w' => ∃ g c2, e = .returned (.agg #[.int .i64 W, .int .i64 H, .slice (some ⟨g, 0, none⟩) n c2]) ∧ w.heap.size ≤ g ∧ PR w' g n p ∧ Below w.heap.size w w' :=
  (own_any W H a n c p w hP hn).mono fun _ _ ⟨a2, c2, he, ho, hb⟩ => by
    obtain ⟨g, rfl, hg, hp⟩ := own_PR ho h0
    exact ⟨g, c2, he, hg, hp, hb⟩
end Go.Proofs.YtjhnneplknhmkahDoor
