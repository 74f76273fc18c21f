/- Plain facts on ADLER's sums of joined texts. -/
import Derived.Test.YtclkfjbkffcgcaaDoorAd
namespace Go.Proofs.YtclkfjbkffcgcaaDoor.Ad

theorem mod_in (c n z : Nat) : (c + n * (z % 65521)) % 65521 = (c + n * z) % 65521 := by
  have h : n * z = n * (z % 65521) + 65521 * (n * (z / 65521)) := by
    conv => lhs; rw [← Nat.div_add_mod z 65521, Nat.mul_add]
    rw [Nat.add_comm, Nat.mul_left_comm]
  rw [h, ← Nat.add_assoc, Nat.add_mul_mod_self_left]

/-- The sum of the bytes; the sum of the sums. -/
def s1 : List UInt8 → Nat
  | [] => 0
  | b :: l => b.toNat + s1 l
def s2 : List UInt8 → Nat
  | [] => 0
  | b :: l => (l.length + 1) * b.toNat + s2 l

theorem run_is (x y : Nat) (l : List UInt8) (hx : x < 65521) (hy : y < 65521) : run (x, y) l = ((x + s1 l) % 65521, (y + l.length * x + s2 l) % 65521) := by
  induction l generalizing x y with
  | nil => simp [run, s1, s2, Nat.mod_eq_of_lt hx, Nat.mod_eq_of_lt hy]
  | cons b l ih =>
    have e : run (x, y) (b :: l) = run ((x + b.toNat) % 65521, (y + (x + b.toNat) % 65521) % 65521) l := rfl
    rw [e, ih _ _ (Nat.mod_lt _ (by omega)) (Nat.mod_lt _ (by omega))]
    simp only [s1, s2, List.length_cons]
    rw [Prod.mk.injEq]
    refine ⟨by omega, ?_⟩
    have h1 := mod_in ((y + (x + b.toNat) % 65521) % 65521 + s2 l) l.length (x + b.toNat)
    have e2 : l.length * (x + b.toNat) = l.length * x + l.length * b.toNat := Nat.mul_add _ _ _
    have e3 : (l.length + 1) * x = l.length * x + x := Nat.succ_mul _ _
    have e4 : (l.length + 1) * b.toNat = l.length * b.toNat + b.toNat := Nat.succ_mul _ _
    rw [e2] at h1
    rw [e3, e4]
    generalize l.length * ((x + b.toNat) % 65521) = p at *
    generalize l.length * x = q at *
    generalize l.length * b.toNat = r at *
    omega

/-- Two sums, joined. -/
def joinOf (a b n : Nat) : Nat := join (((part b).1 + ((part a).1 + 65520) % 65521) % 65521, ((part a).2 + (part b).2 + n * (((part a).1 + 65520) % 65521)) % 65521)

theorem joinOf_lt (a b n : Nat) : joinOf a b n < 4294967296 := join_lt _ (Nat.mod_lt _ (by omega)) (Nat.mod_lt _ (by omega))

theorem more_one_part (l : List UInt8) : part (more 1 l) = ((1 + s1 l) % 65521, (l.length + s2 l) % 65521) := by
  have h := run_is 1 0 l (by omega) (by omega)
  have hl := run_lt (1, 0) l (by decide) (by decide)
  unfold more
  rw [part_one, part_join _ hl.1 hl.2, h]
  simp

theorem joinOf_texts (a b : List UInt8) : joinOf (more 1 a) (more 1 b) b.length = more 1 (a ++ b) := by
  rw [more_append]
  have hp := part_lt (more 1 a)
  have hr := run_is (part (more 1 a)).1 (part (more 1 a)).2 b hp.1 hp.2
  have hm : more (more 1 a) b = join (run (part (more 1 a)) b) := rfl
  rw [hm, show part (more 1 a) = ((part (more 1 a)).1, (part (more 1 a)).2) from rfl, hr]
  unfold joinOf
  rw [more_one_part b]
  generalize (part (more 1 a)).1 = x at *
  generalize (part (more 1 a)).2 = y at *
  have h1 := mod_in (y + (b.length + s2 b) % 65521) b.length (x + 65520)
  have e2 : b.length * (x + 65520) = b.length * x + 65520 * b.length := by rw [Nat.mul_add, Nat.mul_comm b.length 65520]
  rw [e2] at h1
  refine congrArg join (Prod.mk.injEq _ _ _ _ ▸ ⟨?_, ?_⟩)
  · show ((1 + s1 b) % 65521 + (x + 65520) % 65521) % 65521 = (x + s1 b) % 65521
    omega
  · show (y + (b.length + s2 b) % 65521 + b.length * ((x + 65520) % 65521)) % 65521 = (y + b.length * x + s2 b) % 65521
    rw [h1]
    generalize b.length * x = q at *
    omega
end Go.Proofs.YtclkfjbkffcgcaaDoor.Ad
