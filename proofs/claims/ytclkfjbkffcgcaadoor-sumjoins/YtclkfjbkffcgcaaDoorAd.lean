/- Plain facts on ADLER's two sums over natural numbers. -/
namespace Go.Proofs.YtclkfjbkffcgcaaDoor.Ad

def one (p : Nat × Nat) (x : UInt8) : Nat × Nat := ((p.1 + x.toNat) % 65521, (p.2 + (p.1 + x.toNat) % 65521) % 65521)
def run (p : Nat × Nat) (l : List UInt8) : Nat × Nat := l.foldl one p
def join (p : Nat × Nat) : Nat := p.2 * 65536 + p.1
def part (n : Nat) : Nat × Nat := (n % 65536 % 65521, n / 65536 % 65521)
/-- ADLER of a text behind a number. -/
def more (n : Nat) (l : List UInt8) : Nat := join (run (part n) l)

theorem run_snoc (p : Nat × Nat) (l : List UInt8) (x : UInt8) : run p (l ++ [x]) = one (run p l) x := by simp [run]
theorem run_append (p : Nat × Nat) (a b : List UInt8) : run p (a ++ b) = run (run p a) b := by simp [run]

theorem run_lt (p : Nat × Nat) (l : List UInt8) (h1 : p.1 < 65521) (h2 : p.2 < 65521) : (run p l).1 < 65521 ∧ (run p l).2 < 65521 := by
  induction l generalizing p with
  | nil => exact ⟨h1, h2⟩
  | cons x l ih => exact ih (one p x) (Nat.mod_lt _ (by omega)) (Nat.mod_lt _ (by omega))

theorem part_lt (n : Nat) : (part n).1 < 65521 ∧ (part n).2 < 65521 := ⟨Nat.mod_lt _ (by omega), Nat.mod_lt _ (by omega)⟩

theorem part_join (p : Nat × Nat) (h1 : p.1 < 65521) (h2 : p.2 < 65521) : part (join p) = p := by
  obtain ⟨a, b⟩ := p
  simp only [part, join] at *
  rw [Prod.mk.injEq]
  omega

theorem join_lt (p : Nat × Nat) (h1 : p.1 < 65521) (h2 : p.2 < 65521) : join p < 4294967296 := by
  unfold join; omega

theorem more_lt (n : Nat) (l : List UInt8) : more n l < 4294967296 := by
  have h := run_lt (part n) l (part_lt n).1 (part_lt n).2
  exact join_lt _ h.1 h.2

theorem more_append (n : Nat) (a b : List UInt8) : more n (a ++ b) = more (more n a) b := by
  have h := run_lt (part n) a (part_lt n).1 (part_lt n).2
  unfold more
  rw [run_append, part_join _ h.1 h.2]

theorem part_one : part 1 = (1, 0) := by decide
end Go.Proofs.YtclkfjbkffcgcaaDoor.Ad
