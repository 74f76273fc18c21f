/- Sums of uses, part by part: rows of them. -/
import Derived.Test.YtpfobocdbmiagaaDoorCf3
namespace Go.Proofs.YtpfobocdbmiagaaDoor
open Go.RowKit

/-- Sums of parts. -/
structure Sm where
  r : Nat
  g : Nat
  b : Nat
  a : Nat
  t : Nat
def Sm.cells (s : Sm) : List Value := [.int .i64 (s.r : Int), .int .i64 (s.g : Int), .int .i64 (s.b : Int), .int .i64 (s.a : Int), .int .i64 (s.t : Int)]
def Sm.val (s : Sm) : Value := .agg #[.int .i64 (s.r : Int), .int .i64 (s.g : Int), .int .i64 (s.b : Int), .int .i64 (s.a : Int), .int .i64 (s.t : Int)]
def Sm.add (s : Sm) (u : Us) : Sm := ⟨s.r + u.c.r.toNat * u.t, s.g + u.c.g.toNat * u.t, s.b + u.c.b.toNat * u.t, s.a + u.c.a.toNat * u.t, s.t + u.t⟩
def sm0 : Sm := ⟨0, 0, 0, 0, 0⟩
def smL (l : List Sm) : List Value := l.flatMap Sm.cells
theorem smL_length (l : List Sm) : (smL l).length = l.length * 5 := by
  induction l with
  | nil => rfl
  | cons x l ih =>
    show (x.cells ++ smL l).length = _
    rw [List.length_append, ih]
    simp [Sm.cells]
    omega
theorem smL_at : ∀ (l : List Sm) (i j : Nat) (h : i < l.length), j < 5 → (smL l)[i * 5 + j]? = (l[i]).cells[j]?
  | [], i, j, h, _ => by simp at h
  | x :: l, 0, j, _, hj => by
    show (x.cells ++ smL l)[0 * 5 + j]? = _
    rw [Nat.zero_mul, Nat.zero_add, List.getElem?_append_left (by simpa [Sm.cells] using hj)]
    rfl
  | x :: l, i + 1, j, h, hj => by
    show (x.cells ++ smL l)[(i + 1) * 5 + j]? = _
    have hc : x.cells.length = 5 := rfl
    rw [List.getElem?_append_right (by omega), hc, show (i + 1) * 5 + j - 5 = i * 5 + j by omega, smL_at l i j (by simpa using h) hj]
    rfl
theorem smL_put : ∀ (l : List Sm) (i : Nat) (s : Sm), i < l.length → (((((smL l).set (i * 5) (.int .i64 (s.r : Int))).set (i * 5 + 1) (.int .i64 (s.g : Int))).set (i * 5 + 2) (.int .i64 (s.b : Int))).set (i * 5 + 3) (.int .i64 (s.a : Int))).set (i * 5 + 4) (.int .i64 (s.t : Int)) = smL (l.set i s)
  | [], i, s, h => by simp at h
  | x :: l, 0, s, _ => rfl
  | x :: l, i + 1, s, h => by
    have e : (i + 1) * 5 = i * 5 + 1 + 1 + 1 + 1 + 1 := by omega
    have e1 : (i + 1) * 5 + 1 = i * 5 + 1 + 1 + 1 + 1 + 1 + 1 := by omega
    have e2 : (i + 1) * 5 + 2 = i * 5 + 2 + 1 + 1 + 1 + 1 + 1 := by omega
    have e3 : (i + 1) * 5 + 3 = i * 5 + 3 + 1 + 1 + 1 + 1 + 1 := by omega
    have e4 : (i + 1) * 5 + 4 = i * 5 + 4 + 1 + 1 + 1 + 1 + 1 := by omega
    rw [e4, e3, e2, e1, e]
    show x.cells ++ (((((smL l).set (i * 5) _).set (i * 5 + 1) _).set (i * 5 + 2) _).set (i * 5 + 3) _).set (i * 5 + 4) _ = x.cells ++ smL _
    rw [smL_put l i s (by simpa using h)]
    first | done | rfl
structure SmAt (w : World) (k off : Nat) (s : Sm) : Prop where
  r : w.cell? ⟨k, off, none⟩ = some (.int .i64 (s.r : Int))
  g : w.cell? ⟨k, off + 1, none⟩ = some (.int .i64 (s.g : Int))
  b : w.cell? ⟨k, off + 2, none⟩ = some (.int .i64 (s.b : Int))
  a : w.cell? ⟨k, off + 3, none⟩ = some (.int .i64 (s.a : Int))
  t : w.cell? ⟨k, off + 4, none⟩ = some (.int .i64 (s.t : Int))
theorem own_smAt {w : World} {base n cap g : Nat} {T : TypeId} {l : List Sm} (h : w.ownsRow base T 5 (.slice (some ⟨g, 0, none⟩) n cap) n (smL l)) (i : Nat) (hi : i < l.length) (hn : l.length = n) : SmAt w g (i * 5) l[i] := by
  have hc : ∀ j, j < 5 → w.cell? ⟨g, i * 5 + j, none⟩ = (l[i]).cells[j]? := fun j hj => by
    rw [h.cellAt (i * 5 + j) (by omega)]
    exact smL_at l i j hi hj
  exact ⟨hc 0 (by omega), hc 1 (by omega), hc 2 (by omega), hc 3 (by omega), hc 4 (by omega)⟩
/-- Five cells in a row are stored. -/
def putS (w : World) (g o : Nat) (s : Sm) : World := ((((w.setCell ⟨g, o, none⟩ (.int .i64 (s.r : Int))).setCell ⟨g, o + 1, none⟩ (.int .i64 (s.g : Int))).setCell ⟨g, o + 2, none⟩ (.int .i64 (s.b : Int))).setCell ⟨g, o + 3, none⟩ (.int .i64 (s.a : Int))).setCell ⟨g, o + 4, none⟩ (.int .i64 (s.t : Int))
theorem own_putS {w : World} {B k c G : Nat} {T : TypeId} {l : List Sm} (h : w.ownsRow B T 5 (.slice (some ⟨G, 0, none⟩) k c) k (smL l)) (i : Nat) (hi : i < l.length) (s : Sm) :
    (putS w G (i * 5) s).ownsRow B T 5 (.slice (some ⟨G, 0, none⟩) k c) k (smL (l.set i s)) := by
  rw [← smL_put l i s hi]
  unfold putS
  exact (((((h.stored _ _).1.stored _ _).1.stored _ _).1.stored _ _).1.stored _ _).1

theorem But.drewS {S : Nat → Prop} {a w : World} (h : But S a w) : But S a w.drew.drew.drew.drew.drew := h.drew.drew.drew.drew.drew
theorem putS_but (w : World) (G o : Nat) (s : Sm) : But (· = G) w (putS w G o s) := by
  unfold putS
  exact (((((But.refl (fun x => x = G) w).setCell (p := ⟨G, o, none⟩) rfl _).setCell (p := ⟨G, o + 1, none⟩) rfl _).setCell (p := ⟨G, o + 2, none⟩) rfl _).setCell (p := ⟨G, o + 3, none⟩) rfl _).setCell (p := ⟨G, o + 4, none⟩) rfl _

set_option maxHeartbeats 4000000 in
set_option maxRecDepth 100000 in
theorem add_any (B G i K c : Nat) (T : TypeId) (l : List Sm) (s : Sm) (u : Us) (w : World) (h : w.ownsRow B T 5 (.slice (some ⟨G, 0, none⟩) K c) K (smL l)) (hi : i < l.length) (hs : l[i] = s) (hK : l.length = K) (hu : u.t ≤ 100000) (h1 : s.r ≤ 1000000000 ∧ s.g ≤ 1000000000 ∧ s.b ≤ 1000000000 ∧ s.a ≤ 1000000000 ∧ s.t ≤ 1000000000) :
    Calls Tryd.prog 43 #[.pointer (some ⟨G, i * 5, none⟩), .agg #[.int .u8 (u.c.r.toNat : Int), .int .u8 (u.c.g.toNat : Int), .int .u8 (u.c.b.toNat : Int), .int .u8 (u.c.a.toNat : Int), .int .i64 (u.t : Int)]] w fun e w' => e = .returned (.tuple #[]) ∧ w'.ownsRow B T 5 (.slice (some ⟨G, 0, none⟩) K c) K (smL (l.set i (s.add u))) ∧ But (· = G) w w' := by
  have hat := own_smAt h i hi hK
  rw [hs] at hat
  obtain ⟨c0, c1, c2, c3, c4⟩ := hat
  obtain ⟨q1, q2, q3, q4, q5⟩ := h1
  have f0 := h.frozenAt (i * 5)
  have f1 := h.frozenAt (i * 5 + 1)
  have f2 := h.frozenAt (i * 5 + 2)
  have f3 := h.frozenAt (i * 5 + 3)
  have f4 := h.frozenAt (i * 5 + 4)
  have HO := hide (own_putS h i hi (s.add u))
  have HBU := hide (putS_but w G (i * 5) (s.add u))
  obtain ⟨o, ho⟩ : ∃ o, o = i * 5 := ⟨_, rfl⟩
  rw [← ho] at c0 c1 c2 c3 c4 f0 f1 f2 f3 f4 HO HBU ⊢
  have hG := World.block_lt_of_cell? _ _ c0
  have l1 := u.c.r.toNat_lt
  have l2 := u.c.g.toNat_lt
  have l3 := u.c.b.toNat_lt
  have l4 := u.c.a.toNat_lt
  have b1 : u.c.r.toNat * u.t ≤ 256 * 100000 := Nat.mul_le_mul (by omega) hu
  have b2 : u.c.g.toNat * u.t ≤ 256 * 100000 := Nat.mul_le_mul (by omega) hu
  have b3 : u.c.b.toNat * u.t ≤ 256 * 100000 := Nat.mul_le_mul (by omega) hu
  have b4 : u.c.a.toNat * u.t ≤ 256 * 100000 := Nat.mul_le_mul (by omega) hu
  obtain ⟨m1, hm1⟩ : ∃ m, m = u.c.r.toNat * u.t := ⟨_, rfl⟩
  obtain ⟨m2, hm2⟩ : ∃ m, m = u.c.g.toNat * u.t := ⟨_, rfl⟩
  obtain ⟨m3, hm3⟩ : ∃ m, m = u.c.b.toNat * u.t := ⟨_, rfl⟩
  obtain ⟨m4, hm4⟩ : ∃ m, m = u.c.a.toNat * u.t := ⟨_, rfl⟩
  have z1 : (u.c.r.toNat : Int) * (u.t : Int) = (m1 : Int) := by rw [hm1]; simp
  have z2 : (u.c.g.toNat : Int) * (u.t : Int) = (m2 : Int) := by rw [hm2]; simp
  have z3 : (u.c.b.toNat : Int) * (u.t : Int) = (m3 : Int) := by rw [hm3]; simp
  have z4 : (u.c.a.toNat : Int) * (u.t : Int) = (m4 : Int) := by rw [hm4]; simp
  have HE : Hid (putS w G o (s.add u) = ((((w.setCell ⟨G, o, none⟩ (.int .i64 ((s.r : Int) + (m1 : Int)))).setCell ⟨G, o + 1, none⟩ (.int .i64 ((s.g : Int) + (m2 : Int)))).setCell ⟨G, o + 2, none⟩ (.int .i64 ((s.b : Int) + (m3 : Int)))).setCell ⟨G, o + 3, none⟩ (.int .i64 ((s.a : Int) + (m4 : Int)))).setCell ⟨G, o + 4, none⟩ (.int .i64 ((s.t : Int) + (u.t : Int)))) := by
    rw [hm1, hm2, hm3, hm4]
    rfl
  rw [← hm1] at b1
  rw [← hm2] at b2
  rw [← hm3] at b3
  rw [← hm4] at b4
  have v1 : IntKind.i64.wrap (m1 : Int) = (m1 : Int) := by rw [IntKind.wrap_i64]; omega
  have v2 : IntKind.i64.wrap (m2 : Int) = (m2 : Int) := by rw [IntKind.wrap_i64]; omega
  have v3 : IntKind.i64.wrap (m3 : Int) = (m3 : Int) := by rw [IntKind.wrap_i64]; omega
  have v4 : IntKind.i64.wrap (m4 : Int) = (m4 : Int) := by rw [IntKind.wrap_i64]; omega
  clear hm1 hm2 hm3 hm4 h ho hi hs hK
  go_enter Tryd.func43, Tryd.ntmps43
  go_wp2
  go_region
  go_wp2
  go_region
  go_wp2
  go_region
  go_wp2
  go_region
  go_wp2
  go_region
  go_wp2
  go_end0
  rw [← unhide HE]
  refine ⟨rfl, (unhide HO).alloc _, ?_⟩
  exact ((unhide HBU).alloc _).drewS
end Go.Proofs.YtpfobocdbmiagaaDoor
