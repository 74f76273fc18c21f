/- A layer changed, a layer removed: what a check says; stores into a row. -/
import Derived.Test.YtkdckcengmkhhajDoorLyK
namespace Go.Proofs.YtkdckcengmkhhajDoor

def updL (L : Nat → Ly) (k : Nat) (l : Ly) : Nat → Ly := fun j => if j = k then l else L j
theorem updL_at (L : Nat → Ly) (k : Nat) (l : Ly) : updL L k l k = l := by simp [updL]
theorem updL_ne (L : Nat → Ly) (k j : Nat) (l : Ly) (h : j ≠ k) : updL L k l j = L j := by simp [updL, h]
theorem wrN_upd {L : Nat → Ly} {k : Nat} {l : Ly} (hn : l.name = (L k).name) (hp : Pl (L k) → Pl l) (hr : RightP (L k).wd (L k).hg (L k).n → RightP l.wd l.hg l.n) (j : Nat) (h : wrN L j = 0) : wrN (updL L k l) j = 0 := by
  obtain ⟨⟨h1, h2⟩, h3, h4⟩ := wrN_zero h
  have nm : ∀ i, (updL L k l i).name = (L i).name := fun i => by
    by_cases e : i = k
    · subst e; rw [updL_at]; exact hn
    · rw [updL_ne _ _ _ _ e]
  refine wrN_fine ⟨by rw [nm]; exact h1, fun ⟨i, hi, e⟩ => h2 ⟨i, hi, by rw [nm, nm] at e; exact e⟩⟩ ?_ ?_
  · by_cases e : j = k
    · subst e; rw [updL_at]; exact hp h3
    · rw [updL_ne _ _ _ _ e]; exact h3
  · by_cases e : j = k
    · subst e; rw [updL_at]; exact hr h4
    · rw [updL_ne _ _ _ _ e]; exact h4
theorem wrN_rm {L : Nat → Ly} {k n : Nat} (h : ∀ j, j < n + 1 → wrN L j = 0) (j : Nat) (hj : j < n) : wrN (rmL L k) j = 0 := by
  have ix : ∀ j, rmL L k j = L (if j < k then j else j + 1) := fun j => by unfold rmL; split <;> rfl
  obtain ⟨⟨h1, h2⟩, h3, h4⟩ := wrN_zero (h (if j < k then j else j + 1) (by split <;> omega))
  rw [← ix] at h1 h2 h3 h4
  refine wrN_fine ⟨h1, fun ⟨i, hi, e⟩ => h2 ⟨if i < k then i else i + 1, ?_, by rw [← ix]; exact e⟩⟩ h3 h4
  split <;> split <;> omega
theorem Chk.all {W H : Int} {n : Nat} {L : Nat → Ly} {z : Int} (h : Chk W H n L 0 z) : Sd W H n ∧ z = -1 ∧ ∀ j, j < n → wrN L j = 0 := by
  rcases h with ⟨_, e, _⟩ | ⟨s, _, e, h⟩ | ⟨_, i, _, _, e, _⟩
  · omega
  · exact ⟨s, e, h⟩
  · exact absurd rfl e
theorem chk_upd {W H : Int} {n k : Nat} {L : Nat → Ly} {l : Ly} {z : Int} (h : Chk W H n L 0 z) (hn : l.name = (L k).name) (hp : Pl (L k) → Pl l) (hr : RightP (L k).wd (L k).hg (L k).n → RightP l.wd l.hg l.n) : Chk W H n (updL L k l) 0 z :=
  .inr (.inl ⟨h.all.1, rfl, h.all.2.1, fun j hj => wrN_upd hn hp hr j (h.all.2.2 j hj)⟩)
theorem chk_rm {W H : Int} {n k : Nat} {L : Nat → Ly} {z : Int} (h : Chk W H (n + 1) L 0 z) : Chk W H n (rmL L k) 0 z :=
  .inr (.inl ⟨⟨h.all.1.1, h.all.1.2.1, by have := h.all.1.2.2; omega⟩, rfl, h.all.2.1, fun j hj => wrN_rm h.all.2.2 j hj⟩)

theorem Row9.upd {w : World} {g n cap i j0 : Nat} {t : TypeId} {L : Nat → Ly} {a : Nat → Option Addr} {c : Nat → Nat} {l : Ly} {v : Value} (h : Row9 w g n cap t (lyVals L a c n)) (_hi : i < n) (hj0 : j0 < 9) (hv : (l.cells (a i) (c i))[j0]? = some v) (ho : ∀ j, j < 9 → j ≠ j0 → (l.cells (a i) (c i))[j]? = ((L i).cells (a i) (c i))[j]?) : Row9 (w.setCell ⟨g, i * 9 + j0, none⟩ v) g n cap t (lyVals (updL L i l) a c n) := by
  obtain ⟨cur, hc, hs, hx⟩ := h.ex
  have hle : n * 9 ≤ cap * 9 := Nat.mul_le_mul_right 9 h.le
  refine ⟨⟨cur.setIfInBounds (i * 9 + j0) v, set_cells hc _, by rw [Array.size_setIfInBounds]; exact hs, fun j hj => ?_⟩, lyVals_length _ _ _ n, h.le⟩
  have e1 := lyVals_at (updL L i l) a c n (j / 9) (j % 9) (by omega) (by omega)
  rw [show j / 9 * 9 + j % 9 = j by omega] at e1
  have e2 := lyVals_at L a c n (j / 9) (j % 9) (by omega) (by omega)
  rw [show j / 9 * 9 + j % 9 = j by omega] at e2
  rw [e1]
  by_cases q : j = i * 9 + j0
  · have q1 : j / 9 = i := by omega
    have q2 : j % 9 = j0 := by omega
    rw [q1, q2, updL_at, q, hv]
    simp [show i * 9 + j0 < cur.size by omega]
  · rw [Array.getElem?_setIfInBounds_ne (Ne.symm q), hx j hj, e2]
    by_cases r : j / 9 = i
    · rw [r, updL_at]
      exact (ho (j % 9) (by omega) (by omega)).symm
    · rw [updL_ne _ _ _ _ r]
/-- Hidden. -/
theorem Row9.hide9 {w : World} {g n cap i : Nat} {t : TypeId} {L : Nat → Ly} {a : Nat → Option Addr} {c : Nat → Nat} (h : Row9 w g n cap t (lyVals L a c n)) (hi : i < n) : Row9 (w.setCell ⟨g, i * 9 + 3, none⟩ (.bool true)) g n cap t (lyVals (updL L i { L i with hid := true }) a c n) :=
  h.upd hi (by omega) rfl (fun j hj hne => by
    rcases (show j = 0 ∨ j = 1 ∨ j = 2 ∨ j = 4 ∨ j = 5 ∨ j = 6 ∨ j = 7 ∨ j = 8 by omega) with z | z | z | z | z | z | z | z <;> rw [z] <;> rfl)
/-- Of opacity 0. -/
theorem Row9.clear9 {w : World} {g n cap i : Nat} {t : TypeId} {L : Nat → Ly} {a : Nat → Option Addr} {c : Nat → Nat} (h : Row9 w g n cap t (lyVals L a c n)) (hi : i < n) : Row9 (w.setCell ⟨g, i * 9 + 4, none⟩ (.int .i64 0)) g n cap t (lyVals (updL L i { L i with op := 0 }) a c n) :=
  h.upd hi (by omega) rfl (fun j hj hne => by
    rcases (show j = 0 ∨ j = 1 ∨ j = 2 ∨ j = 3 ∨ j = 5 ∨ j = 6 ∨ j = 7 ∨ j = 8 by omega) with z | z | z | z | z | z | z | z <;> rw [z] <;> rfl)
/-- What is seen is the same. -/
theorem seen_hidden (L : Nat → Ly) (n k x y : Nat) (hk : k ≤ n) : seenP (updL L k { L k with hid := true }) (n + 1) x y = seenP (rmL L k) n x y :=
  seen_rm x y k (fun j hj => by rw [updL_ne _ _ _ _ hj]) (fun c _ => by rw [updL_at]; exact lay_hid _ x y c rfl) n hk
theorem seen_clear (L : Nat → Ly) (n k x y : Nat) (hk : k ≤ n) : seenP (updL L k { L k with op := 0 }) (n + 1) x y = seenP (rmL L k) n x y :=
  seen_rm x y k (fun j hj => by rw [updL_ne _ _ _ _ hj]) (fun c _ => by rw [updL_at]; exact lay_clear _ x y c rfl) n hk
end Go.Proofs.YtkdckcengmkhhajDoor
