/- Layer by layer, or place by place: plain. A layer that is not there, one that is hidden, one that covers nothing; a merged one: plain. -/
import Derived.Test.YtkdckcengmkhhajDoorLy7
import Derived.Test.YtkdckcengmkhhajDoorSp1
namespace Go.Proofs.YtkdckcengmkhhajDoor

/-- What covers nothing has no color. -/
def Cln (c : Px) : Prop := c.a = 0 → c = ⟨0, 0, 0, 0⟩
theorem cln_zero : Cln ⟨0, 0, 0, 0⟩ := fun _ => rfl
theorem u8_zero {x : UInt8} (h : x.toNat = 0) : x = 0 := UInt8.toNat_inj.1 (by simpa using h)
theorem cln_over (m : Nat) (t u : Px) : Cln (overP m t u) := fun h => by
  unfold overP
  by_cases h0 : Ov.cov t.a.toNat u.a.toNat = 0
  · rw [if_pos h0]
  · exfalso
    have ht := u8_le t.a
    have hu := u8_le u.a
    rw [over_a] at h
    have h1 : Ov.rnd (Ov.cov t.a.toNat u.a.toNat) 255 = 0 := by
      have e := u8_of (Ov.covers_le t.a.toNat u.a.toNat ht hu)
      rw [h] at e
      exact e.symm
    have g1 := Ov.rnd_ge (c := t.a.toNat) (k := 255) (Ov.cov_ge t.a.toNat u.a.toNat) (by omega)
    have g2 := Ov.rnd_ge (c := u.a.toNat) (k := 255) (Ov.cov_ge2 t.a.toNat u.a.toNat ht hu) (by omega)
    have z1 : t.a.toNat = 0 := by omega
    have z2 : u.a.toNat = 0 := by omega
    rw [z1, z2] at h0
    exact h0 rfl
theorem cln_fade (p : Px) (o : Nat) (ho : o ≤ 255) : Cln (fadeP p o) := fun h => by
  unfold fadeP at h ⊢
  split at h
  · next q => rw [if_pos q]
  · next q =>
    exfalso
    have e := u8_of (fade_le p.a.toNat o (u8_le _) ho).2
    simp only at h
    rw [h] at e
    exact q e.symm
theorem cln_lay (l : Ly) (x y : Nat) (c : Px) (h : Cln c) : Cln (lay l x y c) := by
  unfold lay
  split
  · exact h
  · exact cln_over _ _ _
theorem cln_seen (L : Nat → Ly) : ∀ n x y, Cln (seenP L n x y)
  | 0, _, _ => cln_zero
  | n + 1, x, y => cln_lay (L n) x y _ (cln_seen L n x y)
theorem shP_no {l : Ly} {x y : Nat} (h : ¬ (l.hid = false ∧ InL l x y)) : shP l x y = ⟨0, 0, 0, 0⟩ := by unfold shP; rw [if_neg h]
theorem shP_yes {l : Ly} {x y : Nat} (h : l.hid = false ∧ InL l x y) : shP l x y = fadeP (l.q (((y : Int) - l.y).toNat * l.wd.toNat + ((x : Int) - l.x).toNat)) l.op.toNat := by unfold shP; rw [if_pos h]
/-- A layer that is hidden leaves all as it is. -/
theorem lay_hid (l : Ly) (x y : Nat) (c : Px) (h : l.hid = true) : lay l x y c = c := by
  unfold lay
  rw [shP_no (fun q => by rw [h] at q; exact absurd q.1 (by simp))]
  rfl
/-- A layer that is stamped. -/
theorem lay_stamp (l : Ly) (W QW QH mo : Nat) (x y : Nat) (p s : Nat → Px) (h : l.hid = false) (ho : 0 ≤ l.op ∧ l.op ≤ 255) (eW : l.wd = (QW : Int)) (eH : l.hg = (QH : Int)) (em : l.mo = (mo : Int)) (hs : ∀ k, k < QW * QH → s k = fadeP (l.q k) l.op.toNat) (hc : Cln (p (y * W + x))) :
    stG W QW QH mo l.x l.y p s x y = lay l x y (p (y * W + x)) := by
  unfold stG
  generalize p (y * W + x) = c at *
  by_cases hi : InL l x y
  · have hi' := hi
    unfold InL at hi'
    rw [eW, eH] at hi'
    rw [decide_eq_true (show l.x ≤ (x : Int) ∧ (x : Int) < l.x + (QW : Int) ∧ l.y ≤ (y : Int) ∧ (y : Int) < l.y + (QH : Int) from ⟨hi'.1.1, hi'.1.2, hi'.2.1, hi'.2.2⟩), if_pos rfl]
    obtain ⟨dx, hdx⟩ := Int.eq_ofNat_of_zero_le (show 0 ≤ (x : Int) - l.x by omega)
    obtain ⟨dy, hdy⟩ := Int.eq_ofNat_of_zero_le (show 0 ≤ (y : Int) - l.y by omega)
    have i1 : dx < QW := by omega
    have i2 : dy < QH := by omega
    have hlt : dy * QW + dx < QW * QH := by
      have e1 := Nat.mul_le_mul_right QW i2
      have e2 := Nat.mul_comm QW QH
      have e3 : (dy + 1) * QW = dy * QW + QW := Nat.succ_mul _ _
      simp only [Nat.succ_eq_add_one] at e1
      omega
    unfold lay
    rw [shP_yes ⟨h, hi⟩, hdx, hdy, eW, em]
    simp only [Int.toNat_natCast]
    rw [hs _ hlt]
    generalize hf : fadeP (l.q (dy * QW + dx)) l.op.toNat = t
    by_cases ht : t.a.toNat = 0
    · rw [if_pos ht]
      have hz : t = ⟨0, 0, 0, 0⟩ := by
        have := cln_fade (l.q (dy * QW + dx)) l.op.toNat (by omega)
        rw [hf] at this
        exact this (u8_zero ht)
      rw [hz, under_nothing]
      split
      · next q => exact (hc q).symm
      · rfl
    · rw [if_neg ht]
  · have hi' : ¬ (l.x ≤ (x : Int) ∧ (x : Int) < l.x + (QW : Int) ∧ l.y ≤ (y : Int) ∧ (y : Int) < l.y + (QH : Int)) := fun q => hi (by unfold InL; rw [eW, eH]; exact ⟨⟨q.1, q.2.1⟩, q.2.2.1, q.2.2.2⟩)
    rw [decide_eq_false hi', if_neg (by simp)]
    unfold lay
    rw [shP_no (fun q => hi q.2)]
    rfl
end Go.Proofs.YtkdckcengmkhhajDoor
namespace Go.Proofs.YtkdckcengmkhhajDoor

/-- Without one. -/
def rmL {α : Type} (L : Nat → α) (k : Nat) : Nat → α := fun j => if j < k then L j else L (j + 1)
theorem seen_congr {L M : Nat → Ly} (x y : Nat) : ∀ n, (∀ j, j < n → lay (L j) x y = lay (M j) x y) → seenP L n x y = seenP M n x y
  | 0, _ => rfl
  | n + 1, h => by
    show lay (L n) x y _ = lay (M n) x y _
    rw [seen_congr x y n (fun j hj => h j (by omega)), h n (by omega)]
/-- One that leaves all as it is, or none. -/
theorem seen_rm {L M : Nat → Ly} (x y k : Nat) (hl : ∀ j, j ≠ k → lay (M j) x y = lay (L j) x y) (hk : ∀ c, Cln c → lay (M k) x y c = c) :
    ∀ n, k ≤ n → seenP M (n + 1) x y = seenP (rmL L k) n x y := by
  intro n hn
  induction n with
  | zero =>
    obtain rfl : k = 0 := by omega
    show lay (M 0) x y _ = _
    exact hk _ cln_zero
  | succ n ih =>
    rcases Nat.lt_or_ge n k with q | q
    · obtain rfl : k = n + 1 := by omega
      show lay (M (n + 1)) x y _ = _
      rw [hk _ (cln_seen M (n + 1) x y)]
      exact seen_congr x y (n + 1) (fun j hj => by rw [hl j (by omega)]; unfold rmL; rw [if_pos hj])
    · show lay (M (n + 1)) x y (seenP M (n + 1) x y) = lay (rmL L k n) x y (seenP (rmL L k) n x y)
      rw [ih q, hl (n + 1) (by omega)]
      unfold rmL
      rw [if_neg (by omega)]
theorem fade_none (p : Px) : fadeP p 0 = ⟨0, 0, 0, 0⟩ := by
  unfold fadeP
  rw [if_pos (by rw [Nat.mul_zero]; rfl)]
theorem fade_all (p : Px) (h : Cln p) : fadeP p 255 = p := by
  unfold fadeP
  rw [Ov.rnd_mul _ _ (by omega)]
  by_cases h0 : p.a.toNat = 0
  · rw [if_pos h0]; exact (h (u8_zero h0)).symm
  · rw [if_neg h0, u8_back]
/-- One of opacity 0 leaves all as it is. -/
theorem lay_clear (l : Ly) (x y : Nat) (c : Px) (h : l.op = 0) : lay l x y c = c := by
  unfold lay
  by_cases hi : l.hid = false ∧ InL l x y
  · rw [shP_yes hi, h]
    show (if (fadeP _ 0).a.toNat = 0 then c else _) = c
    rw [fade_none]
    rfl
  · rw [shP_no hi]
    rfl
/-- A layer of the whole document's size, of opacity 255, mode 0, over nothing, shows its pixels. -/
theorem lay_whole (l : Ly) (W H x y : Nat) (P : Nat → Nat → Px) (hh : l.hid = false) (hx : l.x = 0) (hy : l.y = 0) (ho : l.op = 255) (hm : l.mo = 0) (hw : l.wd = (W : Int)) (hg : l.hg = (H : Int)) (hq : ∀ x y, x < W → y < H → l.q (y * W + x) = P x y) (hc : Cln (P x y)) (hxW : x < W) (hyH : y < H) :
    lay l x y ⟨0, 0, 0, 0⟩ = P x y := by
  have hi : l.hid = false ∧ InL l x y := ⟨hh, by unfold InL; rw [hx, hy, hw, hg]; exact ⟨⟨by omega, by omega⟩, by omega, by omega⟩⟩
  have e : shP l x y = P x y := by
    rw [shP_yes hi, hx, hy, hw, ho]
    have e1 : ((y : Int) - 0).toNat = y := by omega
    have e2 : ((x : Int) - 0).toNat = x := by omega
    rw [e1, e2, Int.toNat_natCast, hq x y hxW hyH]
    exact fade_all _ hc
  unfold lay
  rw [e, hm]
  by_cases h0 : (P x y).a.toNat = 0
  · rw [if_pos h0]; exact (hc (u8_zero h0)).symm
  · rw [if_neg h0, over_nothing, if_neg (fun q => h0 (by rw [q]; rfl))]
end Go.Proofs.YtkdckcengmkhhajDoor
