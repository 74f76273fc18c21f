/- Pixels as texts: the plain facts. -/
import Derived.Test.YtaghndongffafagDoorPx0
import Derived.Lib.Bytealg
namespace Go.Proofs.YtaghndongffafagDoor
open Go.RowKit

/-- The digits of 16. -/
def hexS : ByteArray := ⟨#[48, 49, 50, 51, 52, 53, 54, 55, 56, 57, 97, 98, 99, 100, 101, 102]⟩
def hexd (n : Nat) : UInt8 := [48, 49, 50, 51, 52, 53, 54, 55, 56, 57, 97, 98, 99, 100, 101, 102].getD n 0
/-- Which digit a byte is; -1: none. -/
def digI (c : UInt8) : Int := if 48 ≤ c.toNat ∧ c.toNat ≤ 57 then (c.toNat : Int) - 48 else if 97 ≤ c.toNat ∧ c.toNat ≤ 102 then (c.toNat : Int) - 87 else -1
theorem digI_hexd : ∀ n, n < 16 → digI (hexd n) = (n : Int) := by decide +kernel
theorem digI_range (c : UInt8) : -1 ≤ digI c ∧ digI c ≤ 15 := by unfold digI; split <;> (try split) <;> omega
theorem find_all : ∀ n, n < 256 → firstIdx hexS (UInt8.ofNat n) = digI (UInt8.ofNat n) := by decide +kernel
theorem find_is (c : UInt8) : firstIdx hexS c = digI c := by
  have h := find_all c.toNat c.toNat_lt
  rwa [show UInt8.ofNat c.toNat = c by simp] at h
/-- A byte as two digits. -/
def hx2 (b : UInt8) : List UInt8 := [hexd (b.toNat / 16), hexd (b.toNat % 16)]
/-- A pixel's text. -/
def pxL8 (p : Px) : List UInt8 := hx2 p.r ++ hx2 p.g ++ hx2 p.b ++ hx2 p.a
def pxT (p : Px) : ByteArray := ⟨(pxL8 p).toArray⟩
theorem pxT_size (p : Px) : (pxT p).size = 8 := rfl
/-- A text's byte. -/
def tb8 (s : ByteArray) (i : Nat) : UInt8 := s.data.toList.getD i 0
theorem tb8_get (s : ByteArray) (i : Nat) (h : i < s.size) : s[i] = tb8 s i := by
  have h' : i < s.data.toList.length := by simpa using h
  unfold tb8
  rw [List.getD_eq_getElem?_getD, List.getElem?_eq_getElem h']
  rfl
/-- Two digits of a text as a number. -/
def rdB (s : ByteArray) (k : Nat) : Nat := 16 * (digI (tb8 s (2 * k))).toNat + (digI (tb8 s (2 * k + 1))).toNat
theorem rdB_le (s : ByteArray) (k : Nat) : rdB s k ≤ 255 := by
  have h1 := digI_range (tb8 s (2 * k))
  have h2 := digI_range (tb8 s (2 * k + 1))
  unfold rdB
  omega
/-- A text that is a pixel. -/
def GoodT (s : ByteArray) : Prop := s.size = 8 ∧ ∀ i, i < 8 → 0 ≤ digI (tb8 s i)
instance (s : ByteArray) : Decidable (GoodT s) := by unfold GoodT; infer_instance
def readP (s : ByteArray) : Px := ⟨UInt8.ofNat (rdB s 0), UInt8.ofNat (rdB s 1), UInt8.ofNat (rdB s 2), UInt8.ofNat (rdB s 3)⟩
theorem eight_lt {i : Nat} (h : i < 8) : i = 0 ∨ i = 1 ∨ i = 2 ∨ i = 3 ∨ i = 4 ∨ i = 5 ∨ i = 6 ∨ i = 7 := by omega
theorem pxT_bt (p : Px) : tb8 (pxT p) 0 = hexd (p.r.toNat / 16) ∧ tb8 (pxT p) 1 = hexd (p.r.toNat % 16) ∧ tb8 (pxT p) 2 = hexd (p.g.toNat / 16) ∧ tb8 (pxT p) 3 = hexd (p.g.toNat % 16) ∧ tb8 (pxT p) 4 = hexd (p.b.toNat / 16) ∧ tb8 (pxT p) 5 = hexd (p.b.toNat % 16) ∧ tb8 (pxT p) 6 = hexd (p.a.toNat / 16) ∧ tb8 (pxT p) 7 = hexd (p.a.toNat % 16) := ⟨rfl, rfl, rfl, rfl, rfl, rfl, rfl, rfl⟩
theorem pxT_good (p : Px) : GoodT (pxT p) := by
  refine ⟨rfl, fun i hi => ?_⟩
  obtain ⟨h0, h1, h2, h3, h4, h5, h6, h7⟩ := pxT_bt p
  have b1 := p.r.toNat_lt
  have b2 := p.g.toNat_lt
  have b3 := p.b.toNat_lt
  have b4 := p.a.toNat_lt
  rcases eight_lt hi with rfl | rfl | rfl | rfl | rfl | rfl | rfl | rfl
  · rw [h0, digI_hexd _ (by omega)]; omega
  · rw [h1, digI_hexd _ (by omega)]; omega
  · rw [h2, digI_hexd _ (by omega)]; omega
  · rw [h3, digI_hexd _ (by omega)]; omega
  · rw [h4, digI_hexd _ (by omega)]; omega
  · rw [h5, digI_hexd _ (by omega)]; omega
  · rw [h6, digI_hexd _ (by omega)]; omega
  · rw [h7, digI_hexd _ (by omega)]; omega
theorem pxT_read (p : Px) : readP (pxT p) = p := by
  obtain ⟨h0, h1, h2, h3, h4, h5, h6, h7⟩ := pxT_bt p
  have b1 := p.r.toNat_lt
  have b2 := p.g.toNat_lt
  have b3 := p.b.toNat_lt
  have b4 := p.a.toNat_lt
  have e0 : rdB (pxT p) 0 = p.r.toNat := by unfold rdB; rw [show 2 * 0 = 0 from rfl, show 0 + 1 = 1 from rfl, h0, h1, digI_hexd _ (by omega), digI_hexd _ (by omega)]; omega
  have e1 : rdB (pxT p) 1 = p.g.toNat := by unfold rdB; rw [show 2 * 1 = 2 from rfl, show 2 + 1 = 3 from rfl, h2, h3, digI_hexd _ (by omega), digI_hexd _ (by omega)]; omega
  have e2 : rdB (pxT p) 2 = p.b.toNat := by unfold rdB; rw [show 2 * 2 = 4 from rfl, show 4 + 1 = 5 from rfl, h4, h5, digI_hexd _ (by omega), digI_hexd _ (by omega)]; omega
  have e3 : rdB (pxT p) 3 = p.a.toNat := by unfold rdB; rw [show 2 * 3 = 6 from rfl, show 6 + 1 = 7 from rfl, h6, h7, digI_hexd _ (by omega), digI_hexd _ (by omega)]; omega
  unfold readP
  rw [e0, e1, e2, e3]
  simp
end Go.Proofs.YtaghndongffafagDoor
