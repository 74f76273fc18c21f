/- What is packed is unpacked, whatever stands behind it: Unpack of what Pack answers. -/
import Derived.Test.YtfgphihhnlgfhaeDoorLzf
import Derived.Test.YtfgphihhnlgfhaeDoorLzy
import Derived.Test.YtfgphihhnlgfhaeDoorPs2a
namespace Go.Proofs.YtfgphihhnlgfhaeDoor
open Go.RowKit Lz Ps

theorem packC_len (W : Nat) (hW : W ≤ 8) : ∀ (r : List UInt8) (P : List (Nat × Nat)) (S c : Nat), S ≤ 12 → len (packC W P S c r) ≤ 24 * r.length + 24 := by
  intro r
  induction r with
  | nil =>
    intro P S c hS
    have := (size'_le S (2 ^ W + 2 + P.length) hS).2
    simp only [packC, len, List.length_nil]
    omega
  | cons b r ih =>
    intro P S c hS
    have h1 := (size'_le S (2 ^ W + 2 + P.length) hS).2
    have h2 := (size'_le S 4095 hS).2
    unfold packC
    cases Lz.look W P c b.toNat with
    | some c' =>
      have := ih P S c' hS
      simp only [List.length_cons]
      omega
    | none =>
      simp only [List.length_cons]
      by_cases hf : 2 ^ W + 2 + P.length = 4095
      · rw [if_pos hf]
        have := ih [] (W + 1) b.toNat (by omega)
        simp only [len]
        omega
      · rw [if_neg hf]
        have := ih (P ++ [(c, b.toNat)]) (size' S (2 ^ W + 2 + P.length)) b.toNat h1
        simp only [len]
        omega

theorem packAll_len (W : Nat) (hW : W ≤ 8) (l : List UInt8) : len (packAll W l) ≤ 24 * l.length + 24 := by
  cases l with
  | nil => simp only [packAll, len, List.length_nil]; omega
  | cons b r =>
    have := packC_len W hW r [] (W + 1) b.toNat (by omega)
    simp only [packAll, len, List.length_cons]
    omega

theorem packAll_fit (W : Nat) (hW2 : 2 ≤ W) (hW : W ≤ 8) (b : UInt8) (r : List UInt8) (hb : ∀ x ∈ b :: r, x.toNat < 2 ^ W) : Fit (packAll W (b :: r)) := by
  have hp4 : 4 ≤ 2 ^ W := Nat.pow_le_pow_right (n := 2) (i := 2) (by omega) hW2
  have hp := pow2 W hW
  have h0 : ∀ c n c', Lz.look W [] c n = some c' → isCode W 0 c' := fun c n c' q => by simp [Lz.look] at q
  refine Fit.cons (show 2 ^ W < 2 ^ (W + 1) by rw [Nat.pow_succ]; omega) (packC_fit W hW2 hW r [] (W + 1) b.toNat (.inl (hb b (List.mem_cons_self ..))) (fun x hx => hb x (List.mem_cons_of_mem _ hx)) (fun n c' q => h0 _ n c' q) h0 ?_ (by omega) (by simp only [List.length_nil]; omega) (Nat.le_refl _))
  simp only [List.length_nil]
  rw [Nat.pow_succ]
  omega

theorem dec_packAll {V nb W most : Nat} (hW2 : 2 ≤ W) (hW : W ≤ 8) (b : UInt8) (r : List UInt8) (hb : ∀ x ∈ b :: r, x.toNat < 2 ^ W) (hat : At V nb 0 (packAll W (b :: r))) (hm : (b :: r).length ≤ most) :
    dec V nb W most (nb + 1) (Lz.start W) = .ok (b :: r) (len (packAll W (b :: r))) := by
  have hp4 : 4 ≤ 2 ^ W := Nat.pow_le_pow_right (n := 2) (i := 2) (by omega) hW2
  have hp := pow2 W hW
  have hb0 := hb b (List.mem_cons_self ..)
  have hlt : 2 ^ W < 2 ^ (W + 1) := by rw [Nat.pow_succ]; omega
  unfold packAll at hat ⊢
  obtain ⟨a1, a2⟩ := At.cons (p := (2 ^ W, W + 1)) hlt hat
  obtain ⟨b1, b2⟩ := a1.one
  simp only at b1 b2 a2
  have hs := Lz.step_clear (V := V) (nb := nb) (W := W) (most := most) (st := Lz.start W) (n := 2 ^ W) b1 b2.symm rfl
  rw [dec_go rfl hs]
  have hofb : UInt8.ofNat b.toNat = b := by simp
  have := dec_packC (V := V) (nb := nb) (W := W) (most := most) hW2 hW r [] [] (W + 1) b.toNat [b] ⟨0 + (W + 1), W + 1, [], [], []⟩ nb (Trie.nil W hW) (.inl hb0) (fun x hx => hb x (List.mem_cons_of_mem _ hx)) (by simp only [List.length_nil]; rw [Nat.pow_succ]; omega) (by omega) (Nat.le_refl _) (by rw [textOf, if_pos hb0, hofb]) (.inl ⟨rfl, rfl, rfl⟩) rfl a2 (by simp only [List.length_cons, List.length_nil] at hm ⊢; omega) (by show nb < 0 + (W + 1) + nb; omega)
  rw [show (Lz.start W).k + (Lz.start W).S = 0 + (W + 1) from rfl, show (Lz.start W).out = [] from rfl, this]
  simp only [len, List.nil_append, List.cons_append, List.nil_append]
  congr 1
  omega

theorem unS_packed (W : Nat) (hW2 : 2 ≤ W) (hW : W ≤ 8) (l : List UInt8) (h0 : l ≠ []) (hl : l.length ≤ 24000) (hb : ∀ x ∈ l, x.toNat < 2 ^ W) (more : ByteArray) (hm : more.size ≤ 100) :
    unS (textP (packAll W l) ++ more) (W : Int) (l.length : Int) = .ok l (len (packAll W l)) ∧ (len (packAll W l) + 7) / 8 = (textP (packAll W l)).size ∧ (textP (packAll W l)).size ≤ 100000 := by
  have hln := packAll_len W hW l
  have hts := textP_size (packAll W l)
  have hsz : (textP (packAll W l) ++ more).size ≤ 300000 := by rw [ByteArray.size_append, hts]; omega
  refine ⟨?_, hts.symm, by rw [hts]; omega⟩
  unfold unS
  rw [if_pos ⟨by omega, by omega, by omega, by omega, hsz⟩]
  cases l with
  | nil => exact absurd rfl h0
  | cons b r =>
    have hat := at_text (packAll_fit W hW2 hW b r hb) more
    exact dec_packAll hW2 hW b r hb hat (Nat.le_refl _)
end Go.Proofs.YtfgphihhnlgfhaeDoor
