/- Walk of the program's Pack, where no number is too wide. -/
import Derived.Test.YtmmilamaahmaoaeDoorLzn
namespace Go.Proofs.YtmmilamaahmaoaeDoor
open Go.RowKit Lz Ps

theorem blank_of (s : ByteArray) (h : s.size = 0) : s = ⟨#[]⟩ := by
  apply text_ext
  apply List.eq_nil_of_length_eq_zero
  rw [size_list]; exact h

theorem packP_any (W : Nat) (s : ByteArray) (w : World) (hW2 : 2 ≤ W) (hW : W ≤ 8) (hs : s.size ≤ 100000) (hb : ∀ x ∈ s.data.toList, x.toNat < 2 ^ W) :
    Calls Tryd.prog 30 #[.pointer (some ⟨w.heap.size + 1, 0, none⟩), .string s] (newPk w W) fun e w' => e = .returned (.tuple #[]) ∧ WP w' (w.heap.size + 1) (packAll W s.data.toList) ∧ Below w.heap.size (newPk w W) w' := by
  obtain ⟨n1, n2, n3, n4⟩ := newPk_is w W
  rcases Nat.eq_zero_or_pos s.size with h | h
  · have := blank_of s h
    subst this
    refine (pack_none (w.heap.size + 1) W 0 0 (newPk w W) n1 n2 hW2 hW).mono ?_
    rintro e w' ⟨rfl, h1, h2⟩
    exact ⟨rfl, h1, h2.mono (by omega)⟩
  · refine pack_any (w.heap.size + 1) w.heap.size W 0 0 s (newPk w W) n1 n2 n3 ?_ (by omega) hW2 hW h hs hb
    have := LP.made w
    refine this.same ?_
    unfold newPk
    exact Below.heap_alloc _ _ _ (by simp)

theorem shr_zero (b W : Nat) (h : b < 2 ^ W) : (b : Int) / 2 ^ W = 0 := by
  have e : ((2 ^ W : Nat) : Int) = (2 : Int) ^ W := by simp
  rw [← e]
  have : (b : Int) / ((2 ^ W : Nat) : Int) = ((b / 2 ^ W : Nat) : Int) := by simp
  rw [this, Nat.div_eq_of_lt h]
  rfl

set_option maxHeartbeats 2000000 in
set_option maxRecDepth 100000 in
theorem pack_in (W : Nat) (s : ByteArray) (w : World) (hW2 : 2 ≤ W) (hW : W ≤ 8) (hs : s.size ≤ 100000) (hb : ∀ x ∈ s.data.toList, x.toNat < 2 ^ W) :
    Calls Tryd.prog 9 #[.string s, .int .i64 (W : Int)] w fun e w' => e = .returned (.tuple #[.string (textP (packAll W s.data.toList)), .nilIface]) ∧ Below w.heap.size w w' := by
  have H1 := hide (wide_yes W w hW2 hW)
  have H2 := hide (newPacker_any W w hW)
  have H3 := hide (packP_any W s w hW2 hW hs hb)
  have HB := hide (newPk_is w W).2.2.2
  have HBB := hide hb
  have hsl := size_list s
  have g0 : decide ((s.size : Int) > 300000) = false := by simp; omega
  have g0' : decide ((300000 : Int) < (s.size : Int)) = false := g0
  have g0n : decide (300000 < s.size) = false := by simp; omega
  have hW64 : decide ((W : Int) < 64) = true := by simp; omega
  clear hb
  go_enter Tryd.func9, Tryd.ntmps9
  go_wp2_with fail
  refine (unhide H1).mono ?_; rintro e w1 ⟨rfl, rfl⟩
  clear H1
  go_wp2
  go_loopw [19] (fun iv wr => ∃ i : Nat, iv = .int .i64 (i : Int) ∧ i ≤ s.size ∧ wr = w1) (fun iv _ => s.size - (intOf iv).toNat)
  case atStart => exact ⟨0, rfl, by omega, rfl⟩
  case round =>
    obtain ⟨i, rfl, hi, rfl⟩ := hrel
    by_cases hlt : i < s.size
    · have g1 : decide ((i : Int) < (s.size : Int)) = true := by simp; omega
      have g1n : decide (i < s.size) = true := by simp; omega
      have hii : (i : Int) < (s.size : Int) := by omega
      have hil : i < s.data.toList.length := by omega
      have hbe := byte_at s i hlt hil
      obtain ⟨n, hn⟩ : ∃ n, n = s[i].toNat := ⟨_, rfl⟩
      have zn : (s[i].toNat : Int) = (n : Int) := by rw [hn]
      have hn256 : n < 256 := by rw [hn]; exact s[i].toNat_lt
      have hsh : (n : Int) / 2 ^ W = 0 := shr_zero _ _ (by rw [hn, ← hbe]; exact unhide HBB _ (List.getElem_mem hil))
      clear hbe hn
      go_wp2
      go_roundw
      case rel => exact ⟨i + 1, by go_num, by omega, trivial⟩
      case measure => simp [intOf]; omega
    · have g1 : decide ((i : Int) < (s.size : Int)) = false := by simp; omega
      have g1n : decide (i < s.size) = false := by simp; omega
      go_wp2_with fail
      refine (unhide H2).mono ?_; rintro e w2 ⟨rfl, rfl⟩
      go_wp2_with fail
      refine (unhide H3).mono ?_; rintro e w3 ⟨rfl, hW3, hb3⟩
      have HX := hide (wtext_any _ _ _ hW3)
      have HB3 := hide ((unhide HB).trans hb3)
      obtain ⟨TX, hTX⟩ : ∃ TX, TX = textP (packAll W s.data.toList) := ⟨_, rfl⟩
      rw [← hTX] at HX
      have HTX := hide hTX
      clear hTX
      clear hW3 hb3 H2 H3 HB
      go_wp2_with fail
      refine (unhide HX).mono ?_; rintro e w4 ⟨rfl, rfl⟩
      go_wp2
      go_ret2
      exact ⟨by rw [← unhide HTX]; rfl, unhide HB3⟩
end Go.Proofs.YtmmilamaahmaoaeDoor
