/- Walk of the program's Pack where it refuses: a width that is none; a number that is too wide. -/
import Derived.Test.YtmmilamaahmaoaeDoorLzq
namespace Go.Proofs.YtmmilamaahmaoaeDoor
open Go.RowKit Lz Ps

set_option maxRecDepth 100000 in
theorem pack_out (s : ByteArray) (width : Int) (eB : Value) (w : World) (hs : s.size ≤ 300000) (hno : width < 2 ∨ 8 < width) (hB : w.cell? ⟨0, 0, none⟩ = some eB) :
    Calls Tryd.prog 9 #[.string s, .int .i64 width] w fun e w' => e = .returned (.tuple #[.string ⟨#[]⟩, eB]) ∧ Below w.heap.size w w' := by
  have HWD := hide (wide_no width w hno)
  have g0 : decide ((s.size : Int) > 300000) = false := by simp; omega
  have g0' : decide ((300000 : Int) < (s.size : Int)) = false := g0
  have g0n : decide (300000 < s.size) = false := by simp; omega
  clear hno
  go_enter Tryd.func9, Tryd.ntmps9
  go_wp2_with fail
  refine (unhide HWD).mono ?_; rintro e w1 ⟨rfl, rfl⟩
  go_wp2
  go_region
  go_wp2
  go_ret2
  exact ⟨rfl, (Below.refl _ _).drew⟩

theorem shr_some (b W : Nat) (h : 2 ^ W ≤ b) : (b : Int) / 2 ^ W = ((b / 2 ^ W : Nat) : Int) ∧ 0 < b / 2 ^ W := by
  refine ⟨by simp, Nat.div_pos h (Nat.two_pow_pos W)⟩

set_option maxHeartbeats 2000000 in
set_option maxRecDepth 100000 in
theorem pack_bad (W j : Nat) (s : ByteArray) (uT : TypeId) (uV : Value) (w : World) (hW2 : 2 ≤ W) (hW : W ≤ 8) (hs : s.size ≤ 100000) (hj : j < s.size) (hok : ∀ i, (h : i < s.size) → i < j → (s[i]).toNat < 2 ^ W) (hbad : 2 ^ W ≤ (s[j]).toNat) (hE : w.cell? ⟨1, 0, none⟩ = some (.iface uT uV)) :
    Calls Tryd.prog 9 #[.string s, .int .i64 (W : Int)] w fun e w' => ∃ q, e = .returned (.tuple #[.string ⟨#[]⟩, .iface 53 (.pointer (some ⟨q, 0, none⟩))]) ∧ w'.cell? ⟨q, 0, none⟩ = some (.int .i64 (j : Int)) ∧ w'.cell? ⟨q, 1, none⟩ = some (.iface uT uV) ∧ Below w.heap.size w w' := by
  have H1 := hide (wide_yes W w hW2 hW)
  have HOK := hide hok
  have hsl := size_list s
  have g0 : decide ((s.size : Int) > 300000) = false := by simp; omega
  have g0' : decide ((300000 : Int) < (s.size : Int)) = false := g0
  have g0n : decide (300000 < s.size) = false := by simp; omega
  have hW64 : decide ((W : Int) < 64) = true := by simp; omega
  have HBD := hide hbad
  clear hok hbad
  go_enter Tryd.func9, Tryd.ntmps9
  go_wp2_with fail
  refine (unhide H1).mono ?_; rintro e w1 ⟨rfl, rfl⟩
  clear H1
  go_wp2
  go_loopw [19] (fun iv wr => ∃ i : Nat, iv = .int .i64 (i : Int) ∧ i ≤ j ∧ wr = w1) (fun iv _ => s.size - (intOf iv).toNat)
  case atStart => exact ⟨0, rfl, by omega, rfl⟩
  case round =>
    obtain ⟨i, rfl, hi, rfl⟩ := hrel
    have hlt : i < s.size := by omega
    have g1 : decide ((i : Int) < (s.size : Int)) = true := by simp; omega
    have g1n : decide (i < s.size) = true := by simp; omega
    have hii : (i : Int) < (s.size : Int) := by omega
    obtain ⟨n, hn⟩ : ∃ n, n = s[i].toNat := ⟨_, rfl⟩
    have zn : (s[i].toNat : Int) = (n : Int) := by rw [hn]
    have hn256 : n < 256 := by rw [hn]; exact s[i].toNat_lt
    by_cases hij : i < j
    · have hsh : (n : Int) / 2 ^ W = 0 := shr_zero _ _ (by rw [hn]; exact unhide HOK i hlt hij)
      clear hn
      go_wp2
      go_roundw
      case rel => exact ⟨i + 1, by go_num, by omega, trivial⟩
      case measure => simp [intOf]; omega
    · have hije : i = j := by omega
      subst hije
      obtain ⟨hsh, hpos⟩ := shr_some n W (by rw [hn]; exact unhide HBD)
      obtain ⟨y, hy⟩ : ∃ y, y = n / 2 ^ W := ⟨_, rfl⟩
      rw [← hy] at hsh hpos
      have hne : ((y : Int) == 0) = false := by rw [beq_eq_false_iff_ne]; omega
      have hne2 : ((y : Int) != 0) = true := by simp; omega
      have hyl : y < 256 := by rw [hy]; exact Nat.lt_of_le_of_lt (Nat.div_le_self _ _) hn256
      clear hn hy HOK HBD
      go_wp2
      go_region
      go_wp2
      go_ret2
      refine ⟨wr.heap.size, rfl, ?_, ?_, ?_⟩
      · show (World.alloc _ _).cell? _ = _
        simp
      · show (World.alloc _ _).cell? _ = _
        simp
      · exact ((Below.refl wr.heap.size wr).alloc (Nat.le_refl _) _).drew
end Go.Proofs.YtmmilamaahmaoaeDoor
