/- The statement on stored blocks: the walk. -/
import Derived.Test.YtbbcfghlhgaofadDoorMg13
import Derived.Test.YtbbcfghlhgaofadDoorMg14
import Derived.Test.YtbbcfghlhgaofadDoorIn13
import Derived.Test.YtbbcfghlhgaofadDoorMg15
namespace Go.Proofs.YtbbcfghlhgaofadDoor
open Go.RowKit Pm Cn Cd Nf Ps

/-- A text, so many times. -/
def rep (s : ByteArray) : Nat → ByteArray
  | 0 => ⟨#[]⟩
  | k + 1 => rep s k ++ s
theorem rep_size (s : ByteArray) (k : Nat) : (rep s k).size = k * s.size := by
  induction k with
  | zero => rw [Nat.zero_mul]; rfl
  | succ k ih => rw [rep, ByteArray.size_append, ih, Nat.succ_mul]
theorem rep_le (s : ByteArray) (k m : Nat) (h : k ≤ 400) (hs : s.size ≤ 500) (hm : m = (rep s k).size) : m ≤ 200000 := by
  rw [hm, rep_size]
  exact Nat.mul_le_mul h hs

theorem inflS_stored (t : ByteArray) (h : t.size ≤ 200000) : inflS (textP (storP t.data.toList (fu t.size))) (t.size : Int) = some (.ok (len (storP t.data.toList (fu t.size))) t.data.toList) ∧ (len (storP t.data.toList (fu t.size)) + 7) / 8 = (textP (storP t.data.toList (fu t.size))).size := by
  have hf := fu_ok t.size (by omega)
  have hsz := textP_size (storP t.data.toList (fu t.size))
  refine ⟨?_, hsz.symm⟩
  have hlen : len (storP t.data.toList (fu t.size)) ≤ 8 * t.size + 40 * fu t.size := by
    have key : ∀ f (l : List UInt8), len (storP l f) ≤ 8 * l.length + 40 * f := by
      intro f
      induction f with
      | zero => intro l; exact Nat.zero_le _
      | succ f ih =>
        intro l
        unfold storP
        split
        · next h =>
          have := ih (l.drop 65535)
          rw [len_append, stoP_len, List.length_take]
          rw [List.length_drop] at this
          omega
        · rw [stoP_len]; omega
    have := key (fu t.size) t.data.toList
    rwa [list_size] at this
  unfold inflS
  rw [if_pos ⟨by omega, by omega, by omega⟩]
  have hat := at_text (storP_fit (fu t.size) t.data.toList) ⟨#[]⟩
  have he : textP (storP t.data.toList (fu t.size)) ++ (⟨#[]⟩ : ByteArray) = textP (storP t.data.toList (fu t.size)) := by
    apply text_ext
    rw [ByteArray.data_append]
    simp
  rw [he] at hat
  exact infl_stored (by rw [list_size]; exact hf.1) hf.2.1 (by rw [list_size]; simp) hat

set_option maxHeartbeats 2000000 in
set_option maxRecDepth 100000 in
theorem deflateStored_any (s : ByteArray) (times : Int) (w : World) (a : Nat → Addr) (_hS : Told w [0, 1, 2] a) (hG : GlS w a) (hn : 12 ≤ w.heap.size) (_hs : s.size ≤ maxLen) :
    Calls Tryd.prog 5 #[.string s, .int .i64 times] w fun e w' => e = .returned (.bool true) ∧ Below w.heap.size w w' := by
  have HL := hide (blank_any w)
  have HG := hide hG
  clear hG
  by_cases h0 : s.size ≤ 500
  rotate_left
  · have d0 : decide ((s.size : Int) > 500) = true := by simp; omega
    have d0' : decide ((500 : Int) < (s.size : Int)) = true := d0
    have d0n : decide (500 < s.size) = true := by simp; omega
    go_enter Tryd.func5, Tryd.ntmps5
    go_wp2_with fail
    refine (unhide HL).mono ?_; rintro e w1 ⟨rfl, hb1⟩
    go_wp2
    go_ret
    exact ⟨rfl, hb1⟩
  have d0 : decide ((s.size : Int) > 500) = false := by simp; omega
  have d0' : decide ((500 : Int) < (s.size : Int)) = false := d0
  have d0n : decide (500 < s.size) = false := by simp; omega
  by_cases h1 : times < 1
  · have d1 : decide (times < 1) = true := decide_eq_true h1
    go_enter Tryd.func5, Tryd.ntmps5
    go_wp2_with fail
    refine (unhide HL).mono ?_; rintro e w1 ⟨rfl, hb1⟩
    go_wp2
    go_ret
    exact ⟨rfl, hb1⟩
  have d1 : decide (times < 1) = false := decide_eq_false h1
  by_cases h2 : times > 400
  · have d2 : decide (times > 400) = true := decide_eq_true h2
    have d2' : decide ((400 : Int) < times) = true := d2
    go_enter Tryd.func5, Tryd.ntmps5
    go_wp2_with fail
    refine (unhide HL).mono ?_; rintro e w1 ⟨rfl, hb1⟩
    go_wp2
    go_ret
    exact ⟨rfl, hb1⟩
  have d2 : decide (times > 400) = false := decide_eq_false h2
  have d2' : decide ((400 : Int) < times) = false := d2
  obtain ⟨n, rfl⟩ := Int.eq_ofNat_of_zero_le (show (0 : Int) ≤ times by omega)
  have hn4 : n ≤ 400 := by omega
  clear h1 h2
  go_enter Tryd.func5, Tryd.ntmps5
  go_wp2_with fail
  refine (unhide HL).mono ?_; rintro e w1 ⟨rfl, hb1⟩
  clear HL
  go_wp2
  go_loop [6, 7] (fun t i => ∃ k : Nat, k ≤ n ∧ i = .int .i64 (k : Int) ∧ t = .string (rep s k)) (fun _ i => n - (intOf i).toNat)
  case atStart => exact ⟨0, by omega, rfl, rfl⟩
  case round =>
    obtain ⟨k, hk, rfl, rfl⟩ := hrel
    obtain ⟨tt, htt⟩ : ∃ tt, tt = rep s k := ⟨_, rfl⟩
    have hts := rep_le s k tt.size (by omega) h0 (by rw [htt])
    by_cases hlt : k < n
    · have g1 : decide ((k : Int) < (n : Int)) = true := by simp; omega
      have hsum : ¬ (9223372036854775807 < tt.size + s.size) := by omega
      have HN : Hid (rep s (k + 1) = tt ++ s) := by show _ = _; rw [htt]; rfl
      rw [← htt]
      clear htt
      go_wp2
      go_round
      case rel => exact ⟨k + 1, by omega, by go_num, by rw [unhide HN]⟩
      case measure => simp [intOf]; omega
    · have : k = n := by omega
      subst this
      have g1 : decide ((k : Int) < (k : Int)) = false := by simp
      rw [← htt]
      have hn1 : 12 ≤ w1.heap.size := Nat.le_trans hn hb1.size
      have HG1 := hide ((unhide HG).below hb1 hn)
      have HST := hide (storedS_any tt w1 (by omega))
      obtain ⟨hI1, hI2⟩ := inflS_stored tt hts
      have HTX := hide (textP_sto tt.data.toList (fu tt.size))
      obtain ⟨u, hu⟩ : ∃ u, u = textP (storP tt.data.toList (fu tt.size)) := ⟨_, rfl⟩
      obtain ⟨c, hc⟩ : ∃ c, c = len (storP tt.data.toList (fu tt.size)) := ⟨_, rfl⟩
      rw [← hu] at HST hI1 hI2 HTX
      rw [← hc] at hI1 hI2
      have HI1 := hide hI1
      have HI2 := hide hI2
      have hfu := fu_ok tt.size (by omega)
      have HSO : Hid (∀ w', Calls Tryd.prog 14 #[.string tt] w' fun e w'' => e = .returned (.string u) ∧ Below w'.heap.size w' w'') := fun w' => by
        have := storedOf_any tt (fu tt.size) w' (by omega) hfu.1 hfu.2.1 hfu.2.2
        rw [← unhide HTX] at this
        exact this
      clear htt hu hc hI1 hI2 HG HTX hfu
      go_wp2_with fail
      refine (unhide HST).mono ?_; rintro e w2 ⟨rfl, hb2⟩
      have hb2w := hb1.trans (hb2.mono hb1.size)
      have HG2 := hide ((unhide HG1).below hb2 hn1)
      have hn2 : 12 ≤ w2.heap.size := Nat.le_trans hn1 hb2.size
      clear HST HG1 hb1 hb2 hn1
      go_wp2_with fail
      refine (unhide HSO w2).mono ?_; rintro e w3 ⟨rfl, hb3⟩
      have hb3w := hb2w.trans (hb3.mono hb2w.size)
      have hn3 : 12 ≤ w3.heap.size := Nat.le_trans hn2 hb3.size
      have HIN := hide (inflate_any u (tt.size : Int) w3 ((unhide HG2).below hb3 hn2) hn3)
      clear HSO HG2 hb2w hb3 hn2 hn3
      go_wp2_with fail
      refine (unhide HIN).mono ?_; rintro e w4 ⟨r, hr, rfl, hb4⟩
      obtain rfl := Option.some.inj ((unhide HI1).symm.trans hr)
      have hb4w := hb3w.trans (hb4.mono hb3w.size)
      have hval : inflV 169 (.pointer (some (a 0))) (.pointer (some (a 1))) (.ok c tt.data.toList) = .tuple #[.string tt, .int .i64 (u.size : Nat), .nilIface] := by
        show Value.tuple #[.string ⟨tt.data.toList.toArray⟩, .int .i64 (((c + 7) / 8 : Nat) : Int), .nilIface] = _
        rw [unhide HI2]
      rw [hval]
      clear HIN hr hval HI1 HI2 hb3w hb4
      go_wp2
      go_ret
      exact ⟨rfl, hb4w⟩
end Go.Proofs.YtbbcfghlhgaofadDoor
