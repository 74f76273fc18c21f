/- The walk of the statement: any chunks as a file; it is read. -/
import Derived.Test.YtlnglpphlcebdafDoorCl
import Derived.Test.YtlnglpphlcebdafDoorCs
import Derived.Test.YtlnglpphlcebdafDoorCk9
import Derived.Test.YtlnglpphlcebdafDoorFlt2
namespace Go.Proofs.YtlnglpphlcebdafDoor
open Go.RowKit

theorem first_bad {p : Nat → Prop} {i j : Nat} (h1 : ∀ k, k < i → p k) (h2 : ¬ p i) (h3 : ∀ k, k < j → p k) (h4 : ¬ p j) : i = j := by
  rcases Nat.lt_or_ge i j with h | h
  · exact absurd (h3 i h) h2
  · rcases Nat.lt_or_ge j i with h' | h'
    · exact absurd (h1 j h') h4
    · omega

set_option maxHeartbeats 4000000 in
set_option maxRecDepth 100000 in
theorem chunkWrites_any (ao : Option Addr) (len cap : Nat) (c : Nat → ByteArray × ByteArray) (w : World) (a : Nat → Addr) (hS : Sent w a) (hP : IsC w ao len c) (hz : len ≤ maxLen ∧ ∀ i, i < len → (c i).1.size ≤ 140737488355328 ∧ (c i).2.size ≤ 140737488355328) :
    Calls Tryd.prog 5 #[.slice ao len cap] w fun e w' => e = .returned (.bool true) ∧ Below w.heap.size w w' := by
  have HS := hide hS
  have HP := hide hP
  have HX := hide (bareL_any w _ _ (hS.cell 2 (by omega)))
  have HZ := hide hz
  clear hS hP hz
  go_enter Tryd.func5, Tryd.ntmps5
  go_wp2_with fail
  refine (unhide HX).mono ?_; rintro e w1 ⟨rfl, hb1⟩
  have HB1 := hide hb1
  have HP1 := hide ((unhide HP).kept hb1)
  have HS1 := hide ((unhide HS).below hb1)
  have HX := hide (few_any ao len cap c w1 (unhide HP1) (unhide HZ).1)
  clear hb1 HP HS
  go_wp2_with fail
  refine (unhide HX).mono ?_; rintro e w1' ⟨rfl, hw1⟩
  replace hw1 := hw1.symm
  subst hw1
  clear HX
  by_cases hfew : len ≤ 30 ∧ wsum c len ≤ 3000
  rotate_left
  · rw [decide_eq_false hfew]
    go_wp2
    go_ret
    exact ⟨rfl, unhide HB1⟩
  rw [decide_eq_true hfew]
  obtain ⟨h30, hw3⟩ := hfew
  obtain ⟨hws, _⟩ := wsum_is c len (fun i hi => ((unhide HZ).2 i hi).2) len (Nat.le_refl _) h30
  rw [hws] at hw3
  have hds : dsum c len ≤ 3000 := by omega
  have hsm : ∀ i, i ≤ len → (∀ j, j < i → Ck.Kind (c j).1.data.toList) → (Ck.file (chs c i)).length ≤ 300000 := fun i hi hk => by
    rw [file_len c i hk]
    have := dsum_mono c hi
    omega
  have HSM := hide hsm
  have HX := hide (chunksOfL_any ao len cap c w1 (unhide HP1) h30)
  clear hws hw3 hsm
  go_wp2_with fail
  refine (unhide HX).mono ?_; rintro e w2 ⟨a2, c2, rfl, hC2, hb2⟩
  have HB2 := hide ((unhide HB1).trans (hb2.mono (unhide HB1).size))
  have HP2 := hide ((unhide HP1).kept hb2)
  have HS2 := hide ((unhide HS1).below hb2)
  have HX := hide (write_any a2 len c2 c w2 _ _ ((unhide HS2).cell 2 (by omega)) hC2 (by omega) (unhide HSM))
  clear HB1 HP1 HS1 hC2 hb2
  go_wp2_with fail
  refine (unhide HX).mono ?_; rintro e w3 ⟨hans, hb3⟩
  have HB3 := hide ((unhide HB2).trans (hb3.mono (unhide HB2).size))
  have HP3 := hide ((unhide HP2).kept hb3)
  have HS3 := hide ((unhide HS2).below hb3)
  have HX := hide (fileOf_any ao len cap c w3 (unhide HP3) (by omega) (unhide HSM))
  clear HB2 HP2 HS2 hb3
  rcases hans with ⟨hk, rfl⟩ | ⟨i, q, hil, hah, hbad, rfl, q0, q1, _⟩
  · have HK := hide hk
    have hfl : (Ck.file (chs c len)).length ≤ 300000 := unhide HSM len (Nat.le_refl _) hk
    clear hk
    go_wp2_with fail
    refine (unhide HX).mono ?_; rintro e w4 ⟨hans, hb4⟩
    rcases hans with ⟨_, rfl⟩ | ⟨j, hj, _, hb, _⟩
    rotate_left
    · exact absurd (unhide HK j hj) hb
    have hbf : Below w4.heap.size w4 (w4.alloc (.cells #[.int .i64 0, .int .i64 (-1)] 35)) := (Below.refl _ _).alloc (Nat.le_refl _) _
    have hb5 := hb4.trans (hbf.mono hb4.size)
    have HB5 := hide ((unhide HB3).trans (hb5.mono (unhide HB3).size))
    have HP5 := hide ((unhide HP3).kept hb5)
    have HS5 := hide ((unhide HS3).below hb5)
    have hf0 : (w4.alloc (.cells #[.int .i64 0, .int .i64 (-1)] 35)).cell? ⟨w4.heap.size, 0, none⟩ = some (.int .i64 0) := by simp [go_sem]
    clear HX hb4 hbf hb5 HB3 HP3 HS3
    obtain ⟨f, hf⟩ : ∃ f : ByteArray, f = ⟨(Ck.file (chs c len)).toArray⟩ := ⟨_, rfl⟩
    have hfL : f.data.toList = Ck.file (chs c len) := by rw [hf]
    have hfz : f.size ≤ 300000 := by
      have : f.data.toList.length = f.size := Array.length_toList
      rw [← this, hfL]; exact hfl
    rw [← hf]
    have htake : f.data.toList.take 8 = Ck.sig := by rw [hfL]; rfl
    have hrd : Ck.Rd f.data.toList 8 [] (.fine (chs c len)) := by
      rw [hfL]
      refine Ck.rd_file _ (fun x hx => ⟨chs_kind c len (unhide HK) x hx, ?_⟩)
      obtain ⟨i, hi, rfl⟩ := List.mem_map.1 hx
      have h1 := dsum_mono c (show i + 1 ≤ len from List.mem_range.1 hi)
      have h2 : dsum c (i + 1) = dsum c i + (c i).2.size := rfl
      have h3 : (c i).2.data.toList.length = (c i).2.size := Array.length_toList
      show (c i).2.data.toList.length < _
      omega
    have HTK := hide htake
    have HRD := hide hrd
    have HX := hide (read_any f _ _ _ _ _ ((unhide HS5).cell 0 (by omega)) ((unhide HS5).cell 3 (by omega)) hfz)
    clear hf hfL htake hrd HS5
    go_wp2_with fail
    refine (unhide HX).mono ?_
    generalize w4.alloc (.cells #[.int .i64 0, .int .i64 (-1)] 35) = w5 at *
    rintro e w6 ⟨hr, hb6⟩
    rcases hr with ⟨hno, _⟩ | ⟨_, r, hr, hans⟩
    · exact absurd (unhide HTK) hno
    obtain rfl := hr.unique (unhide HRD)
    obtain ⟨aL, cL, rfl, hrow⟩ := hans
    have HB6 := hide ((unhide HB5).trans (hb6.mono (unhide HB5).size))
    have HP6 := hide ((unhide HP5).kept hb6)
    have hcl := chs_length c len
    have hC6 : IsC w6 aL len c := by
      have h2 := row_chunks hrow (by omega) (fun j hj => by
        rw [hcl] at hj
        rw [nth_chs c len j hj]
        have := (unhide HZ).2 j hj
        unfold maxLen
        omega)
      rw [hcl] at h2
      exact h2.congr (fun j hj => nth_chs c len j hj)
    rw [hcl]
    have HX := hide (sameChunks_any aL ao len cL cap c w6 hC6 (unhide HP6) (by omega))
    clear hr hrow hb6 hC6 HB5 HP5 hcl
    go_wp2_with fail
    refine (unhide HX).mono ?_; rintro e w7 ⟨rfl, nn, rfl⟩
    have HB7 : Hid (Below w.heap.size w (w6.drewN nn)) := (unhide HB6).trans ⟨rfl, rfl, rfl, Nat.le_refl _, fun _ _ => rfl⟩
    clear HX HB6
    go_wp2
    go_ret
    exact ⟨rfl, unhide HB7⟩
  · have HAH := hide hah
    have HBD := hide hbad
    have Q0 := hide q0
    have Q1 := hide q1
    have hq3 := World.block_lt_of_cell? _ _ q0
    simp only at hq3
    clear hah hbad q0 q1
    go_wp2_with fail
    refine (unhide HX).mono ?_; rintro e w4 ⟨hans, hb4⟩
    rcases hans with ⟨hk, _⟩ | ⟨j, hj, hjh, hjb, rfl⟩
    · exact absurd (hk i hil) (unhide HBD)
    obtain rfl := first_bad (unhide HAH) (unhide HBD) hjh hjb
    have hbf : Below w4.heap.size w4 (w4.alloc (.cells #[.int .i64 3, .int .i64 (i : Int)] 35)) := (Below.refl _ _).alloc (Nat.le_refl _) _
    have hb5 := hb4.trans (hbf.mono hb4.size)
    have HB5 := hide ((unhide HB3).trans (hb5.mono (unhide HB3).size))
    have HS5 := (unhide HS3).below hb5
    have HX := hide (faulted2_at q i 2 _ a HS5 (by omega) ((hb5.cell (p := ⟨q, 0, none⟩) hq3).trans (unhide Q0)) ((hb5.cell (p := ⟨q, 1, none⟩) hq3).trans (unhide Q1)))
    clear hb4 hbf hb5 HB3 HP3 HS3 HS5 hjh hjb Q0 Q1
    go_wp2_with fail
    refine (unhide HX).mono ?_; rintro e w6 ⟨rfl, hb6⟩
    have HB6 := hide ((unhide HB5).trans (hb6.mono (unhide HB5).size))
    clear HX hb6 HB5
    go_wp2
    go_ret
    exact ⟨rfl, unhide HB6⟩
end Go.Proofs.YtlnglpphlcebdafDoor
