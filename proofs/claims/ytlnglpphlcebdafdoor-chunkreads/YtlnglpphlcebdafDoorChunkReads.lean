/- The walk of the statement: chunks of any bytes; what is read is written as it was. -/
import Derived.Test.YtlnglpphlcebdafDoorCb
import Derived.Test.YtlnglpphlcebdafDoorCf
import Derived.Test.YtlnglpphlcebdafDoorCl
import Derived.Test.YtlnglpphlcebdafDoorCs
import Derived.Test.YtlnglpphlcebdafDoorFlt2
namespace Go.Proofs.YtlnglpphlcebdafDoor
open Go.RowKit

set_option maxHeartbeats 4000000 in
set_option maxRecDepth 100000 in
theorem chunkReads_any (s : ByteArray) (w : World) (a : Nat → Addr) (hS : Sent w a) (_hs : s.size ≤ maxLen) :
    Calls Tryd.prog 6 #[.string s] w fun e w' => e = .returned (.bool true) ∧ Below w.heap.size w w' := by
  have HS := hide hS
  have HX := hide (bareL_any w _ _ (hS.cell 2 (by omega)))
  clear hS
  by_cases hbig : 5000 < s.size
  · have d2 : decide ((s.size : Int) > 5000) = true := decide_eq_true (by omega)
    have d2' : decide ((5000 : Int) < (s.size : Int)) = true := d2
    have d2n : decide (5000 < s.size) = true := decide_eq_true hbig
    go_enter Tryd.func6, Tryd.ntmps6
    go_wp2_with fail
    refine (unhide HX).mono ?_; rintro e w1 ⟨rfl, hb1⟩
    clear HX
    go_wp2
    go_ret
    exact ⟨rfl, hb1⟩
  have d2 : decide ((s.size : Int) > 5000) = false := decide_eq_false (by omega)
  have d2' : decide ((5000 : Int) < (s.size : Int)) = false := d2
  have d2n : decide (5000 < s.size) = false := decide_eq_false hbig
  have hz : s.data.toList.length = s.size := Array.length_toList
  go_enter Tryd.func6, Tryd.ntmps6
  go_wp2_with fail
  refine (unhide HX).mono ?_; rintro e w1 ⟨rfl, hb1⟩
  have HB1 := hide hb1
  have HS1 := hide ((unhide HS).below hb1)
  have HX := hide (read_any s _ _ _ _ w1 ((unhide HS1).cell 0 (by omega)) ((unhide HS1).cell 3 (by omega)) (by omega))
  clear hb1 HS
  go_wp2_with fail
  refine (unhide HX).mono ?_; rintro e w2 ⟨hr2, hb2⟩
  have HB2 := hide ((unhide HB1).trans (hb2.mono (unhide HB1).size))
  have HS2 := hide ((unhide HS1).below hb2)
  have HX := hide (refChunks_any s w2 (by omega))
  clear hb2 HS1 HB1
  -- a fault, at a place
  have hfault : ∀ (c i q : Nat) (w3 : World), c < 9 → w2.cell? ⟨q, 0, none⟩ = some (.int .i64 (i : Int)) → w2.cell? ⟨q, 1, none⟩ = some (sentV a c) → Below w2.heap.size w2 w3 →
      Calls Tryd.prog 22 #[.iface 61 (.pointer (some ⟨q, 0, none⟩)), .agg #[.int .i64 ((c : Int) + 1), .int .i64 (i : Int)]] w3 fun e w' => e = .returned (.bool true) ∧ Below w3.heap.size w3 w' := fun c i q w3 hc q0 q1 hb => by
    have hq3 := World.block_lt_of_cell? _ _ q0
    simp only at hq3
    exact faulted2_at q i c w3 a ((unhide HS2).below hb) hc ((hb.cell (p := ⟨q, 0, none⟩) hq3).trans q0) ((hb.cell (p := ⟨q, 1, none⟩) hq3).trans q1)
  have HFA := hide hfault
  clear hfault
  rcases hr2 with ⟨hno, q, rfl, q0, q1, _⟩ | ⟨hyes, r, hr, hans⟩
  · have HNO := hide hno
    have Q0 := hide q0
    have Q1 := hide q1
    clear hno q0 q1
    go_wp2_with fail
    refine (unhide HX).mono ?_; rintro e w3 ⟨hr3, hb3⟩
    rcases hr3 with ⟨_, rfl⟩ | ⟨hy, _⟩
    rotate_left
    · exact absurd hy (unhide HNO)
    have hbf : Below w2.heap.size w2 (w3.alloc (.cells #[.int .i64 1, .int .i64 0] 35)) := hb3.alloc hb3.size _
    have HB4 := hide ((unhide HB2).trans (hbf.mono (unhide HB2).size))
    have HY := hide (unhide HFA 0 0 q _ (by omega) (unhide Q0) (unhide Q1) hbf)
    clear HX hb3 hbf HB2 HFA Q0 Q1
    go_wp2_with fail
    refine (unhide HY).mono ?_; rintro e w6 ⟨rfl, hb6⟩
    have HB6 := hide ((unhide HB4).trans (hb6.mono (unhide HB4).size))
    clear HY hb6 HB4
    go_wp2
    go_ret
    exact ⟨rfl, unhide HB6⟩
  · have HYS := hide hyes
    have HR := hide hr
    cases r with
    | bad c b =>
      obtain ⟨q, rfl, q0, q1, _⟩ := hans
      have hc := hr.code rfl
      have hq1 : w2.cell? ⟨q, 1, none⟩ = some (sentV a c) := by
        rcases hc with rfl | rfl
        · exact q1
        · exact q1
      have Q0 := hide q0
      have Q1 := hide hq1
      have hc9 : c < 9 := by omega
      have g1 : decide ((c : Int) + 1 > 0) = true := decide_eq_true (by omega)
      have g1' : decide ((0 : Int) < (c : Int) + 1) = true := g1
      clear hyes hr q0 q1 hq1
      go_wp2_with fail
      refine (unhide HX).mono ?_; rintro e w3 ⟨hr3, hb3⟩
      rcases hr3 with ⟨hn, _⟩ | ⟨_, r3, hr3, hans⟩
      · exact absurd (unhide HYS) hn
      obtain rfl := hr3.unique (unhide HR)
      rcases hans with ⟨c', b', e1, rfl⟩ | ⟨cs, aL, cL, e1, _⟩
      rotate_left
      · cases e1
      injection e1 with e1 e2
      subst e1
      subst e2
      have hbf : Below w2.heap.size w2 (w3.alloc (.cells #[.int .i64 ((c : Int) + 1), .int .i64 (b : Int)] 35)) := hb3.alloc hb3.size _
      have HB4 := hide ((unhide HB2).trans (hbf.mono (unhide HB2).size))
      have HY := hide (unhide HFA c b q _ hc9 (unhide Q0) (unhide Q1) hbf)
      clear HX hb3 hbf HB2 HFA Q0 Q1 hr3 hc
      go_wp2_with fail
      refine (unhide HY).mono ?_; rintro e w6 ⟨rfl, hb6⟩
      have HB6 := hide ((unhide HB4).trans (hb6.mono (unhide HB4).size))
      clear HY hb6 HB4
      go_wp2
      go_ret
      exact ⟨rfl, unhide HB6⟩
    | fine cs =>
      obtain ⟨aL, cL, rfl, hrow⟩ := hans
      obtain ⟨hfile, hkind⟩ := hr.file rfl (by rw [hyes]; rfl) (fun c hc => by cases hc)
      have hfl : (Ck.file cs).length = s.size := by rw [hfile, hz]
      have hnz : cs.length ≤ 5000 := by
        have h1 := file_len (nth cs) cs.length (fun j hj => nth_kind cs hkind j hj)
        rw [chs_nth, hfl] at h1
        omega
      have hbd : ∀ i, i < cs.length → (nth cs i).1.size ≤ maxLen ∧ (nth cs i).2.size ≤ maxLen := fun i hi => by
        have := file_has cs i hi
        unfold maxLen
        omega
      have hC2 := row_chunks hrow (by omega) hbd
      have HROW := hide hC2
      have HKD : Hid (∀ j, j < cs.length → Ck.Kind (nth cs j).1.data.toList) := fun j hj => nth_kind cs hkind j hj
      have HBD := hide hbd
      have HSM : Hid (∀ i, i ≤ cs.length → (∀ j, j < i → Ck.Kind (nth cs j).1.data.toList) → (Ck.file (chs (nth cs) i)).length ≤ 300000) := fun i hi _ => by
        rw [chs_take cs i hi]
        have := file_take cs i
        omega
      have hfs : (⟨(Ck.file (chs (nth cs) cs.length)).toArray⟩ : ByteArray) = s := by
        rw [chs_nth, hfile]
      have HFS := hide hfs
      clear hyes hr hrow hfile hkind hfl hbd hC2 hfs
      go_wp2_with fail
      refine (unhide HX).mono ?_; rintro e w3 ⟨hr3, hb3⟩
      rcases hr3 with ⟨hn, _⟩ | ⟨_, r3, hr3, hans⟩
      · exact absurd (unhide HYS) hn
      obtain rfl := hr3.unique (unhide HR)
      rcases hans with ⟨c', b', e1, _⟩ | ⟨cs', aR, cR, e1, rfl, hrowR⟩
      · cases e1
      injection e1 with e1
      subst e1
      have hCR := row_chunks hrowR (by omega) (unhide HBD)
      have hba : Below w3.heap.size w3 (w3.alloc (.cells #[.int .i64 0, .int .i64 (-1)] 35)) := (Below.refl _ _).alloc (Nat.le_refl _) _
      have hbf : Below w2.heap.size w2 (w3.alloc (.cells #[.int .i64 0, .int .i64 (-1)] 35)) := hb3.alloc hb3.size _
      have HB4 := hide ((unhide HB2).trans (hbf.mono (unhide HB2).size))
      have HS4 := hide ((unhide HS2).below hbf)
      have HP4 := hide ((unhide HROW).kept hbf)
      have HX := hide (sameChunks_any aL aR cs.length cL cR (nth cs) _ (unhide HP4) (hCR.kept hba) (by omega))
      clear hb3 hba hbf HB2 HFA hr3 hrowR hCR HROW
      generalize hlen : cs.length = n at *
      go_wp2_with fail
      refine (unhide HX).mono ?_
      generalize w3.alloc (.cells #[.int .i64 0, .int .i64 (-1)] 35) = w4 at *
      rintro e w5 ⟨rfl, nn, rfl⟩
      have hbd5 : Below w4.heap.size w4 (w4.drewN nn) := ⟨rfl, rfl, rfl, Nat.le_refl _, fun _ _ => rfl⟩
      have HB5 := hide ((unhide HB4).trans (hbd5.mono (unhide HB4).size))
      have HS5 := (unhide HS4).below hbd5
      have HX := hide (write_any aL n cL (nth cs) _ _ _ (HS5.cell 2 (by omega)) ((unhide HP4).kept hbd5) (by omega) (unhide HSM))
      clear hbd5 HS5 HS4 HP4 HB4
      generalize w4.drewN nn = w5 at *
      go_wp2_with fail
      refine (unhide HX).mono ?_; rintro e w6 ⟨hans, hb6⟩
      rcases hans with ⟨_, rfl⟩ | ⟨i, q, hil, _, hbad, _⟩
      rotate_left
      · exact absurd (unhide HKD i hil) hbad
      rw [unhide HFS]
      have HB6 := hide ((unhide HB5).trans (hb6.mono (unhide HB5).size))
      clear HX hb6 HB5
      go_wp2
      go_ret
      exact ⟨rfl, unhide HB6⟩
end Go.Proofs.YtlnglpphlcebdafDoor
