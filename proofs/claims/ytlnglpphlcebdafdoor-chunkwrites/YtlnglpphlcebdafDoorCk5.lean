/- Walk: chunk.Write. -/
import Derived.Test.YtlnglpphlcebdafDoorCk4
import Derived.Lib.SlBytesConst
namespace Go.Proofs.YtlnglpphlcebdafDoor
open Go.RowKit

/-- What Write answers of a chunk that is none. -/
def WBad (w' : World) (B len : Nat) (c : Nat → ByteArray × ByteArray) (eS : Value) (e : Ending) : Prop :=
  ∃ i q, i < len ∧ (∀ j, j < i → Ck.Kind (c j).1.data.toList) ∧ ¬ Ck.Kind (c i).1.data.toList ∧ e = .returned (.tuple #[.string ⟨#[]⟩, .iface 61 (.pointer (some ⟨q, 0, none⟩))]) ∧ w'.cell? ⟨q, 0, none⟩ = some (.int .i64 (i : Int)) ∧ w'.cell? ⟨q, 1, none⟩ = some eS ∧ B ≤ q

set_option maxHeartbeats 4000000 in
set_option maxRecDepth 100000 in
theorem write_any (ao : Option Addr) (len cap : Nat) (c : Nat → ByteArray × ByteArray) (w : World) (uT : TypeId) (uV : Value) (hS : w.cell? ⟨1, 0, none⟩ = some (.iface uT uV)) (hP : IsC w ao len c) (hlen : len ≤ 100000)
    (hsm : ∀ i, i ≤ len → (∀ j, j < i → Ck.Kind (c j).1.data.toList) → (Ck.file (chs c i)).length ≤ 300000) :
    Calls Tryd.prog 19 #[.slice ao len cap] w fun e w' =>
      (((∀ j, j < len → Ck.Kind (c j).1.data.toList) ∧ e = .returned (.tuple #[.string ⟨(Ck.file (chs c len)).toArray⟩, .nilIface])) ∨ WBad w' w.heap.size len c (.iface uT uV) e) ∧ Below w.heap.size w w' := by
  have hmf : ∀ (fn : Fn) (first cap : Array Value) (w : World), (Instr.makeFunc fn first cap).run Tryd.prog w = .ok (.func fn first cap) w := fun _ _ _ _ => rfl
  have hcid := Lib.run_convert_bytes_const (P := Tryd.prog) w 52 5 #[.int .u8 137, .int .u8 80, .int .u8 78, .int .u8 71, .int .u8 13, .int .u8 10, .int .u8 26, .int .u8 10] 8 8 Tryd.underlying52 Tryd.underlying5
  obtain ⟨B, hB⟩ : ∃ B, B = w.heap.size := ⟨_, rfl⟩
  have HB0 : Hid (Below B w (w.alloc (.cells #[.int .u8 137, .int .u8 80, .int .u8 78, .int .u8 71, .int .u8 13, .int .u8 10, .int .u8 26, .int .u8 10] 5 (8, 9)))) := by rw [hB]; exact (Below.refl _ _).alloc (Nat.le_refl _) _
  have HO0 : Hid (OwnM (w.alloc (.cells #[.int .u8 137, .int .u8 80, .int .u8 78, .int .u8 71, .int .u8 13, .int .u8 10, .int .u8 26, .int .u8 10] 5 (8, 9))) B (.slice (some ⟨w.heap.size, 0, none⟩) 8 8) (Ck.file (chs c 0))) := by
    have h2 := heap_alloc_new w (.cells #[.int .u8 137, .int .u8 80, .int .u8 78, .int .u8 71, .int .u8 13, .int .u8 10, .int .u8 26, .int .u8 10] 5 (8, 9))
    refine ⟨⟨w.heap.size, 8, rfl, by omega, by simp, Nat.le_refl _, by unfold maxLen; omega, fun j hj => ⟨?_, ?_⟩, fun j hj => ?_⟩⟩
    · simp only [World.cell?, h2]
      simp only [Array.getElem?_eq_getElem (show j < (#[.int .u8 137, .int .u8 80, .int .u8 78, .int .u8 71, .int .u8 13, .int .u8 10, .int .u8 26, .int .u8 10] : Array Value).size from hj)]
      rfl
    · simp only [World.frozen?, h2]
      simp
      omega
    · simp only [World.cell?, h2]
      have hj8 : j < 8 := hj
      rcases (show j = 0 ∨ j = 1 ∨ j = 2 ∨ j = 3 ∨ j = 4 ∨ j = 5 ∨ j = 6 ∨ j = 7 by omega) with rfl | rfl | rfl | rfl | rfl | rfl | rfl | rfl <;> rfl
  have hsl : 1 < B := by rw [hB]; exact World.block_lt_of_cell? _ _ hS
  have HPL : Hid (∀ x, ao = some x → 0 < len → x.block < B) := fun x hx h0 => by rw [hB]; exact hP.lt x hx h0
  have HS := hide hS
  have HP := hide hP
  have HSM := hide hsm
  have HBe := hide hB
  rw [← hB]
  clear hS hP hsm hB
  go_enter Tryd.func19, Tryd.ntmps19
  go_wp2
  generalize w.alloc (.cells #[.int .u8 137, .int .u8 80, .int .u8 78, .int .u8 71, .int .u8 13, .int .u8 10, .int .u8 26, .int .u8 10] 5 (8, 9)) = w0 at *
  go_loopw [4, 12] (fun tv iv wr => ∃ (i al ac : Nat) (aa : Option Addr), i ≤ len ∧ iv = .int .i64 (i : Int) ∧ tv = .slice aa al ac ∧ Hid (al = (Ck.file (chs c i)).length) ∧ Hid (∀ j, j < i → Ck.Kind (c j).1.data.toList) ∧ Hid (OwnM wr B (.slice aa al ac) (Ck.file (chs c i))) ∧ Hid (Below B w wr) ∧ B ≤ wr.heap.size) (fun _ iv _ => len - (intOf iv).toNat)
  case atStart => exact ⟨0, 8, 8, _, Nat.zero_le _, rfl, rfl, rfl, (fun j hj => by omega), HO0, HB0, by have := (unhide HB0).size; have := unhide HBe; omega⟩
  case round =>
    clear HO0 HB0
    obtain ⟨i, al, ac, aa, hi, rfl, rfl, Hal, HK, HO, HB, hBw⟩ := hrel
    by_cases hlt : i < len
    · have d1 : decide ((i : Int) < (len : Int)) = true := decide_eq_true (by omega)
      have d1n : decide (i < len) = true := decide_eq_true hlt
      have hii : (i : Int) < (len : Int) := by omega
      rcases (unhide HP).below (unhide HB) (unhide HPL) with h0 | ⟨bb, off, rfl, hml, hcell⟩
      · omega
      obtain ⟨c0, c1, c2, c3⟩ := hcell i hlt
      obtain ⟨k, hk⟩ : ∃ k, k = (c i).1 := ⟨_, rfl⟩
      obtain ⟨d, hd⟩ : ∃ d, d = (c i).2 := ⟨_, rfl⟩
      rw [← hk] at c0 c2
      rw [← hd] at c1 c3
      have Hk := hide hk
      have Hd := hide hd
      have hS2 := ((unhide HB).cell (p := ⟨1, 0, none⟩) hsl).trans (unhide HS)
      clear hcell hk hd hml
      have HX := hide (isKind_any k)
      have f0 : ((wr.alloc (.cells #[.int .i64 (i : Int)] 3)).alloc (.cells #[.string k, .string d] 70)).cell? ⟨wr.heap.size, 0, none⟩ = some (.int .i64 (i : Int)) := by simp [go_sem]
      have f1 : ((wr.alloc (.cells #[.int .i64 (i : Int)] 3)).alloc (.cells #[.string k, .string d] 70)).cell? ⟨wr.heap.size + 1, 0, none⟩ = some (.string k) := by simp [go_sem]
      have f2 : ((wr.alloc (.cells #[.int .i64 (i : Int)] 3)).alloc (.cells #[.string k, .string d] 70)).cell? ⟨wr.heap.size + 1, 1, none⟩ = some (.string d) := by simp [go_sem]
      have hba : Below wr.heap.size wr ((wr.alloc (.cells #[.int .i64 (i : Int)] 3)).alloc (.cells #[.string k, .string d] 70)) := ((Below.refl _ _).alloc (Nat.le_refl _) _).alloc (by simp) _
      have HO1 := hide ((unhide HO).below hba)
      have HB1 := hide ((unhide HB).trans (hba.mono hBw))
      have hB1 : B ≤ ((wr.alloc (.cells #[.int .i64 (i : Int)] 3)).alloc (.cells #[.string k, .string d] 70)).heap.size := Nat.le_trans hBw hba.size
      have hS3 := (hba.cell (p := ⟨1, 0, none⟩) (Nat.lt_of_lt_of_le hsl hBw)).trans hS2
      have F0 := hide f0
      have F1 := hide f1
      have F2 := hide f2
      have HS3 := hide hS3
      clear f0 f1 f2 hba hS2 hS3
      go_wp2_with fail
      refine (unhide HX _).mono ?_; rintro e wx ⟨rfl, rfl⟩
      clear HX c0 c1 HO HB
      generalize ((wr.alloc (.cells #[.int .i64 (i : Int)] 3)).alloc (.cells #[.string k, .string d] 70)) = w1 at *
      generalize wr.heap.size = gp at *
      have f0 := unhide F0
      have f1 := unhide F1
      have f2 := unhide F2
      have hS3 := unhide HS3
      by_cases hkd : Ck.Kind k.data.toList
      · rw [decide_eq_true hkd]
        have hks : k.size = 4 := ((kind_iff k).1 hkd).1
        have HK2 : Hid (∀ j, j < i + 1 → Ck.Kind (c j).1.data.toList) := fun j hj => by
          by_cases e : j = i
          · subst e; rw [← unhide Hk]; exact hkd
          · exact unhide HK j (by omega)
        have hfile := file_chs c i
        rw [← unhide Hk, ← unhide Hd] at hfile
        have hlen2 : al + 12 + d.size ≤ 300000 := by
          have h1 := unhide HSM (i + 1) (by omega) (unhide HK2)
          rw [hfile, List.length_append, Ck.one_length, ← unhide Hal, show k.data.toList.length = k.size from Array.length_toList, show d.data.toList.length = d.size from Array.length_toList] at h1
          omega
        obtain ⟨room, hroom⟩ : ∃ r, r = 300000 - al - 12 := ⟨_, rfl⟩
        have z1 : (300000 : Int) - (al : Int) - 12 = (room : Int) := by omega
        have z0 : IntKind.i64.wrap ((300000 : Int) - (al : Int)) = (300000 : Int) - (al : Int) := by rw [IntKind.wrap_i64]; omega
        have d2 : decide ((d.size : Int) > (room : Int)) = false := decide_eq_false (by omega)
        have d2' : decide ((room : Int) < (d.size : Int)) = false := d2
        have d2n : decide (room < d.size) = false := decide_eq_false (by omega)
        have hroom3 : room ≤ 300000 := by omega
        have hal3 : al ≤ 300000 := by omega
        have HX := hide (put_any B (.slice aa al ac) (Ck.file (chs c i)) k d w1 (unhide HO1) hB1 hks (by rw [← unhide Hal]; exact hlen2))
        rw [← hfile] at HX
        clear hkd hroom HO1 hlen2 hfile F0 F1 F2 HS3 hS3
        go_wp2_with fail
        refine (unhide HX).mono ?_; rintro e w2 ⟨v2, rfl, ho2, hb2⟩
        obtain ⟨a2, c2', rfl⟩ := ho2.shape
        have HO2 := hide ho2
        have HB2 := hide ((unhide HB1).trans hb2)
        have hB2 : B ≤ w2.heap.size := Nat.le_trans hB1 hb2.size
        clear HX ho2 hb2 HB1
        go_wp2
        go_roundw
        case rel => exact ⟨i + 1, _, _, _, by omega, by go_num, rfl, rfl, HK2, HO2, HB2, hB2⟩
        case measure => simp [intOf]; omega
      · rw [decide_eq_false hkd]
        have HX := hide (writeFault_any gp i uT uV w1 f0)
        have HKD := hide hkd
        clear hkd HO1 F0 F1 F2 HS3
        go_wp2_with fail
        refine (unhide HX).mono ?_; rintro e w2 ⟨q, rfl, q0, q1, q2, hb2⟩
        have HB2 := hide ((unhide HB1).trans (hb2.mono hB1))
        have HQ : Hid (WBad w2 B len c (.iface uT uV) (.returned (.tuple #[.string ⟨#[]⟩, .iface 61 (.pointer (some ⟨q, 0, none⟩))]))) := ⟨i, q, hlt, unhide HK, by rw [← unhide Hk]; exact unhide HKD, rfl, q0, q1, Nat.le_trans hB1 q2⟩
        clear HX q0 q1 q2 hb2 HB1
        go_wp2
        go_ret2
        exact ⟨.inr (unhide HQ), unhide HB2⟩
    · obtain rfl : i = len := by omega
      have d1 : decide ((i : Int) < (i : Int)) = false := by simp
      have hcv := (unhide HO).text
      have HF : Hid (∀ j, j < i → Ck.Kind (c j).1.data.toList) := HK
      generalize hfl : Ck.file (chs c i) = fl at *
      go_wp2
      go_ret2
      exact ⟨.inl ⟨unhide HF, by rw [hfl]; rfl⟩, unhide HB⟩
end Go.Proofs.YtlnglpphlcebdafDoor
