/- Walk: the document's file of chunks. -/
import Derived.Test.YtlnglpphlcebdafDoorCk4
import Derived.Test.YtlnglpphlcebdafDoorRs
import Derived.Test.YtlnglpphlcebdafDoorQB
namespace Go.Proofs.YtlnglpphlcebdafDoor
open Go.RowKit

theorem fineC_any (w : World) :
    Calls Tryd.prog 44 #[] w fun e w' => e = .returned (.agg #[.int .i64 0, .int .i64 (-1)]) ∧ Below w.heap.size w w' := by
  have HB := hide ((Below.refl w.heap.size w).alloc (Nat.le_refl _) (.cells #[.int .i64 0, .int .i64 (-1)] 35))
  go_enter Tryd.func44, Tryd.ntmps44
  go_wp2
  refine bodyPost_ret (v := .agg #[.int .i64 0, .int .i64 (-1)]) ?_ rfl ⟨rfl, unhide HB⟩
  rw [results_c (p := 0) (ty := 35) (by kernel_rfl)]
  go_simp

/-- The world inside: the answer's fault, empty yet. -/
structure FW (w wx : World) (gf : Nat) : Prop where
  f0 : wx.cell? ⟨gf, 0, none⟩ = some (.int .i64 0)
  f1 : wx.cell? ⟨gf, 1, none⟩ = some (.int .i64 0)
  z0 : wx.frozen? ⟨gf, 0, none⟩ = false
  z1 : wx.frozen? ⟨gf, 1, none⟩ = false
  b : Below gf w wx
  g : gf = w.heap.size
theorem FW.start (w : World) : FW w (w.alloc (.cells #[.int .i64 0, .int .i64 0] 35)) w.heap.size :=
  ⟨by simp [go_sem], by simp [go_sem], by simp [go_sem], by simp [go_sem], (Below.refl w.heap.size w).alloc (Nat.le_refl _) _, rfl⟩
theorem FW.lt {w wx : World} {gf : Nat} (h : FW w wx gf) : gf < wx.heap.size := World.block_lt_of_cell? _ _ h.f0
theorem FW.keep {w wx wy : World} {gf B : Nat} (h : FW w wx gf) (hb : Below B wx wy) (hB : gf < B) : FW w wy gf := by
  have hl := h.lt
  have e : wy.heap[gf]? = wx.heap[gf]? := hb.block gf hB
  exact ⟨(World.cell?_of_block (a := ⟨gf, 0, none⟩) e).trans h.f0, (World.cell?_of_block (a := ⟨gf, 1, none⟩) e).trans h.f1, (World.frozen?_of_block (a := ⟨gf, 0, none⟩) e).trans h.z0, (World.frozen?_of_block (a := ⟨gf, 1, none⟩) e).trans h.z1, h.b.trans (hb.mono (by omega)), h.g⟩
theorem FW.below {w wx wy : World} {gf : Nat} (h : FW w wx gf) (hb : Below wx.heap.size wx wy) : FW w wy gf := h.keep hb h.lt
theorem FW.fin {w wx : World} {gf : Nat} (h : FW w wx gf) (x y : Value) : Below w.heap.size w ((wx.setCell ⟨gf, 0, none⟩ x).setCell ⟨gf, 1, none⟩ y) := by
  have hb := h.b
  have hg := h.g
  rw [← hg]
  exact (hb.setCell (p := ⟨gf, 0, none⟩) (Nat.le_refl _) x).setCell (p := ⟨gf, 1, none⟩) (Nat.le_refl _) y
theorem FW.drewN {w wx : World} {gf : Nat} (h : FW w wx gf) (nn : Nat) : FW w (wx.drewN nn) gf := h.below ⟨rfl, rfl, rfl, Nat.le_refl _, fun _ _ => rfl⟩

set_option maxHeartbeats 4000000 in
set_option maxRecDepth 100000 in
theorem fileOf_any (ao : Option Addr) (len cap : Nat) (c : Nat → ByteArray × ByteArray) (w : World) (hP : IsC w ao len c) (hlen : len ≤ 100000)
    (hsm : ∀ i, i ≤ len → (∀ j, j < i → Ck.Kind (c j).1.data.toList) → (Ck.file (chs c i)).length ≤ 300000) :
    Calls Tryd.prog 21 #[.slice ao len cap] w fun e w' =>
      (((∀ j, j < len → Ck.Kind (c j).1.data.toList) ∧ e = .returned (.tuple #[.string ⟨(Ck.file (chs c len)).toArray⟩, .agg #[.int .i64 0, .int .i64 (-1)]])) ∨ (∃ i, i < len ∧ (∀ j, j < i → Ck.Kind (c j).1.data.toList) ∧ ¬ Ck.Kind (c i).1.data.toList ∧ e = .returned (.tuple #[.string ⟨#[]⟩, .agg #[.int .i64 3, .int .i64 (i : Int)]]))) ∧ Below w.heap.size w w' := by
  have HW0 := hide (FW.start w)
  have HPL : Hid (∀ x, ao = some x → 0 < len → x.block < w.heap.size) := fun x hx h0 => hP.lt x hx h0
  have HP := hide hP
  have HSM := hide hsm
  have HSG := hide signature_any
  clear hP hsm
  go_enter Tryd.func21, Tryd.ntmps21
  go_wp2_with fail
  refine (unhide HSG _).mono ?_; rintro e w1 ⟨rfl, hb1⟩
  have HW1 := hide ((unhide HW0).below hb1)
  clear HW0 hb1 HSG
  obtain ⟨gf, hgf⟩ : ∃ q, q = w.heap.size := ⟨_, rfl⟩
  rw [← hgf] at HW1 HPL
  rw [← hgf]
  have Hgf := hide hgf
  clear hgf
  go_wp2
  go_loopw [4, 5] (fun tv iv wr => ∃ (i : Nat) (o : ByteArray), i ≤ len ∧ iv = .int .i64 (i : Int) ∧ tv = .string o ∧ Hid (o.data.toList = Ck.file (chs c i)) ∧ Hid (∀ j, j < i → Ck.Kind (c j).1.data.toList) ∧ Hid (FW w wr gf)) (fun _ iv _ => len - (intOf iv).toNat)
  case atStart => exact ⟨0, ⟨Ck.sig.toArray⟩, Nat.zero_le _, rfl, rfl, rfl, (fun j hj => by omega), HW1⟩
  case round =>
    clear HW1
    obtain ⟨i, o, hi, rfl, rfl, HO, HK, HW⟩ := hrel
    have hoz : o.data.toList.length = o.size := Array.length_toList
    by_cases hlt : i < len
    · have d1 : decide ((i : Int) < (len : Int)) = true := decide_eq_true (by omega)
      have d1n : decide (i < len) = true := decide_eq_true hlt
      have hii : (i : Int) < (len : Int) := by omega
      rcases (unhide HP).below (unhide HW).b (unhide HPL) with h0 | ⟨bb, off, rfl, hml, hcell⟩
      · omega
      obtain ⟨c0, c1, c2, c3⟩ := hcell i hlt
      obtain ⟨k, hk⟩ : ∃ k, k = (c i).1 := ⟨_, rfl⟩
      obtain ⟨d, hd⟩ : ∃ d, d = (c i).2 := ⟨_, rfl⟩
      rw [← hk] at c0 c2
      rw [← hd] at c1 c3
      have Hk := hide hk
      have Hd := hide hd
      have hbb : bb < gf := unhide HPL _ rfl (by omega)
      clear hcell hk hd hml
      have HX := hide (refIsKind_any k)
      go_wp2_with fail
      refine (unhide HX _).mono ?_; rintro e wx ⟨rfl, rfl⟩
      clear HX
      by_cases hkd : Ck.Kind k.data.toList
      · rw [decide_eq_true hkd]
        have hks : k.size = 4 := ((kind_iff k).1 hkd).1
        have HK2 : Hid (∀ j, j < i + 1 → Ck.Kind (c j).1.data.toList) := fun j hj => by
          by_cases e : j = i
          · subst e; rw [← unhide Hk]; exact hkd
          · exact unhide HK j (by omega)
        have hfile := file_chs c i
        rw [← unhide Hk, ← unhide Hd] at hfile
        have hdz : d.data.toList.length = d.size := Array.length_toList
        have hkz : k.data.toList.length = k.size := Array.length_toList
        have hlen2 : o.size + 12 + d.size ≤ 300000 := by
          have h1 := unhide HSM (i + 1) (by omega) (unhide HK2)
          rw [hfile, List.length_append, Ck.one_length, ← unhide HO, hoz, hdz, hkz] at h1
          omega
        have d2 : decide ((o.size : Int) + 12 + (d.size : Int) > 300000) = false := decide_eq_false (by omega)
        have d2' : decide ((300000 : Int) < (o.size : Int) + 12 + (d.size : Int)) = false := d2
        have d2n : decide (300000 < o.size + 12 + d.size) = false := decide_eq_false (by omega)
        have hsum : ¬ (9223372036854775807 < k.size + d.size) := by omega
        clear hkd
        go_wp2
        go_quiet (fail)
        have HW2 := hide ((unhide HW).drewN nq)
        have c1' : (wx.drewN nq).cell? ⟨bb, off + i * 2 + 1, none⟩ = some (.string d) := c1
        clear HW c1 c0
        generalize wx.drewN nq = wy at *
        have hmod : (d.size : Int) % 4294967296 = (d.size : Int) := by omega
        have HX := hide (refBig_any d.size wy (by omega))
        have hap : (k ++ d).data.toList = k.data.toList ++ d.data.toList := by simp
        have hapz : (k ++ d).size = k.size + d.size := by simp
        generalize k ++ d = kdb at *
        go_wp2_with fail
        refine (unhide HX).mono ?_; rintro e w2 ⟨rfl, hb2⟩
        have HW3 := hide ((unhide HW2).below hb2)
        clear HX HW2 hb2
        obtain ⟨b1, hb1⟩ : ∃ b : ByteArray, b = ⟨(Ck.be d.size).toArray⟩ := ⟨_, rfl⟩
        have hb1z : b1.size = 4 := by rw [hb1]; rfl
        have hb1l : b1.data.toList = Ck.be d.size := by rw [hb1]
        rw [← hb1]
        have HX := hide (refCRC_any kdb w2 (by rw [hapz]; unfold maxLen; omega))
        have s1 : ¬ (9223372036854775807 < o.size + b1.size) := by omega
        have s2 : ¬ (9223372036854775807 < o.size + b1.size + kdb.size) := by omega
        have HB1L := hide hb1l
        have HAP := hide hap
        clear hb1 hb1l hap
        go_wp2_with fail
        refine (unhide HX).mono ?_; rintro e w3 ⟨rfl, rfl⟩
        clear HX
        obtain ⟨cc, hcc⟩ : ∃ cc, cc = crcOf kdb.data.toList := ⟨_, rfl⟩
        rw [← hcc]
        have HX := hide (refBig_any cc w3 (by rw [hcc]; exact Ck.crcOf_lt _))
        have HCC := hide hcc
        clear hcc
        go_wp2_with fail
        refine (unhide HX).mono ?_; rintro e w4 ⟨rfl, hb4⟩
        have HW4 := hide ((unhide HW3).below hb4)
        clear HX HW3 hb4
        obtain ⟨b2, hb2⟩ : ∃ b : ByteArray, b = ⟨(Ck.be cc).toArray⟩ := ⟨_, rfl⟩
        have hb2z : b2.size = 4 := by rw [hb2]; rfl
        have hb2l : b2.data.toList = Ck.be cc := by rw [hb2]
        rw [← hb2]
        have s3 : ¬ (9223372036854775807 < o.size + b1.size + kdb.size + b2.size) := by omega
        obtain ⟨o2, ho2⟩ : ∃ o2, o2 = o ++ b1 ++ kdb ++ b2 := ⟨_, rfl⟩
        have HO2 : Hid (o2.data.toList = Ck.file (chs c (i + 1))) := by
          show _ = _
          rw [hfile, ho2]
          simp only [ByteArray.data_append, Array.toList_append]
          rw [unhide HO, unhide HB1L, unhide HAP, hb2l, unhide HCC, unhide HAP]
          unfold Ck.one
          rw [hdz]
          simp only [List.append_assoc]
        have HE := hide ho2
        clear hb2 hb2l hfile ho2
        go_wp2
        go_roundw
        case rel => exact ⟨i + 1, o2, by omega, by go_num, by rw [unhide HE], HO2, HK2, HW4⟩
        case measure => simp [intOf]; omega
      · rw [decide_eq_false hkd]
        have HKD := hide hkd
        have f0 := (unhide HW).f0
        have f1 := (unhide HW).f1
        have z0 := (unhide HW).z0
        have z1 := (unhide HW).z1
        have HF := hide ((unhide HW).fin (.int .i64 3) (.int .i64 (i : Int)))
        clear hkd
        go_wp2
        refine bodyPost_ret (v := .tuple #[.string ⟨#[]⟩, .agg #[.int .i64 3, .int .i64 (i : Int)]]) ?_ rfl ⟨.inr ⟨i, hlt, unhide HK, by rw [← unhide Hk]; exact unhide HKD, rfl⟩, unhide HF⟩
        rw [results_tc (u := 2) (p := 3) (ty := 35) (by kernel_rfl)]
        go_simp
    · obtain rfl : i = len := by omega
      have d1 : decide ((i : Int) < (i : Int)) = false := by simp
      have HX := hide (fineC_any wr)
      have ho : o = ⟨(Ck.file (chs c i)).toArray⟩ := by
        apply text_ext
        rw [unhide HO]
      have HOE := hide ho
      clear ho
      go_wp2_with fail
      refine (unhide HX).mono ?_; rintro e w2 ⟨rfl, hb2⟩
      have HW2 := hide ((unhide HW).below hb2)
      clear HX hb2 HW
      have f0 := (unhide HW2).f0
      have f1 := (unhide HW2).f1
      have z0 := (unhide HW2).z0
      have z1 := (unhide HW2).z1
      have HF := hide ((unhide HW2).fin (.int .i64 0) (.int .i64 (-1)))
      go_wp2
      refine bodyPost_ret (v := .tuple #[.string o, .agg #[.int .i64 0, .int .i64 (-1)]]) ?_ rfl ⟨.inl ⟨unhide HK, by rw [unhide HOE]⟩, unhide HF⟩
      rw [results_tc (u := 2) (p := 3) (ty := 35) (by kernel_rfl)]
      go_simp
end Go.Proofs.YtlnglpphlcebdafDoor
