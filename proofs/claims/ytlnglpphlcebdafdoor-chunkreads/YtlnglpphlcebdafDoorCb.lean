/- Walk: the document's chunks of a file. -/
import Derived.Test.YtlnglpphlcebdafDoorCk9
import Derived.Test.YtlnglpphlcebdafDoorCa
import Derived.Deep.RegionLaw
namespace Go.Proofs.YtlnglpphlcebdafDoor
open Go.RowKit

/-- What the document's reading answers. -/
def RdD (s : ByteArray) (w' : World) (B : Nat) (e : Ending) : Prop :=
  (s.data.toList.take 8 ≠ Ck.sig ∧ e = .returned (.tuple #[.slice none 0 0, .agg #[.int .i64 1, .int .i64 0]])) ∨
  (s.data.toList.take 8 = Ck.sig ∧ ∃ r, Ck.Rd s.data.toList 8 [] r ∧
    ((∃ c a : Nat, r = .bad c a ∧ e = .returned (.tuple #[.slice none 0 0, .agg #[.int .i64 ((c : Int) + 1), .int .i64 (a : Int)]])) ∨
     (∃ cs aL cL, r = .fine cs ∧ e = .returned (.tuple #[.slice aL cs.length cL, .agg #[.int .i64 0, .int .i64 (-1)]]) ∧ w'.ownsRow B 51 2 (.slice aL cs.length cL) cs.length (chV cs))))

/-- What an answer of the document's reading needs: its fault's block and the row's. -/
structure CW (w wx : World) (gf : Nat) (v : Value) (cs : List (List UInt8 × List UInt8)) : Prop where
  f : FW w wx gf
  row : wx.ownsRow (gf + 1) 51 2 v cs.length (chV cs)
theorem CW.below {w wx wy : World} {gf : Nat} {v : Value} {cs : List (List UInt8 × List UInt8)} (h : CW w wx gf v cs) (hb : Below wx.heap.size wx wy) : CW w wy gf v cs := ⟨h.f.below hb, own_keep h.row hb⟩
theorem CW.drewN {w wx : World} {gf : Nat} {v : Value} {cs : List (List UInt8 × List UInt8)} (h : CW w wx gf v cs) (nn : Nat) : CW w (wx.drewN nn) gf v cs := h.below ⟨rfl, rfl, rfl, Nat.le_refl _, fun _ _ => rfl⟩

set_option maxHeartbeats 8000000 in
set_option maxRecDepth 100000 in
theorem refChunks_any (s : ByteArray) (w : World) (hs : s.size ≤ 300000) :
    Calls Tryd.prog 25 #[.string s] w fun e w' => RdD s w' w.heap.size e ∧ Below w.heap.size w w' := by
  have hz : s.data.toList.length = s.size := Array.length_toList
  have d0 : decide ((s.size : Int) > 300000) = false := decide_eq_false (by omega)
  have d0' : decide ((300000 : Int) < (s.size : Int)) = false := d0
  have d0n : decide (300000 < s.size) = false := decide_eq_false (by omega)
  have HW0 := hide (FW.start w)
  have HSG := hide signature_any
  have e1 : (s.extract 0 8).data.toList = s.data.toList.take 8 := by
    have := ex_list s 0 8
    rwa [Nat.zero_add, List.drop_zero] at this
  have E1 := hide e1
  clear e1
  go_enter Tryd.func25, Tryd.ntmps25
  go_upto_region 3 with fail
  obtain ⟨gf, hgf⟩ : ∃ q, q = w.heap.size := ⟨_, rfl⟩
  rw [← hgf] at HW0
  rw [← hgf]
  have Hgf := hide hgf
  clear hgf
  generalize w.alloc (.cells #[.int .i64 0, .int .i64 0] 35) = wx at *
  go_cut [19] (fun t wz => ∃ tb : Bool, t = .bool tb ∧ Hid (tb = false ↔ s.data.toList.take 8 = Ck.sig) ∧ Hid (FW w wz gf))
  case first =>
    by_cases h8 : s.size < 8
    · have d1 : decide ((s.size : Int) < 8) = true := decide_eq_true (by omega)
      go_quiet (fail)
      have HW1 := hide ((unhide HW0).drewN nq)
      have hne : s.data.toList.take 8 ≠ Ck.sig := fun q => by
        have := congrArg List.length q
        rw [List.length_take, hz] at this
        have e2 : Ck.sig.length = 8 := rfl
        omega
      have HNE := hide hne
      clear hne HW0
      go_wp2
      go_meet
      case rel => exact ⟨true, rfl, ⟨(fun q => by cases q), fun q => absurd q (unhide HNE)⟩, HW1⟩
    · have d1 : decide ((s.size : Int) < 8) = false := decide_eq_false (by omega)
      have h8s : 8 ≤ s.size := by omega
      have h8i : (8 : Int) ≤ (s.size : Int) := by omega
      obtain ⟨hd, hhd⟩ : ∃ hd, hd = s.extract 0 8 := ⟨_, rfl⟩
      have ehd : s.extract 0 8 = hd := hhd.symm
      have hiff : hd = ⟨Ck.sig.toArray⟩ ↔ s.data.toList.take 8 = Ck.sig := by
        rw [← unhide E1, ehd]
        constructor
        · intro q; rw [q]
        · intro q; apply text_ext; rw [q]
      have HI := hide hiff
      clear hhd hiff
      by_cases heq : hd = ⟨Ck.sig.toArray⟩
      · have HYE := hide ((unhide HI).1 heq)
        clear HI
        subst heq
        haveI : Nonempty (BelowOf wx.heap.size wx) := ⟨⟨wx, Below.refl _ _⟩⟩
        refine region_below wx.heap.size wx (Below.refl _ _) (by kernel_rfl) ?_
        repeat (quiet_step ((go_at_call 37; exact Calls.below_of (Nat.le_refl _) (unhide HSG _))))
        refine wpQuiet_nil ?_
        intro wb hw'
        obtain ⟨pw, hpw⟩ := hw'
        have hwb := pw.prf
        rw [← hpw] at hwb
        clear hpw
        have HW1 := hide ((unhide HW0).below hwb)
        clear hwb HW0
        go_wp2
        go_meet
        case rel => exact ⟨false, rfl, ⟨fun _ => unhide HYE, fun _ => rfl⟩, HW1⟩
      · have hb : (hd.toList == (⟨Ck.sig.toArray⟩ : ByteArray).toList) = false := by
          simp only [beq_eq_false_iff_ne, ne_eq]
          intro q
          exact heq (ByteArray.ext (Array.toList_inj.1 (by rw [← ByteArray.toList_eq, ← ByteArray.toList_eq]; exact q)))
        have hb2 : (hd.toList == Ck.sig) = false := by
          simp only [beq_eq_false_iff_ne, ne_eq]
          intro q
          exact heq (text_ext (by rw [← ByteArray.toList_eq]; exact q))
        have HNE := hide heq
        clear heq
        haveI : Nonempty (BelowOf wx.heap.size wx) := ⟨⟨wx, Below.refl _ _⟩⟩
        refine region_below wx.heap.size wx (Below.refl _ _) (by kernel_rfl) ?_
        repeat (quiet_step ((go_at_call 37; exact Calls.below_of (Nat.le_refl _) (unhide HSG _))))
        refine wpQuiet_nil ?_
        intro wb hw'
        obtain ⟨pw, hpw⟩ := hw'
        have hwb := pw.prf
        rw [← hpw] at hwb
        clear hpw
        have HW1 := hide ((unhide HW0).below hwb)
        clear hwb HW0
        go_wp2
        go_meet
        case rel => exact ⟨true, rfl, ⟨(fun q => by cases q), fun q => absurd ((unhide HI).2 q) (unhide HNE)⟩, HW1⟩
  case rest =>
    obtain ⟨tb, rfl, HT, HW⟩ := hcut
    clear HW0 HSG
    cases tb
    rotate_left
    · have hno : s.data.toList.take 8 ≠ Ck.sig := fun q => by cases (unhide HT).2 q
      have HNO := hide hno
      have f0 := (unhide HW).f0
      have f1 := (unhide HW).f1
      have z0 := (unhide HW).z0
      have z1 := (unhide HW).z1
      have HF := hide ((unhide HW).fin (.int .i64 1) (.int .i64 0))
      clear hno
      go_wp2
      refine bodyPost_ret (v := .tuple #[.slice none 0 0, .agg #[.int .i64 1, .int .i64 0]]) ?_ rfl ⟨.inl ⟨unhide HNO, rfl⟩, unhide HF⟩
      rw [results_tc (u := 2) (p := 3) (ty := 35) (by kernel_rfl)]
      go_simp
    · have hyes : s.data.toList.take 8 = Ck.sig := (unhide HT).1 rfl
      have h8s : 8 ≤ s.size := by
        have := congrArg List.length hyes
        rw [List.length_take, hz] at this
        have e2 : Ck.sig.length = 8 := rfl
        omega
      have HY := hide hyes
      clear hyes HT
      go_wp2
      go_loopw [4, 5] (fun lv av wr => ∃ (a n cL : Nat) (cs : List (List UInt8 × List UInt8)) (aL : Option Addr), lv = .slice aL n cL ∧ av = .int .i64 (a : Int) ∧ Hid (n = cs.length) ∧ a ≤ s.size ∧ n ≤ a ∧ Hid (∀ r, Ck.Rd s.data.toList a cs r → Ck.Rd s.data.toList 8 [] r) ∧ Hid (CW w wr gf (.slice aL n cL) cs)) (fun _ av _ => s.size - (intOf av).toNat)
      case atStart => exact ⟨8, 0, 0, [], none, rfl, rfl, rfl, h8s, by omega, fun _ h => h, unhide HW, World.ownsRow_nil _ _ _ _⟩
      case round =>
        clear HW
        obtain ⟨a, n, cL, cs, aL, rfl, rfl, Hn, ha, hna, HR, HC⟩ := hrel
        by_cases hlt : a < s.size
        · have d1 : decide ((a : Int) < (s.size : Int)) = true := decide_eq_true (by omega)
          have d1n : decide (a < s.size) = true := decide_eq_true hlt
          obtain ⟨a12, h12⟩ : ∃ q, q = a + 12 := ⟨_, rfl⟩
          have z12 : (a : Int) + 12 = (a12 : Int) := by omega
          by_cases hA : s.size < a12
          · have d2 : decide ((a12 : Int) > (s.size : Int)) = true := decide_eq_true (by omega)
            have d2' : decide ((s.size : Int) < (a12 : Int)) = true := d2
            have d2n : decide (s.size < a12) = true := decide_eq_true hA
            have hx : Ck.nx (s.data.toList.drop a) = .text := by
              unfold Ck.nx
              rw [if_pos (by rw [List.length_drop, hz]; omega)]
            have HRR := hide (unhide HR _ (.text (by rw [hz]; exact hlt) hx))
            have H12 := hide h12
            clear h12
            have f0 := (unhide HC).f.f0
            have f1 := (unhide HC).f.f1
            have z0 := (unhide HC).f.z0
            have z1 := (unhide HC).f.z1
            have HF := hide ((unhide HC).f.fin (.int .i64 1) (.int .i64 (a : Int)))
            clear hx HR
            go_wp2
            refine bodyPost_ret (v := .tuple #[.slice none 0 0, .agg #[.int .i64 1, .int .i64 (a : Int)]]) ?_ rfl ⟨.inr ⟨unhide HY, _, unhide HRR, .inl ⟨0, a, rfl, rfl⟩⟩, unhide HF⟩
            rw [results_tc (u := 2) (p := 3) (ty := 35) (by kernel_rfl)]
            go_simp
          · have d2 : decide ((a12 : Int) > (s.size : Int)) = false := decide_eq_false (by omega)
            have d2' : decide ((s.size : Int) < (a12 : Int)) = false := d2
            have d2n : decide (s.size < a12) = false := decide_eq_false hA
            have hai : (a : Int) ≤ (s.size : Int) := by omega
            obtain ⟨t, ht⟩ : ∃ t, t = s.extract a s.size := ⟨_, rfl⟩
            have et : s.extract a s.size = t := ht.symm
            have htl : t.data.toList = s.data.toList.drop a := by rw [ht]; exact ex_back _ _
            have htz : 4 ≤ t.size := by rw [ht]; simp; omega
            obtain ⟨m, hm⟩ : ∃ m, m = Ck.n4 (s.data.toList.drop a) := ⟨_, rfl⟩
            have hm4 : m < 4294967296 := by rw [hm]; exact Ck.n4_lt _
            have HX := bigOf4_any t wr htz
            rw [htl, ← hm] at HX
            have HX := hide HX
            have Hm := hide hm
            obtain ⟨am, ham⟩ : ∃ q, q = a12 + m := ⟨_, rfl⟩
            have zam : (a12 : Int) + (m : Int) = (am : Int) := by omega
            obtain ⟨a4, h4⟩ : ∃ q, q = a + 4 := ⟨_, rfl⟩
            have z4 : (a : Int) + 4 = (a4 : Int) := by omega
            obtain ⟨a8, h8⟩ : ∃ q, q = a + 8 := ⟨_, rfl⟩
            have z8 : (a : Int) + 8 = (a8 : Int) := by omega
            obtain ⟨m8, hm8⟩ : ∃ q, q = a8 + m := ⟨_, rfl⟩
            have zm8 : (a8 : Int) + (m : Int) = (m8 : Int) := by omega
            have am3 : a12 ≤ 300000 := by omega
            have HAM := hide ham
            have H4 := hide h4
            have H8 := hide h8
            have HM8 := hide hm8
            have H12 := hide h12
            clear ht htl hm
            by_cases hB : s.size < am
            · have d3 : decide ((am : Int) > (s.size : Int)) = true := decide_eq_true (by omega)
              have d3' : decide ((s.size : Int) < (am : Int)) = true := d3
              have d3n : decide (s.size < am) = true := decide_eq_true hB
              have hx : Ck.nx (s.data.toList.drop a) = .text := by
                unfold Ck.nx
                rw [if_neg (by rw [List.length_drop, hz]; omega), if_pos (by rw [List.length_drop, hz, ← unhide Hm]; omega)]
              have HRR := hide (unhide HR _ (.text (by rw [hz]; exact hlt) hx))
              clear ham h4 h8 hm8 h12
              go_wp2_with fail
              refine (unhide HX).mono ?_; rintro e w2 ⟨rfl, rfl⟩
              clear HX
              have f0 := (unhide HC).f.f0
              have f1 := (unhide HC).f.f1
              have z0 := (unhide HC).f.z0
              have z1 := (unhide HC).f.z1
              have HF := hide ((unhide HC).f.fin (.int .i64 1) (.int .i64 (a : Int)))
              clear hx HR
              go_wp2
              refine bodyPost_ret (v := .tuple #[.slice none 0 0, .agg #[.int .i64 1, .int .i64 (a : Int)]]) ?_ rfl ⟨.inr ⟨unhide HY, _, unhide HRR, .inl ⟨0, a, rfl, rfl⟩⟩, unhide HF⟩
              rw [results_tc (u := 2) (p := 3) (ty := 35) (by kernel_rfl)]
              go_simp
            · have d3 : decide ((am : Int) > (s.size : Int)) = false := decide_eq_false (by omega)
              have d3' : decide ((s.size : Int) < (am : Int)) = false := d3
              have d3n : decide (s.size < am) = false := decide_eq_false hB
              obtain ⟨kb, hkb⟩ : ∃ kb, kb = s.extract a4 a8 := ⟨_, rfl⟩
              have ek : s.extract a4 a8 = kb := hkb.symm
              have hkl : kb.data.toList = Ck.kd (s.data.toList.drop a) := by
                rw [hkb, show a8 = a4 + 4 by omega, ex_list, h4]
                unfold Ck.kd
                rw [List.drop_drop]
              have i48 : (a4 : Int) ≤ (a8 : Int) := by omega
              have i8s : (a8 : Int) ≤ (s.size : Int) := by omega
              have n48 : a4 ≤ a8 := by omega
              have n8s : a8 ≤ s.size := by omega
              have HY2 := hide (refIsKind_any kb)
              have HKL := hide hkl
              have b8s : m8 + 4 ≤ s.size := by omega
              have am8 : am = m8 + 4 := by omega
              have a8m : a8 ≤ m8 := by omega
              have HA8 := hide am8
              clear ham h4 h8 hm8 h12 hkb hkl am8
              go_wp2_with fail
              refine (unhide HX).mono ?_; rintro e w2 ⟨rfl, rfl⟩
              clear HX
              go_wp2_with fail
              refine (unhide HY2 w2).mono ?_; rintro e w3 ⟨rfl, hw3⟩
              replace hw3 := hw3.symm
              subst hw3
              clear HY2
              by_cases hkd : Ck.Kind kb.data.toList
              rotate_left
              · rw [decide_eq_false hkd]
                have hx : Ck.nx (s.data.toList.drop a) = .text := by
                  unfold Ck.nx
                  rw [if_neg (by rw [List.length_drop, hz]; have := unhide H12; omega), if_neg (by rw [List.length_drop, hz, ← unhide Hm]; have := unhide HAM; have := unhide H12; omega), if_pos (by rw [← unhide HKL]; exact hkd)]
                have HRR := hide (unhide HR _ (.text (by rw [hz]; exact hlt) hx))
                clear hkd
                have f0 := (unhide HC).f.f0
                have f1 := (unhide HC).f.f1
                have z0 := (unhide HC).f.z0
                have z1 := (unhide HC).f.z1
                have HF := hide ((unhide HC).f.fin (.int .i64 1) (.int .i64 (a : Int)))
                clear hx HR
                go_wp2
                refine bodyPost_ret (v := .tuple #[.slice none 0 0, .agg #[.int .i64 1, .int .i64 (a : Int)]]) ?_ rfl ⟨.inr ⟨unhide HY, _, unhide HRR, .inl ⟨0, a, rfl, rfl⟩⟩, unhide HF⟩
                rw [results_tc (u := 2) (p := 3) (ty := 35) (by kernel_rfl)]
                go_simp
              · rw [decide_eq_true hkd]
                have HKD := hide hkd
                clear hkd
                obtain ⟨sb, hsb⟩ : ∃ sb, sb = s.extract m8 s.size := ⟨_, rfl⟩
                obtain ⟨cb, hcb⟩ : ∃ cb, cb = s.extract a4 m8 := ⟨_, rfl⟩
                have es : s.extract m8 s.size = sb := hsb.symm
                have ec : s.extract a4 m8 = cb := hcb.symm
                have hsl : sb.data.toList = (s.data.toList.drop a).drop (8 + m) := by
                  rw [hsb, ex_back, List.drop_drop]
                  congr 1
                  have := unhide HM8; have := unhide H8; omega
                have hcl : cb.data.toList = ((s.data.toList.drop a).drop 4).take (4 + m) := by
                  rw [hcb, show m8 = a4 + (4 + m) by (have := unhide HM8; have := unhide H8; have := unhide H4; omega), ex_list, List.drop_drop, unhide H4]
                have HS1 : Hid (∀ w, Calls Tryd.prog 49 #[.string sb] w fun e w' => e = .returned (.int .u32 (Ck.n4 sb.data.toList : Nat)) ∧ Below w.heap.size w w') := fun w => (bigOf4_any sb w (by rw [hsb]; simp; omega)).mono (by
                  rintro e w' ⟨rfl, rfl⟩
                  exact ⟨rfl, Below.refl _ _⟩)
                have HC1 : Hid (∀ w, Calls Tryd.prog 43 #[.string cb] w fun e w' => e = .returned (.int .u32 (crcOf cb.data.toList : Nat)) ∧ Below w.heap.size w w') := fun w => (refCRC_any cb w (by rw [hcb]; unfold maxLen; simp; omega)).mono (by
                  rintro e w' ⟨rfl, rfl⟩
                  exact ⟨rfl, Below.refl _ _⟩)
                have i4m : (a4 : Int) ≤ (m8 : Int) := by omega
                have n4m : a4 ≤ m8 := by omega
                have ims : (m8 : Int) ≤ (s.size : Int) := by omega
                have nms : m8 ≤ s.size := by omega
                have i8m : (a8 : Int) ≤ (m8 : Int) := by omega
                have hnxI : Ck.nx (s.data.toList.drop a) = if Ck.n4 sb.data.toList = crcOf cb.data.toList then .ok m else .sum := by
                  unfold Ck.nx
                  rw [if_neg (by rw [List.length_drop, hz]; have := unhide H12; omega), if_neg (by rw [List.length_drop, hz, ← unhide Hm]; have := unhide HAM; have := unhide H12; omega), if_neg (not_not_intro (by rw [← unhide HKL]; exact unhide HKD)), ← unhide Hm, hsl, hcl]
                have w4' : IntKind.i64.wrap (a4 : Int) = (a4 : Int) := by rw [IntKind.wrap_i64]; omega
                have w8' : IntKind.i64.wrap (a8 : Int) = (a8 : Int) := by rw [IntKind.wrap_i64]; omega
                have wm8' : IntKind.i64.wrap (m8 : Int) = (m8 : Int) := by rw [IntKind.wrap_i64]; omega
                have HNX := hide hnxI
                clear hsb hcb hsl hcl hnxI
                generalize Ck.n4 sb.data.toList = sn at *
                generalize crcOf cb.data.toList = cn at *
                by_cases hsc : sn = cn
                rotate_left
                · have hx : Ck.nx (s.data.toList.drop a) = .sum := by rw [unhide HNX, if_neg hsc]
                  have HRR := hide (unhide HR _ (.sum (by rw [hz]; exact hlt) hx))
                  have d5 : ((sn : Int) == (cn : Int)) = false := by rw [beq_eq_false_iff_ne]; omega
                  have d6 : ((sn : Int) != (cn : Int)) = true := by simp; omega
                  clear hsc HNX
                  haveI : Nonempty (BelowOf w2.heap.size w2) := ⟨⟨w2, Below.refl _ _⟩⟩
                  go_wp2_with fail
                  refine region_below w2.heap.size w2 (Below.refl _ _) (by kernel_rfl) ?_
                  repeat (quiet_step (first | (go_at_call 49; exact Calls.below_of (Nat.le_refl _) (unhide HS1 _)) | (go_at_call 43; exact Calls.below_of (Nat.le_refl _) (unhide HC1 _))))
                  refine wpQuiet_nil ?_
                  intro wb hw'
                  obtain ⟨pw, hpw⟩ := hw'
                  have hwb := pw.prf
                  rw [← hpw] at hwb
                  clear hpw
                  have HC2 := hide ((unhide HC).below hwb)
                  clear hwb HC HS1 HC1
                  have HC := HC2
                  have f0 := (unhide HC).f.f0
                  have f1 := (unhide HC).f.f1
                  have z0 := (unhide HC).f.z0
                  have z1 := (unhide HC).f.z1
                  have HF := hide ((unhide HC).f.fin (.int .i64 4) (.int .i64 (a : Int)))
                  clear hx HR
                  go_wp2
                  refine bodyPost_ret (v := .tuple #[.slice none 0 0, .agg #[.int .i64 4, .int .i64 (a : Int)]]) ?_ rfl ⟨.inr ⟨unhide HY, _, unhide HRR, .inl ⟨3, a, rfl, rfl⟩⟩, unhide HF⟩
                  rw [results_tc (u := 2) (p := 3) (ty := 35) (by kernel_rfl)]
                  go_simp
                · subst hsc
                  have hx : Ck.nx (s.data.toList.drop a) = .ok m := by rw [unhide HNX, if_pos rfl]
                  have d5 : ((sn : Int) == (sn : Int)) = true := by simp
                  have d6 : ((sn : Int) != (sn : Int)) = false := by simp
                  have hx4 := Ck.nx_ok hx
                  obtain ⟨db, hdb⟩ : ∃ db, db = s.extract a8 m8 := ⟨_, rfl⟩
                  have ed : s.extract a8 m8 = db := hdb.symm
                  have hdl : db.data.toList = Ck.dt (s.data.toList.drop a) m := by
                    rw [hdb, unhide HM8, ex_list, unhide H8]
                    unfold Ck.dt
                    rw [List.drop_drop]
                  have hstep : ∀ r, Ck.Rd s.data.toList (a + 12 + m) (cs ++ [(kb.data.toList, db.data.toList)]) r → Ck.Rd s.data.toList 8 [] r := fun r h => unhide HR r (.next (by rw [hz]; exact hlt) hx (by rw [← unhide HKL, ← hdl]; exact h))
                  have HST := hide hstep
                  clear hx hx4 hdb hdl hstep HR HNX
                  haveI : Nonempty (BelowOf w2.heap.size w2) := ⟨⟨w2, Below.refl _ _⟩⟩
                  go_wp2_with fail
                  refine region_below w2.heap.size w2 (Below.refl _ _) (by kernel_rfl) ?_
                  repeat (quiet_step (first | (go_at_call 49; exact Calls.below_of (Nat.le_refl _) (unhide HS1 _)) | (go_at_call 43; exact Calls.below_of (Nat.le_refl _) (unhide HC1 _))))
                  refine wpQuiet_nil ?_
                  intro wb hw'
                  obtain ⟨pw, hpw⟩ := hw'
                  have hwb := pw.prf
                  rw [← hpw] at hwb
                  clear hpw
                  have HC2 := hide ((unhide HC).below hwb)
                  clear hwb HC HS1 HC1
                  have HC := HC2
                  have hb1 : Below wb.heap.size wb (wb.drew.alloc (.cells #[.string kb, .string db] 51)) := (Below.refl _ _).drew.alloc (Nat.le_refl _) _
                  have HCa := hide ((unhide HC).below hb1)
                  have HOa := hide (unhide HCa).row
                  have cq0 : (wb.drew.alloc (.cells #[.string kb, .string db] 51)).cell? ⟨wb.heap.size, 0, none⟩ = some (.string ⟨kb.data.toList.toArray⟩) := by
                    show (wb.drew.alloc _).cell? ⟨wb.drew.heap.size, 0, none⟩ = _
                    simp [go_sem]
                  have cq1 : (wb.drew.alloc (.cells #[.string kb, .string db] 51)).cell? ⟨wb.heap.size, 1, none⟩ = some (.string ⟨db.data.toList.toArray⟩) := by
                    show (wb.drew.alloc _).cell? ⟨wb.drew.heap.size, 1, none⟩ = _
                    simp [go_sem]
                  have CQ0 := hide cq0
                  have CQ1 := hide cq1
                  have hB1 : gf + 1 ≤ (wb.drew.alloc (.cells #[.string kb, .string db] 51)).heap.size := (unhide HCa).f.lt
                  have HIN := hide (own_in (unhide HC).row)
                  have hcn : cs.length ≤ 1000000 := by have := unhide Hn; omega
                  have HCN := hide hcn
                  clear hb1 cq0 cq1 hcn HC d2 d2' d2n d3 d3' d3n et es ec d5 d6
                  go_wp2_with fail
                  go_region_law (first | (refine step_appChR rfl (.tmp 75) (.tmp 91) rfl (gf + 1) wb.heap.size (.slice aL n cL) cs kb.data.toList db.data.toList (by simp [Act.eval]) (by simp [Act.eval]) (unhide HOa) (unhide CQ0) (unhide CQ1) (unhide HCN) hB1 ?_; intro v2 w5 ho2 hg2 _; obtain ⟨a2, c2, rfl⟩ := own_slice ho2))
                  all_goals (
                    have hf5 : FW w w5 gf := (unhide HCa).f.keep (B := gf + 1) ((Below.refl (gf + 1) _).grown hg2 hB1 (fun k e => (unhide HIN k e).1)) (by omega)
                    have HC5 : Hid (CW w w5 gf (.slice a2 (cs.length + 1) c2) (cs ++ [(kb.data.toList, db.data.toList)])) := ⟨hf5, by
                      have e : (cs ++ [(kb.data.toList, db.data.toList)]).length = cs.length + 1 := by rw [List.length_append]; rfl
                      rw [e]
                      rw [e] at ho2
                      exact ho2⟩
                    have hcn : cs.length = n := (unhide Hn).symm
                    have HCN2 := hide hcn
                    have HE : Hid (am = a + 12 + m) := by show _ = _; have := unhide HAM; have := unhide H12; omega
                    clear ho2 hg2 hf5 HCa HOa CQ0 CQ1 hcn ek ed
                    go_wp2
                    go_roundw
                    case rel => exact ⟨am, cs.length + 1, c2, cs ++ [(kb.data.toList, db.data.toList)], a2, rfl, by go_num, by show cs.length + 1 = _; rw [List.length_append]; rfl, by omega, by have := unhide HCN2; omega, by rw [unhide HE]; exact HST, HC5⟩
                    case measure => simp [intOf]; omega)
        · obtain rfl : a = s.size := by omega
          have d1 : decide ((s.size : Int) < (s.size : Int)) = false := by simp
          have HRR := hide (unhide HR _ (.done (by omega)))
          have HX := hide (fineC_any wr)
          clear HR
          go_wp2_with fail
          refine (unhide HX).mono ?_; rintro e w2 ⟨rfl, hb2⟩
          have HC2 := hide ((unhide HC).below hb2)
          clear HX hb2 HC
          have f0 := (unhide HC2).f.f0
          have f1 := (unhide HC2).f.f1
          have z0 := (unhide HC2).f.z0
          have z1 := (unhide HC2).f.z1
          have HF := hide ((unhide HC2).f.fin (.int .i64 0) (.int .i64 (-1)))
          have HO : Hid (((w2.setCell ⟨gf, 0, none⟩ (.int .i64 0)).setCell ⟨gf, 1, none⟩ (.int .i64 (-1))).ownsRow w.heap.size 51 2 (.slice aL cs.length cL) cs.length (chV cs)) := by
            have h1 := own_set (p := ⟨gf, 1, none⟩) (y := .int .i64 (-1)) (own_set (p := ⟨gf, 0, none⟩) (y := .int .i64 0) (unhide HC2).row (by show gf < gf + 1; omega)) (by show gf < gf + 1; omega)
            have h2 := own_less (b' := w.heap.size) h1 (by have := unhide Hgf; omega)
            rw [unhide Hn] at h2
            exact h2
          go_wp2
          refine bodyPost_ret (v := .tuple #[.slice aL n cL, .agg #[.int .i64 0, .int .i64 (-1)]]) ?_ rfl ⟨.inr ⟨unhide HY, _, unhide HRR, .inr ⟨cs, aL, cL, rfl, by rw [unhide Hn], unhide HO⟩⟩, unhide HF⟩
          rw [results_tc (u := 2) (p := 3) (ty := 35) (by kernel_rfl)]
          go_simp
end Go.Proofs.YtlnglpphlcebdafDoor
