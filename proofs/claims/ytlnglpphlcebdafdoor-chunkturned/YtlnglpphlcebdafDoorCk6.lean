/- Walk: chunk.next. -/
import Derived.Test.YtlnglpphlcebdafDoorCk2
import Derived.Test.YtlnglpphlcebdafDoorScl
import Derived.Test.YtlnglpphlcebdafDoorQB
import Derived.Test.YtlnglpphlcebdafDoorRs
namespace Go.Proofs.YtlnglpphlcebdafDoor
open Go.RowKit

theorem ex_list (s : ByteArray) (i k : Nat) : (s.extract i (i + k)).data.toList = (s.data.toList.drop i).take k := by
  simp [ByteArray.data_extract]
theorem ex_back (s : ByteArray) (i : Nat) : (s.extract i s.size).data.toList = s.data.toList.drop i := by
  have hz : s.data.toList.length = s.size := Array.length_toList
  simp only [ByteArray.data_extract, Array.toList_extract, List.extract_eq_take_drop]
  rw [List.take_of_length_le (by rw [List.length_drop]; omega)]

/-- The world inside next: the answer's block, empty; the errors. -/
structure NW (w wx : World) (gp : Nat) (eT eS : Value) : Prop where
  f0 : wx.cell? ⟨gp, 0, none⟩ = some (.string ⟨#[]⟩)
  f1 : wx.cell? ⟨gp, 1, none⟩ = some (.string ⟨#[]⟩)
  f2 : wx.frozen? ⟨gp, 0, none⟩ = false
  f3 : wx.frozen? ⟨gp, 1, none⟩ = false
  t : wx.cell? ⟨0, 0, none⟩ = some eT
  s : wx.cell? ⟨3, 0, none⟩ = some eS
  b : Below gp w wx
  g : gp = w.heap.size
  lt : 0 < gp
  ls : 3 < gp
theorem NW.start (w : World) (eT eS : Value) (hT : w.cell? ⟨0, 0, none⟩ = some eT) (hS : w.cell? ⟨3, 0, none⟩ = some eS) : NW w (w.alloc (.cells #[.string ⟨#[]⟩, .string ⟨#[]⟩] 70)) w.heap.size eT eS := by
  have hb := (Below.refl w.heap.size w).alloc (Nat.le_refl _) (.cells #[.string ⟨#[]⟩, .string ⟨#[]⟩] 70)
  have l1 : 0 < w.heap.size := World.block_lt_of_cell? _ _ hT
  have l2 : 3 < w.heap.size := World.block_lt_of_cell? _ _ hS
  exact ⟨by simp [go_sem], by simp [go_sem], by simp [go_sem], by simp [go_sem], (hb.cell l1).trans hT, (hb.cell l2).trans hS, hb, rfl, l1, l2⟩
theorem NW.below {w wx wy : World} {gp : Nat} {eT eS : Value} (h : NW w wx gp eT eS) (hb : Below wx.heap.size wx wy) : NW w wy gp eT eS := by
  have hl : gp < wx.heap.size := World.block_lt_of_cell? _ _ h.f0
  have lt : 0 < wx.heap.size := Nat.lt_trans h.lt hl
  have ls : 3 < wx.heap.size := Nat.lt_trans h.ls hl
  have hbl := hb.block gp hl
  exact ⟨(hb.cell (p := ⟨gp, 0, none⟩) hl).trans h.f0, (hb.cell (p := ⟨gp, 1, none⟩) hl).trans h.f1, (World.frozen?_of_block (a := ⟨gp, 0, none⟩) hbl).trans h.f2, (World.frozen?_of_block (a := ⟨gp, 1, none⟩) hbl).trans h.f3, (hb.cell (p := ⟨0, 0, none⟩) lt).trans h.t, (hb.cell (p := ⟨3, 0, none⟩) ls).trans h.s, h.b.trans (hb.mono (by omega)), h.g, h.lt, h.ls⟩
theorem NW.drewN {w wx : World} {gp : Nat} {eT eS : Value} (h : NW w wx gp eT eS) (nn : Nat) : NW w (wx.drewN nn) gp eT eS := h.below ⟨rfl, rfl, rfl, Nat.le_refl _, fun _ _ => rfl⟩
theorem NW.fin {w wx : World} {gp : Nat} {eT eS : Value} (h : NW w wx gp eT eS) (x y : Value) : Below w.heap.size w ((wx.setCell ⟨gp, 0, none⟩ x).setCell ⟨gp, 1, none⟩ y) := by
  have hb := h.b
  have hg := h.g
  rw [← hg]
  exact (hb.setCell (p := ⟨gp, 0, none⟩) (Nat.le_refl _) x).setCell (p := ⟨gp, 1, none⟩) (Nat.le_refl _) y

set_option maxRecDepth 100000 in
theorem next_short (s : ByteArray) (tT tS : TypeId) (vT vS : Value) (w : World) (hT : w.cell? ⟨0, 0, none⟩ = some (.iface tT vT)) (hS : w.cell? ⟨3, 0, none⟩ = some (.iface tS vS)) (h : s.size < 12) :
    Calls Tryd.prog 47 #[.string s] w fun e w' => e = .returned (.tuple #[.agg #[.string ⟨#[]⟩, .string ⟨#[]⟩], .iface tT vT]) ∧ Below w.heap.size w w' := by
  obtain ⟨wx, hwx⟩ : ∃ q, q = w.alloc (.cells #[.string ⟨#[]⟩, .string ⟨#[]⟩] 70) := ⟨_, rfl⟩
  have HN := NW.start w (.iface tT vT) (.iface tS vS) hT hS
  have HN0 := hide HN
  clear HN hT hS hwx wx
  have d1 : decide ((s.size : Int) < 12) = true := decide_eq_true (by omega)
  go_enter Tryd.func47, Tryd.ntmps47
  go_wp2
  generalize w.alloc (.cells #[.string ⟨#[]⟩, .string ⟨#[]⟩] 70) = wx at *
  obtain ⟨gp, hgp⟩ : ∃ q, q = w.heap.size := ⟨_, rfl⟩
  rw [← hgp] at HN0
  rw [← hgp]
  have Hgp := hide hgp
  clear hgp
  have HN := HN0
  have f0 := (unhide HN).f0
  have f1 := (unhide HN).f1
  have f2 := (unhide HN).f2
  have f3 := (unhide HN).f3
  have ft := (unhide HN).t
  have hne : 0 ≠ gp := Nat.ne_of_lt (unhide HN).lt
  have HF := hide ((unhide HN).fin (.string ⟨#[]⟩) (.string ⟨#[]⟩)).drew
  go_wp2
  go_region
  all_goals
    go_wp2
    refine bodyPost_ret (v := .tuple #[.agg #[.string ⟨#[]⟩, .string ⟨#[]⟩], .iface tT vT]) ?_ rfl ⟨rfl, unhide HF⟩
    rw [results_ct (u := 3) (p := 2) (ty := 70) (by kernel_rfl)]
    go_simp

set_option maxRecDepth 100000 in
theorem next_long (s : ByteArray) (tT tS : TypeId) (vT vS : Value) (w : World) (hT : w.cell? ⟨0, 0, none⟩ = some (.iface tT vT)) (hS : w.cell? ⟨3, 0, none⟩ = some (.iface tS vS)) (h : 12 ≤ s.size) (hs : s.size ≤ 300000) (hn : s.size - 12 < Ck.n4 s.data.toList) :
    Calls Tryd.prog 47 #[.string s] w fun e w' => e = .returned (.tuple #[.agg #[.string ⟨#[]⟩, .string ⟨#[]⟩], .iface tT vT]) ∧ Below w.heap.size w w' := by
  obtain ⟨wx, hwx⟩ : ∃ q, q = w.alloc (.cells #[.string ⟨#[]⟩, .string ⟨#[]⟩] 70) := ⟨_, rfl⟩
  have HN := NW.start w (.iface tT vT) (.iface tS vS) hT hS
  have HN0 := hide HN
  clear HN hT hS hwx wx
  have d1 : decide ((s.size : Int) < 12) = false := decide_eq_false (by omega)
  have HX := hide (fun w => number_any s w (by omega))
  have hn4 := Ck.n4_lt s.data.toList
  obtain ⟨n, hne⟩ : ∃ n, n = Ck.n4 s.data.toList := ⟨_, rfl⟩
  rw [← hne] at HX hn4 hn
  obtain ⟨r, hr⟩ : ∃ r, r = s.size - 12 := ⟨_, rfl⟩
  have zr : (s.size : Int) - 12 = (r : Int) := by omega
  have hr3 : r ≤ 300000 := by omega
  have d2 : decide ((n : Int) > (r : Int)) = true := decide_eq_true (by omega)
  have d2' : decide ((r : Int) < (n : Int)) = true := d2
  have d2n : decide (r < n) = true := decide_eq_true (by omega)
  clear hne hn hr
  go_enter Tryd.func47, Tryd.ntmps47
  go_wp2_with fail
  refine (unhide HX _).mono ?_; rintro e w1 ⟨rfl, nn, rfl⟩
  generalize w.alloc (.cells #[.string ⟨#[]⟩, .string ⟨#[]⟩] 70) = wx at *
  obtain ⟨gp, hgp⟩ : ∃ q, q = w.heap.size := ⟨_, rfl⟩
  rw [← hgp] at HN0
  rw [← hgp]
  have Hgp := hide hgp
  clear hgp
  have HN := hide ((unhide HN0).drewN nn)
  clear HN0
  generalize wx.drewN nn = wy at *
  clear HX
  have f0 := (unhide HN).f0
  have f1 := (unhide HN).f1
  have f2 := (unhide HN).f2
  have f3 := (unhide HN).f3
  have ft := (unhide HN).t
  have hne : 0 ≠ gp := Nat.ne_of_lt (unhide HN).lt
  have HF := hide ((unhide HN).fin (.string ⟨#[]⟩) (.string ⟨#[]⟩)).drew
  go_wp2
  go_region
  all_goals
    go_wp2
    refine bodyPost_ret (v := .tuple #[.agg #[.string ⟨#[]⟩, .string ⟨#[]⟩], .iface tT vT]) ?_ rfl ⟨rfl, unhide HF⟩
    rw [results_ct (u := 3) (p := 2) (ty := 70) (by kernel_rfl)]
    go_simp

set_option maxRecDepth 100000 in
set_option maxHeartbeats 1000000 in
theorem next_kind (s : ByteArray) (tT tS : TypeId) (vT vS : Value) (w : World) (hT : w.cell? ⟨0, 0, none⟩ = some (.iface tT vT)) (hS : w.cell? ⟨3, 0, none⟩ = some (.iface tS vS)) (h : 12 ≤ s.size) (hs : s.size ≤ 300000) (hn : Ck.n4 s.data.toList ≤ s.size - 12) (hk : ¬ Ck.Kind (s.extract 4 8).data.toList) :
    Calls Tryd.prog 47 #[.string s] w fun e w' => e = .returned (.tuple #[.agg #[.string ⟨#[]⟩, .string ⟨#[]⟩], .iface tT vT]) ∧ Below w.heap.size w w' := by
  obtain ⟨wx, hwx⟩ : ∃ q, q = w.alloc (.cells #[.string ⟨#[]⟩, .string ⟨#[]⟩] 70) := ⟨_, rfl⟩
  have HN := NW.start w (.iface tT vT) (.iface tS vS) hT hS
  have HN0 := hide HN
  clear HN hT hS hwx wx
  have d1 : decide ((s.size : Int) < 12) = false := decide_eq_false (by omega)
  have HX := hide (fun w => number_any s w (by omega))
  have hn4 := Ck.n4_lt s.data.toList
  obtain ⟨n, hne⟩ : ∃ n, n = Ck.n4 s.data.toList := ⟨_, rfl⟩
  rw [← hne] at HX hn4 hn
  obtain ⟨r, hr⟩ : ∃ r, r = s.size - 12 := ⟨_, rfl⟩
  have zr : (s.size : Int) - 12 = (r : Int) := by omega
  have hr3 : r ≤ 300000 := by omega
  have d2 : decide ((n : Int) > (r : Int)) = false := decide_eq_false (by omega)
  have d2' : decide ((r : Int) < (n : Int)) = false := d2
  have d2n : decide (r < n) = false := decide_eq_false (by omega)
  obtain ⟨m, hm⟩ : ∃ m, m = 8 + n := ⟨_, rfl⟩
  have zm : (8 : Int) + (n : Int) = (m : Int) := by omega
  have hm3 : m + 4 ≤ s.size := by omega
  have hmi : (m : Int) ≤ (s.size : Int) := by omega
  have h8m : (8 : Int) ≤ (m : Int) := by omega
  have h4m : (4 : Int) ≤ (m : Int) := by omega
  have h8n : 8 ≤ m := by omega
  have h4n : 4 ≤ m := by omega
  have h8i : (8 : Int) ≤ (s.size : Int) := by omega
  have h8s : 8 ≤ s.size := by omega
  have hms : m ≤ s.size := by omega
  obtain ⟨kb, hkb⟩ : ∃ kb, kb = s.extract 4 8 := ⟨_, rfl⟩
  obtain ⟨db, hdb⟩ : ∃ db, db = s.extract 8 m := ⟨_, rfl⟩
  have ek : s.extract 4 8 = kb := hkb.symm
  have ed : s.extract 8 m = db := hdb.symm
  have HK := hide hkb
  have HD := hide hdb
  have Hm := hide hm
  rw [ek] at hk
  have dk : decide (Ck.Kind kb.data.toList) = false := decide_eq_false hk
  clear hne hn hr hkb hdb hm hk
  go_enter Tryd.func47, Tryd.ntmps47
  go_wp2_with fail
  refine (unhide HX _).mono ?_; rintro e w1 ⟨rfl, nn, rfl⟩
  generalize w.alloc (.cells #[.string ⟨#[]⟩, .string ⟨#[]⟩] 70) = wx at *
  obtain ⟨gp, hgp⟩ : ∃ q, q = w.heap.size := ⟨_, rfl⟩
  rw [← hgp] at HN0
  rw [← hgp]
  have Hgp := hide hgp
  clear hgp
  have HN := hide ((unhide HN0).drewN nn)
  clear HN0
  generalize wx.drewN nn = wy at *
  go_wp2_with fail
  refine (unhide HX wy).mono ?_; rintro e w1 ⟨rfl, n2, rfl⟩
  have HN2 := hide ((unhide HN).drewN n2)
  clear HN HX
  generalize wy.drewN n2 = wz at *
  go_wp2
  go_quiet (fail)
  have HN3 := hide ((unhide HN2).drewN nq)
  clear HN2
  generalize wz.drewN nq = wa at *
  go_wp2_with fail
  refine (isKind_any kb wa).mono ?_; rintro e w1 ⟨rfl, rfl⟩
  rw [dk]
  have HN := HN3
  have f0 := (unhide HN).f0
  have f1 := (unhide HN).f1
  have f2 := (unhide HN).f2
  have f3 := (unhide HN).f3
  have ft := (unhide HN).t
  have hne : 0 ≠ gp := Nat.ne_of_lt (unhide HN).lt
  have HF := hide ((unhide HN).fin (.string ⟨#[]⟩) (.string ⟨#[]⟩)).drew
  go_wp2
  go_region
  all_goals
    go_wp2
    refine bodyPost_ret (v := .tuple #[.agg #[.string ⟨#[]⟩, .string ⟨#[]⟩], .iface tT vT]) ?_ rfl ⟨rfl, unhide HF⟩
    rw [results_ct (u := 3) (p := 2) (ty := 70) (by kernel_rfl)]
    go_simp

set_option maxRecDepth 100000 in
set_option maxHeartbeats 1000000 in
theorem next_sum (s : ByteArray) (tT tS : TypeId) (vT vS : Value) (w : World) (hT : w.cell? ⟨0, 0, none⟩ = some (.iface tT vT)) (hS : w.cell? ⟨3, 0, none⟩ = some (.iface tS vS)) (h : 12 ≤ s.size) (hs : s.size ≤ 300000) (hn : Ck.n4 s.data.toList ≤ s.size - 12) (hk : Ck.Kind (s.extract 4 8).data.toList) (hsum : Ck.n4 (s.extract (8 + Ck.n4 s.data.toList) s.size).data.toList ≠ crcOf (s.extract 4 (8 + Ck.n4 s.data.toList)).data.toList) :
    Calls Tryd.prog 47 #[.string s] w fun e w' => e = .returned (.tuple #[.agg #[.string ⟨#[]⟩, .string ⟨#[]⟩], .iface tS vS]) ∧ Below w.heap.size w w' := by
  obtain ⟨wx, hwx⟩ : ∃ q, q = w.alloc (.cells #[.string ⟨#[]⟩, .string ⟨#[]⟩] 70) := ⟨_, rfl⟩
  have HN := NW.start w (.iface tT vT) (.iface tS vS) hT hS
  have HN0 := hide HN
  clear HN hT hS hwx wx
  have d1 : decide ((s.size : Int) < 12) = false := decide_eq_false (by omega)
  have HX := hide (fun w => number_any s w (by omega))
  have hn4 := Ck.n4_lt s.data.toList
  obtain ⟨n, hne⟩ : ∃ n, n = Ck.n4 s.data.toList := ⟨_, rfl⟩
  rw [← hne] at HX hn4 hn hsum
  obtain ⟨r, hr⟩ : ∃ r, r = s.size - 12 := ⟨_, rfl⟩
  have zr : (s.size : Int) - 12 = (r : Int) := by omega
  have hr3 : r ≤ 300000 := by omega
  have d2 : decide ((n : Int) > (r : Int)) = false := decide_eq_false (by omega)
  have d2' : decide ((r : Int) < (n : Int)) = false := d2
  have d2n : decide (r < n) = false := decide_eq_false (by omega)
  obtain ⟨m, hm⟩ : ∃ m, m = 8 + n := ⟨_, rfl⟩
  have zm : (8 : Int) + (n : Int) = (m : Int) := by omega
  have hm3 : m + 4 ≤ s.size := by omega
  have hmi : (m : Int) ≤ (s.size : Int) := by omega
  have h8m : (8 : Int) ≤ (m : Int) := by omega
  have h4m : (4 : Int) ≤ (m : Int) := by omega
  have h8n : 8 ≤ m := by omega
  have h4n : 4 ≤ m := by omega
  have h8i : (8 : Int) ≤ (s.size : Int) := by omega
  have h8s : 8 ≤ s.size := by omega
  have hms : m ≤ s.size := by omega
  obtain ⟨kb, hkb⟩ : ∃ kb, kb = s.extract 4 8 := ⟨_, rfl⟩
  obtain ⟨db, hdb⟩ : ∃ db, db = s.extract 8 m := ⟨_, rfl⟩
  have ek : s.extract 4 8 = kb := hkb.symm
  have ed : s.extract 8 m = db := hdb.symm
  have HK := hide hkb
  have HD := hide hdb
  have Hm := hide hm
  rw [ek] at hk
  rw [← hm] at hsum
  have dk : decide (Ck.Kind kb.data.toList) = true := decide_eq_true hk
  have HSU := hide hsum
  clear hne hn hr hkb hdb hm hk hsum
  go_enter Tryd.func47, Tryd.ntmps47
  go_wp2_with fail
  refine (unhide HX _).mono ?_; rintro e w1 ⟨rfl, nn, rfl⟩
  generalize w.alloc (.cells #[.string ⟨#[]⟩, .string ⟨#[]⟩] 70) = wx at *
  obtain ⟨gp, hgp⟩ : ∃ q, q = w.heap.size := ⟨_, rfl⟩
  rw [← hgp] at HN0
  rw [← hgp]
  have Hgp := hide hgp
  clear hgp
  have HN := hide ((unhide HN0).drewN nn)
  clear HN0
  generalize wx.drewN nn = wy at *
  go_wp2_with fail
  refine (unhide HX wy).mono ?_; rintro e w1 ⟨rfl, n2, rfl⟩
  have HN2 := hide ((unhide HN).drewN n2)
  clear HN HX
  generalize wy.drewN n2 = wz at *
  go_wp2
  go_quiet (fail)
  have HN3 := hide ((unhide HN2).drewN nq)
  clear HN2
  generalize wz.drewN nq = wa at *
  go_wp2_with fail
  refine (isKind_any kb wa).mono ?_; rintro e w1 ⟨rfl, rfl⟩
  rw [dk]
  obtain ⟨sb, hsb⟩ : ∃ sb, sb = s.extract m s.size := ⟨_, rfl⟩
  obtain ⟨cb, hcb⟩ : ∃ cb, cb = s.extract 4 m := ⟨_, rfl⟩
  have es : s.extract m s.size = sb := hsb.symm
  have ec : s.extract 4 m = cb := hcb.symm
  have HS1 : Hid (∀ w, Calls Tryd.prog 61 #[.string sb] w fun e w' => e = .returned (.int .u32 (Ck.n4 sb.data.toList : Nat)) ∧ Below w.heap.size w w') := fun w => (number_any sb w (by rw [hsb]; simp; omega)).mono (by
    rintro e w' ⟨rfl, n, rfl⟩
    exact ⟨rfl, rfl, rfl, rfl, Nat.le_refl _, fun _ _ => rfl⟩)
  have HC1 := hide (fun w => crc_any cb w (by rw [hcb]; unfold maxLen; simp; omega))
  have hq : Ck.n4 sb.data.toList ≠ crcOf cb.data.toList := by rw [hsb, hcb]; exact unhide HSU
  clear hsb hcb
  generalize Ck.n4 sb.data.toList = sn at *
  generalize crcOf cb.data.toList = cn at *
  have d5 : ((sn : Int) == (cn : Int)) = false := by rw [beq_eq_false_iff_ne]; omega
  have d6 : ((sn : Int) != (cn : Int)) = true := by simp; omega
  go_wp2_with fail
  haveI : Nonempty (BelowOf w1.heap.size w1) := ⟨⟨w1, Below.refl _ _⟩⟩
  refine region_below w1.heap.size w1 (Below.refl _ _) (by kernel_rfl) ?_
  quiet_step (fail)
  quiet_step (fail)
  quiet_step (fail)
  quiet_step ((go_at_call 61; exact Calls.below_of (Nat.le_refl _) (unhide HS1 _)))
  quiet_step (fail)
  quiet_step (fail)
  quiet_step (fail)
  quiet_step ((go_at_call 59; exact Calls.below_of (Nat.le_refl _) (unhide HC1 _)))
  quiet_step (fail)
  refine wpQuiet_nil ?_
  intro wb hw'
  obtain ⟨pw, hpw⟩ := hw'
  have hwb := pw.prf
  rw [← hpw] at hwb
  clear hpw
  have HN := hide ((unhide HN3).below hwb)
  clear HS1 HC1 HN3 hwb
  have f0 := (unhide HN).f0
  have f1 := (unhide HN).f1
  have f2 := (unhide HN).f2
  have f3 := (unhide HN).f3
  have ft := (unhide HN).s
  have hne : 3 ≠ gp := Nat.ne_of_lt (unhide HN).ls
  have HF := hide ((unhide HN).fin (.string ⟨#[]⟩) (.string ⟨#[]⟩)).drew
  go_wp2
  go_region
  all_goals
    go_wp2
    refine bodyPost_ret (v := .tuple #[.agg #[.string ⟨#[]⟩, .string ⟨#[]⟩], .iface tS vS]) ?_ rfl ⟨rfl, unhide HF⟩
    rw [results_ct (u := 3) (p := 2) (ty := 70) (by kernel_rfl)]
    go_simp

set_option maxRecDepth 100000 in
set_option maxHeartbeats 1000000 in
theorem next_ok (s : ByteArray) (tT tS : TypeId) (vT vS : Value) (w : World) (hT : w.cell? ⟨0, 0, none⟩ = some (.iface tT vT)) (hS : w.cell? ⟨3, 0, none⟩ = some (.iface tS vS)) (h : 12 ≤ s.size) (hs : s.size ≤ 300000) (hn : Ck.n4 s.data.toList ≤ s.size - 12) (hk : Ck.Kind (s.extract 4 8).data.toList) (hsum : Ck.n4 (s.extract (8 + Ck.n4 s.data.toList) s.size).data.toList = crcOf (s.extract 4 (8 + Ck.n4 s.data.toList)).data.toList) :
    Calls Tryd.prog 47 #[.string s] w fun e w' => e = .returned (.tuple #[.agg #[.string (s.extract 4 8), .string (s.extract 8 (8 + Ck.n4 s.data.toList))], .nilIface]) ∧ Below w.heap.size w w' := by
  obtain ⟨wx, hwx⟩ : ∃ q, q = w.alloc (.cells #[.string ⟨#[]⟩, .string ⟨#[]⟩] 70) := ⟨_, rfl⟩
  have HN := NW.start w (.iface tT vT) (.iface tS vS) hT hS
  have HN0 := hide HN
  clear HN hT hS hwx wx
  have d1 : decide ((s.size : Int) < 12) = false := decide_eq_false (by omega)
  have HX := hide (fun w => number_any s w (by omega))
  have hn4 := Ck.n4_lt s.data.toList
  obtain ⟨n, hne⟩ : ∃ n, n = Ck.n4 s.data.toList := ⟨_, rfl⟩
  rw [← hne] at HX hn4 hn hsum ⊢
  obtain ⟨r, hr⟩ : ∃ r, r = s.size - 12 := ⟨_, rfl⟩
  have zr : (s.size : Int) - 12 = (r : Int) := by omega
  have hr3 : r ≤ 300000 := by omega
  have d2 : decide ((n : Int) > (r : Int)) = false := decide_eq_false (by omega)
  have d2' : decide ((r : Int) < (n : Int)) = false := d2
  have d2n : decide (r < n) = false := decide_eq_false (by omega)
  obtain ⟨m, hm⟩ : ∃ m, m = 8 + n := ⟨_, rfl⟩
  have zm : (8 : Int) + (n : Int) = (m : Int) := by omega
  have hm3 : m + 4 ≤ s.size := by omega
  have hmi : (m : Int) ≤ (s.size : Int) := by omega
  have h8m : (8 : Int) ≤ (m : Int) := by omega
  have h4m : (4 : Int) ≤ (m : Int) := by omega
  have h8n : 8 ≤ m := by omega
  have h4n : 4 ≤ m := by omega
  have h8i : (8 : Int) ≤ (s.size : Int) := by omega
  have h8s : 8 ≤ s.size := by omega
  have hms : m ≤ s.size := by omega
  obtain ⟨kb, hkb⟩ : ∃ kb, kb = s.extract 4 8 := ⟨_, rfl⟩
  obtain ⟨db, hdb⟩ : ∃ db, db = s.extract 8 m := ⟨_, rfl⟩
  have ek : s.extract 4 8 = kb := hkb.symm
  have ed : s.extract 8 m = db := hdb.symm
  have HK := hide hkb
  have HD := hide hdb
  have Hm := hide hm
  rw [← hm, ek, ed]
  rw [ek] at hk
  rw [← hm] at hsum
  have dk : decide (Ck.Kind kb.data.toList) = true := decide_eq_true hk
  have HSU := hide hsum
  have hkz : kb.size ≤ 1000000 := by rw [hkb]; simp; omega
  have hdz : db.size ≤ 1000000 := by rw [hdb]; simp; omega
  clear hne hn hr hkb hdb hm hk hsum
  go_enter Tryd.func47, Tryd.ntmps47
  go_wp2_with fail
  refine (unhide HX _).mono ?_; rintro e w1 ⟨rfl, nn, rfl⟩
  generalize w.alloc (.cells #[.string ⟨#[]⟩, .string ⟨#[]⟩] 70) = wx at *
  obtain ⟨gp, hgp⟩ : ∃ q, q = w.heap.size := ⟨_, rfl⟩
  rw [← hgp] at HN0
  rw [← hgp]
  have Hgp := hide hgp
  clear hgp
  have HN := hide ((unhide HN0).drewN nn)
  clear HN0
  generalize wx.drewN nn = wy at *
  go_wp2_with fail
  refine (unhide HX wy).mono ?_; rintro e w1 ⟨rfl, n2, rfl⟩
  have HN2 := hide ((unhide HN).drewN n2)
  clear HN HX
  generalize wy.drewN n2 = wz at *
  go_wp2
  go_quiet (fail)
  have HN3 := hide ((unhide HN2).drewN nq)
  clear HN2
  generalize wz.drewN nq = wa at *
  go_wp2_with fail
  refine (isKind_any kb wa).mono ?_; rintro e w1 ⟨rfl, rfl⟩
  rw [dk]
  obtain ⟨sb, hsb⟩ : ∃ sb, sb = s.extract m s.size := ⟨_, rfl⟩
  obtain ⟨cb, hcb⟩ : ∃ cb, cb = s.extract 4 m := ⟨_, rfl⟩
  have es : s.extract m s.size = sb := hsb.symm
  have ec : s.extract 4 m = cb := hcb.symm
  have HS1 : Hid (∀ w, Calls Tryd.prog 61 #[.string sb] w fun e w' => e = .returned (.int .u32 (Ck.n4 sb.data.toList : Nat)) ∧ Below w.heap.size w w') := fun w => (number_any sb w (by rw [hsb]; simp; omega)).mono (by
    rintro e w' ⟨rfl, n, rfl⟩
    exact ⟨rfl, rfl, rfl, rfl, Nat.le_refl _, fun _ _ => rfl⟩)
  have HC1 := hide (fun w => crc_any cb w (by rw [hcb]; unfold maxLen; simp; omega))
  have hq : Ck.n4 sb.data.toList = crcOf cb.data.toList := by rw [hsb, hcb]; exact unhide HSU
  clear hsb hcb
  generalize Ck.n4 sb.data.toList = sn at *
  generalize crcOf cb.data.toList = cn at *
  subst hq
  have d5 : ((sn : Int) == (sn : Int)) = true := by simp
  have d6 : ((sn : Int) != (sn : Int)) = false := by simp
  go_wp2_with fail
  haveI : Nonempty (BelowOf w1.heap.size w1) := ⟨⟨w1, Below.refl _ _⟩⟩
  refine region_below w1.heap.size w1 (Below.refl _ _) (by kernel_rfl) ?_
  quiet_step (fail)
  quiet_step (fail)
  quiet_step (fail)
  quiet_step ((go_at_call 61; exact Calls.below_of (Nat.le_refl _) (unhide HS1 _)))
  quiet_step (fail)
  quiet_step (fail)
  quiet_step (fail)
  quiet_step ((go_at_call 59; exact Calls.below_of (Nat.le_refl _) (unhide HC1 _)))
  quiet_step (fail)
  refine wpQuiet_nil ?_
  intro wb hw'
  obtain ⟨pw, hpw⟩ := hw'
  have hwb := pw.prf
  rw [← hpw] at hwb
  clear hpw
  have HN := hide ((unhide HN3).below hwb)
  clear HS1 HC1 HN3 hwb
  go_wp2_with fail
  refine (clone_any kb wb hkz).mono ?_; rintro e w1 ⟨rfl, hb1⟩
  have HN4 := hide ((unhide HN).below hb1)
  clear HN hb1
  go_wp2_with fail
  refine (clone_any db w1 hdz).mono ?_; rintro e w2 ⟨rfl, hb2⟩
  have HN := hide ((unhide HN4).below hb2)
  clear HN4 hb2
  have f0 := (unhide HN).f0
  have f1 := (unhide HN).f1
  have f2 := (unhide HN).f2
  have f3 := (unhide HN).f3
  have HF := hide ((unhide HN).fin (.string kb) (.string db))
  go_wp2
  refine bodyPost_ret (v := .tuple #[.agg #[.string kb, .string db], .nilIface]) ?_ rfl ⟨rfl, unhide HF⟩
  rw [results_ct (u := 3) (p := 2) (ty := 70) (by kernel_rfl)]
  go_simp
end Go.Proofs.YtlnglpphlcebdafDoor
