/- Walks: back from rows, any; the document's rows, and back. -/
import Derived.Test.YtmmilamaahmaoafDoorFj
import Derived.Test.YtmmilamaahmaoafDoorFh
namespace Go.Proofs.YtmmilamaahmaoafDoor
open Go.RowKit

set_option maxHeartbeats 1000000 in
theorem Back_bad (s : ByteArray) (z st : Int) (tB tS : TypeId) (vB vS : Value) (w : World) (hB : w.cell? ⟨1, 0, none⟩ = some (.iface tB vB)) (hS : w.cell? ⟨2, 0, none⟩ = some (.iface tS vS)) (hn : chkR s z st 1 ≠ .fine) :
    Calls Tryd.prog 9 #[.string s, .int .i64 z, .int .i64 st] w fun e w' => e = .returned (doV (.iface tB vB) (.iface tS vS) [] (chkR s z st 1)) ∧ w' = w := by
  have HC := hide (checkRows_any s z st 1 (by omega) _ _ w hB hS)
  clear hB hS
  cases hk : chkR s z st 1 with
  | bound =>
    rw [hk] at HC
    unfold chkV at HC
    unfold doV
    dsimp only at *
    clear hk hn
    go_enter Tryd.func9, Tryd.ntmps9
    go_wp2_with fail
    refine (unhide HC).mono ?_; rintro e w1 ⟨rfl, rfl⟩
    go_wp2
    go_ret2
    exact ⟨rfl, rfl⟩
  | shape =>
    rw [hk] at HC
    unfold chkV at HC
    unfold doV
    dsimp only at *
    clear hk hn
    go_enter Tryd.func9, Tryd.ntmps9
    go_wp2_with fail
    refine (unhide HC).mono ?_; rintro e w1 ⟨rfl, rfl⟩
    go_wp2
    go_ret2
    exact ⟨rfl, rfl⟩
  | fine => exact absurd hk hn

theorem prv_len {S : List UInt8} {wd i : Nat} (h : i * wd ≤ S.length) : (Fil.prv S wd i).length ≤ wd := by
  cases i with
  | zero => rw [Fil.prv_zero]; simp
  | succ m => rw [Fil.prv_succ, Fil.part_length S wd m h]; omega

set_option maxHeartbeats 4000000 in
set_option maxRecDepth 100000 in
theorem rowsOf_any (s : ByteArray) (wd t c : Nat) (w : World) (hw : 1 ≤ wd) (hw3 : wd ≤ 300000) (ht : t ≤ 8) (hs : s.size ≤ 300000) (hc : c * wd = s.size) :
    Calls Tryd.prog 11 #[.string s, .int .i64 (wd : Int), .int .i64 (t : Int)] w fun e w' => e = .returned (.string (tx (Fil.rows s.data.toList wd t c))) ∧ Below w.heap.size w w' := by
  have hrs : s.data.toList.length = s.size := by simp
  obtain ⟨S, hSd⟩ : ∃ S, S = s.data.toList := ⟨_, rfl⟩
  rw [← hSd] at hrs ⊢
  have Hc := hide hc
  have HSd := hide hSd
  have hcs : c ≤ 300000 := by
    have := Nat.le_mul_of_pos_right c (show 0 < wd by omega)
    omega
  clear hc hSd
  go_enter Tryd.func11, Tryd.ntmps11
  go_wp2
  go_loopw [7, 8, 9] (fun ov av iv wr => ∃ (i p : Nat) (ah : ByteArray), i ≤ c ∧ Hid (p = i * wd) ∧ iv = .int .i64 (p : Int) ∧ ov = .string (tx (Fil.rows S wd t i)) ∧ av = .string ah ∧ Hid (ah.data.toList = Fil.prv S wd i) ∧ Hid (Below w.heap.size w wr)) (fun _ _ iv _ => s.size - (intOf iv).toNat)
  case atStart => exact ⟨0, 0, ⟨#[]⟩, by omega, by show 0 = _; omega, rfl, rfl, rfl, by show _ = _; rw [Fil.prv_zero], Below.refl _ _⟩
  case round =>
    obtain ⟨i, p, ah, hic, Hp, rfl, rfl, rfl, Hah, HB⟩ := hrel
    by_cases hlt : i < c
    · have hpw : p + wd ≤ s.size := by
        rw [unhide Hp, ← unhide Hc]
        have := Nat.mul_le_mul_right wd hlt
        rw [Nat.succ_mul] at this
        exact this
      have d1 : decide ((p : Int) + (wd : Int) ≤ (s.size : Int)) = true := by simp; omega
      have d1' : decide (p + wd ≤ s.size) = true := by simp; omega
      have hpq1 : (p : Int) ≤ (p : Int) + (wd : Int) := by omega
      have hpq2 : (p : Int) + (wd : Int) ≤ (s.size : Int) := by omega
      obtain ⟨u, hu⟩ : ∃ u, u = s.extract p (p + wd) := ⟨_, rfl⟩
      have hul : u.data.toList = Fil.part S wd i := by rw [hu, betweenF, ← unhide HSd, unhide Hp]; rfl
      have hpl := Fil.part_length S wd i (by rw [hrs, Nat.add_mul, Nat.one_mul, ← unhide Hp]; exact hpw)
      have hus : u.size = wd := by
        have : u.data.toList.length = u.size := by simp
        rw [← this, hul, hpl]
      have hue : s.extract p (p + wd) = u := hu.symm
      have HBO := hide (fun w => bestOf_any t u ah w ht (by omega))
      rw [hul, unhide Hah] at HBO
      have hbl := Fil.best_le (Fil.part S wd i) (Fil.prv S wd i) t
      have HRO := hide (fun k (hk : k ≤ 4) w => rowOf_any k t u ah w hk ht (by omega))
      rw [hul, unhide Hah, hus] at HRO
      have HPC : Hid (Fil.rows S wd t (i + 1) = (Fil.rows S wd t i ++ [UInt8.ofNat (Fil.best (Fil.part S wd i) (Fil.prv S wd i) t)]) ++ Fil.row (Fil.best (Fil.part S wd i) (Fil.prv S wd i) t) (Fil.part S wd i) (Fil.prv S wd i) t wd) := by
        show _ = _
        rw [Fil.rows, Fil.piece, List.append_assoc]
        rfl
      have HR2 := hide (unhide HRO (Fil.best (Fil.part S wd i) (Fil.prv S wd i) t) hbl)
      have hRl := Fil.row_length (Fil.best (Fil.part S wd i) (Fil.prv S wd i) t) (Fil.part S wd i) (Fil.prv S wd i) t wd
      obtain ⟨k, hk⟩ : ∃ k, k = Fil.best (Fil.part S wd i) (Fil.prv S wd i) t := ⟨_, rfl⟩
      rw [← hk] at HBO hbl HPC HR2 hRl
      obtain ⟨R, hR⟩ : ∃ R, R = Fil.row k (Fil.part S wd i) (Fil.prv S wd i) t wd := ⟨_, rfl⟩
      rw [← hR] at HPC HR2 hRl
      have hOl := Fil.rows_length S wd t i
      have hOl2 : i * (wd + 1) ≤ 600000 := by rw [Nat.mul_add, Nat.mul_one, ← unhide Hp]; omega
      obtain ⟨O, hO⟩ : ∃ O, O = Fil.rows S wd t i := ⟨_, rfl⟩
      rw [← hO] at HPC hOl ⊢
      have hO1 : (tx O).size ≤ 600000 := by rw [tx_size]; omega
      have hR1 : (tx R).size ≤ 300000 := by rw [tx_size]; omega
      have HT1 := hide (tx_push O k)
      have hO2 : (tx (O ++ [UInt8.ofNat k])).size ≤ 600001 := by rw [tx_size, List.length_append]; simp; rw [tx_size] at hO1; omega
      have HT2 := hide (tx_append (O ++ [UInt8.ofNat k]) R)
      rw [← unhide HPC] at HT2
      have HAH : Hid (u.data.toList = Fil.prv S wd (i + 1)) := by show _ = _; rw [hul, Fil.prv_succ]
      have hT1 : tx O ++ ⟨#[UInt8.ofNat k]⟩ = tx (O ++ [UInt8.ofNat k]) := unhide HT1
      generalize tx (O ++ [UInt8.ofNat k]) = T2 at *
      generalize tx O = T1 at *
      generalize tx R = T3 at *
      have n1 : ¬ (9223372036854775807 < T2.size + T3.size) := by omega
      have n2 : ¬ (9223372036854775807 < T1.size + 1) := by omega
      clear hul hk hR hO hu HRO HPC hOl hOl2 hpl
      go_wp2_with fail
      refine (unhide HBO _).mono ?_; rintro e w1 ⟨rfl, hb1⟩
      have HB1 := hide ((unhide HB).trans (hb1.mono (unhide HB).size))
      clear hb1 HB HBO
      go_wp2_with fail
      refine (byte_any k _ (by omega)).mono ?_; rintro e w2 ⟨rfl, hb2⟩
      have HB2 := hide ((unhide HB1).trans (hb2.mono (unhide HB1).size))
      clear hb2 HB1
      go_wp2_with fail
      refine (unhide HR2 _).mono ?_; rintro e w3 ⟨rfl, hb3⟩
      have HB3 := hide ((unhide HB2).trans (hb3.mono (unhide HB2).size))
      clear hb3 HB2
      go_wp2
      go_roundw
      case rel => exact ⟨i + 1, p + wd, u, by omega, by show _ = _; rw [unhide Hp, Nat.add_mul, Nat.one_mul], by go_num, by rw [← unhide HT2], rfl, HAH, HB3⟩
      case measure => simp [intOf]; omega
    · obtain rfl : i = c := by omega
      have hps : p = s.size := by rw [unhide Hp, unhide Hc]
      subst hps
      have d1 : decide ((s.size : Int) + (wd : Int) ≤ (s.size : Int)) = false := by simp; omega
      have d1' : decide (s.size + wd ≤ s.size) = false := by simp; omega
      go_wp2
      go_ret
      exact ⟨rfl, unhide HB⟩

/-- What BackOf answers. -/
def BackO (T : List UInt8) (wd t c : Nat) (e : Ending) : Prop :=
  ((∀ j, j < c → Fil.kin T wd j ≤ 4) ∧ e = .returned (.tuple #[.string (tx (Fil.back T wd t c)), .int .i64 (-1)])) ∨
  (∃ i : Nat, i < c ∧ (∀ j, j < i → Fil.kin T wd j ≤ 4) ∧ 4 < Fil.kin T wd i ∧ e = .returned (.tuple #[.string ⟨#[]⟩, .int .i64 (i : Int)]))

set_option maxHeartbeats 4000000 in
set_option maxRecDepth 100000 in
theorem backOf_any (s : ByteArray) (wd t c : Nat) (w : World) (hw : 1 ≤ wd) (hw3 : wd ≤ 300000) (ht : t ≤ 8) (hs : s.size ≤ 300000) (hc : c * (wd + 1) = s.size) :
    Calls Tryd.prog 12 #[.string s, .int .i64 (wd : Int), .int .i64 (t : Int)] w fun e w' => BackO s.data.toList wd t c e ∧ Below w.heap.size w w' := by
  have hrs : s.data.toList.length = s.size := by simp
  obtain ⟨S, hSd⟩ : ∃ S, S = s.data.toList := ⟨_, rfl⟩
  rw [← hSd] at hrs ⊢
  have Hc := hide hc
  have HSd := hide hSd
  have hcs : c ≤ 300000 := by
    have := Nat.le_mul_of_pos_right c (show 0 < wd + 1 by omega)
    omega
  have entU : ∀ args w, (callFunc 24 args).run Tryd.prog w = .ok (.enter 24 args) w := enters_of Tryd.func24 (by kernel_rfl) rfl
  clear hc hSd
  go_enter Tryd.func12, Tryd.ntmps12
  go_wp2
  go_loopw [8, 9, 10] (fun ov av iv wr => ∃ (i : Nat) (ah : ByteArray), i ≤ c ∧ iv = .int .i64 (i : Int) ∧ ov = .string (tx (Fil.back S wd t i)) ∧ av = .string ah ∧ Hid (ah.data.toList = (Fil.back S wd t i).drop ((i - 1) * wd)) ∧ Hid (∀ j, j < i → Fil.kin S wd j ≤ 4) ∧ Hid (Below w.heap.size w wr)) (fun _ _ iv _ => c - (intOf iv).toNat)
  case atStart => exact ⟨0, ⟨#[]⟩, by omega, rfl, rfl, rfl, by show _ = _; simp [Fil.back], (fun j hj => by omega), Below.refl _ _⟩
  case round =>
    obtain ⟨i, ah, hic, rfl, rfl, rfl, Hah, HG, HB⟩ := hrel
    have hq : (i + 1) * (wd + 1) = i * (wd + 1) + (wd + 1) := by rw [Nat.add_mul i 1, Nat.one_mul]
    obtain ⟨p, hp⟩ : ∃ p, p = i * (wd + 1) := ⟨_, rfl⟩
    have zp : (i : Int) * ((wd : Int) + 1) = (p : Int) := by rw [hp]; exact (Int.natCast_mul _ _).symm
    have zq : ((i : Int) + 1) * ((wd : Int) + 1) = ((p + (wd + 1) : Nat) : Int) := by rw [hp, ← hq]; exact (Int.natCast_mul _ _).symm
    by_cases hlt : i < c
    · have hiw : p + (wd + 1) ≤ s.size := by
        rw [hp, ← hq, ← unhide Hc]
        exact Nat.mul_le_mul_right _ hlt
      have d1 : decide (((p + (wd + 1) : Nat) : Int) ≤ (s.size : Int)) = true := by simp; omega
      have d1' : decide (p + (wd + 1) ≤ s.size) = true := by simp; omega
      have d1'' : decide ((p : Int) + ((wd : Int) + 1) ≤ (s.size : Int)) = true := by simp; omega
      have hpl := Fil.part_length S (wd + 1) i (by rw [hq, hrs, ← hp]; exact hiw)
      obtain ⟨u, hu⟩ : ∃ u, u = s.extract p (p + (wd + 1)) := ⟨_, rfl⟩
      have hul : u.data.toList = Fil.part S (wd + 1) i := by rw [hu, betweenF, ← unhide HSd, hp]; rfl
      have hus : u.size = wd + 1 := by
        have : u.data.toList.length = u.size := by simp
        rw [← this, hul, hpl]
      have hu0 : 0 < u.size := by omega
      have hkn : Fil.kin S wd i = u[0].toNat := by
        unfold Fil.kin
        rw [← hul]
        exact toList_at u 0 hu0
      have hpq1 : (p : Int) ≤ ((p + (wd + 1) : Nat) : Int) := by omega
      have hpq2 : ((p + (wd + 1) : Nat) : Int) ≤ (s.size : Int) := by omega
      have hx := u[0].toNat_lt
      have Hkn := hide hkn
      have Hul := hide hul
      have hue : s.extract p (p + (wd + 1)) = u := hu.symm
      have Hp := hide hp
      have Hq := hide hq
      clear hul hkn hp hq hu
      by_cases hbad : 4 < u[0].toNat
      · have d2 : decide ((u[0].toNat : Int) > 4) = true := by simp; omega
        have d2' : decide ((4 : Int) < (u[0].toNat : Int)) = true := d2
        have HBD : Hid (4 < Fil.kin S wd i) := by show _ < _; rw [unhide Hkn]; exact hbad
        clear hbad
        go_wp2
        go_ret2
        exact ⟨.inr ⟨i, hlt, unhide HG, unhide HBD, rfl⟩, unhide HB⟩
      · have d2 : decide ((u[0].toNat : Int) > 4) = false := by simp; omega
        have d2' : decide ((4 : Int) < (u[0].toNat : Int)) = false := d2
        obtain ⟨y, hy⟩ : ∃ y, y = u.extract 1 u.size := ⟨_, rfl⟩
        have hyl : y.data.toList = (Fil.part S (wd + 1) i).drop 1 := by rw [hy, backF, unhide Hul]
        have hys : y.size = wd := by
          have : y.data.toList.length = y.size := by simp
          rw [← this, hyl, List.length_drop, hpl]
          omega
        have hye : u.extract 1 u.size = y := hy.symm
        have hye2 : u.extract 1 (wd + 1) = y := by rw [← hus]; exact hye
        have HUN := hide (fun w => unrowOf_any u[0].toNat t y ah w (by omega) ht (by omega))
        rw [hyl, unhide Hah, hys] at HUN
        have HNX : Hid (Fil.back S wd t (i + 1) = Fil.back S wd t i ++ Fil.un u[0].toNat ((Fil.part S (wd + 1) i).drop 1) ((Fil.back S wd t i).drop ((i - 1) * wd)) t wd) := by
          show _ = _
          rw [Fil.back, unhide Hkn]
        have HGN : Hid (∀ j, j < i + 1 → Fil.kin S wd j ≤ 4) := fun j hj => by
          rcases Nat.lt_or_ge j i with h | h
          · exact unhide HG j h
          · obtain rfl : j = i := by omega
            rw [unhide Hkn]; omega
        have hUl := Fil.un_length u[0].toNat ((Fil.part S (wd + 1) i).drop 1) ((Fil.back S wd t i).drop ((i - 1) * wd)) t wd
        have hBl := Fil.back_length S wd t i
        have hBl2 : i * wd ≤ 300000 := by
          have := unhide Hp
          rw [Nat.mul_add, Nat.mul_one] at this
          omega
        obtain ⟨Un, hUn⟩ : ∃ Un, Un = Fil.un u[0].toNat ((Fil.part S (wd + 1) i).drop 1) ((Fil.back S wd t i).drop ((i - 1) * wd)) t wd := ⟨_, rfl⟩
        rw [← hUn] at HUN HNX hUl
        have HAH : Hid (Un = (Fil.back S wd t (i + 1)).drop ((i + 1 - 1) * wd)) := by
          show _ = _
          rw [unhide HNX, Nat.add_sub_cancel, ← hBl, List.drop_left]
        obtain ⟨Bk, hBk⟩ : ∃ Bk, Bk = Fil.back S wd t i := ⟨_, rfl⟩
        rw [← hBk] at HNX hBl ⊢
        have HT := hide (tx_append Bk Un)
        rw [← unhide HNX] at HT
        have hs1 : (tx Bk).size ≤ 300000 := by rw [tx_size]; omega
        have hs2 : (tx Un).size ≤ 300000 := by rw [tx_size]; omega
        have HAU : Hid ((tx Un).data.toList = (Fil.back S wd t (i + 1)).drop ((i + 1 - 1) * wd)) := by show _ = _; rw [tx_list]; exact unhide HAH
        generalize tx Bk = T1 at *
        generalize tx Un = T2 at *
        have n1 : ¬ (9223372036854775807 < T1.size + T2.size) := by omega
        clear hy hyl hUn hBk hUl hBl hBl2 HNX HAH hbad hpl
        go_wp2_with fail
        rw [hue]
        clear hue zp zq hiw d1 d1' d1'' hpq1 hpq2 hye d2 d2' Hul Hp Hq Hkn hx Hah HG
        -- by hand
        have hwk : IntKind.i64.wrap (u[0].toNat : Int) = (u[0].toNat : Int) := by
          have := u[0].toNat_lt
          rw [IntKind.wrap_i64]; omega
        refine wp_region_held_drew (S := fun _ => True) (by kernel_rfl) trivial (fun hHeld => ?_)
        refine wpAnyH_take (i := 0) (v := .string u) rfl (by kernel_rfl) (by kernel_rfl) (by kernel_rfl) (fun _ _ _ h => h) (Or.inl ⟨by rfl, ?_⟩) hHeld ?_
        · intro w' hSw
          go_simp
        simp only [Act.put, List.setIfInBounds_toArray]
        refine wpAnyH_take (i := 1) (v := .int .u8 (u[0].toNat : Int)) rfl (by kernel_rfl) (by kernel_rfl) (by kernel_rfl) (fun _ _ _ h => h) (Or.inl ⟨by rfl, ?_⟩) hHeld ?_
        · intro w' hSw
          go_simp
        simp only [Act.put]
        refine wpAnyH_take (i := 2) (v := .int .i64 (u[0].toNat : Int)) rfl (by kernel_rfl) (by kernel_rfl) (by kernel_rfl) (fun _ _ _ h => h) (Or.inl ⟨by rfl, ?_⟩) hHeld ?_
        · intro w' hSw
          go_simp
        simp only [Act.put]
        refine wpAnyH_take (i := 3) (v := .string u) rfl (by kernel_rfl) (by kernel_rfl) (by kernel_rfl) (fun _ _ _ h => h) (Or.inl ⟨by rfl, ?_⟩) hHeld ?_
        · intro w' hSw
          go_simp
        simp only [Act.put]
        refine wpAnyH_take (i := 4) (v := .string y) rfl (by kernel_rfl) (by kernel_rfl) (by kernel_rfl) (fun _ _ _ h => h) (Or.inl ⟨by rfl, ?_⟩) hHeld ?_
        · intro w' hSw
          go_simp
          intro h
          omega
        simp only [Act.put]
        refine wpAnyH_take (i := 5) (v := .string ah) rfl (by kernel_rfl) (by kernel_rfl) (by kernel_rfl) (fun _ _ _ h => h) (Or.inl ⟨by rfl, ?_⟩) hHeld ?_
        · intro w' hSw
          go_simp
        simp only [Act.put]
        refine wpAnyH_take (i := 6) (v := .int .i64 (t : Int)) rfl (by kernel_rfl) (by kernel_rfl) (by kernel_rfl) (fun _ _ _ h => h) (Or.inl ⟨by rfl, ?_⟩) hHeld ?_
        · intro w' hSw
          go_simp
        simp only [Act.put]
        refine wpAnyH_ready (rs := [7]) (by kernel_rfl) (by simp) ?_
        refine AllReadyH.cons rfl (fun K hK => ?_) AllReadyH.nil
        refine step_calls rfl 24 [.tmp 39, .tmp 41, .tmp 42, .tmp 43] #[3, 9, 9, 3] rfl [.int .i64 (u[0].toNat : Int), .string y, .string ah, .int .i64 (t : Int)] (by simp [Act.eval]) entU ?_
        refine (unhide HUN wr.drew).mono ?_
        rintro e w1 ⟨rfl, hb1⟩
        refine .inl ⟨_, rfl, ?_⟩
        have HB1 := hide ((unhide HB).drew.trans (hb1.mono (unhide HB).size))
        refine hK.out _ _ trivial (fun hHeld => ?_)
        clear hK K hb1
        simp only [Act.put]
        refine wpAnyH_take (i := 8) (v := .string T2) rfl (by kernel_rfl) (by kernel_rfl) (by kernel_rfl) (fun _ _ _ h => h) (Or.inl ⟨by rfl, ?_⟩) hHeld ?_
        · intro w' hSw
          go_simp
        simp only [Act.put]
        refine wpAnyH_done (by kernel_rfl) ?_ _
        go_wp2
        go_roundw
        case rel => exact ⟨i + 1, T2, by omega, by go_num, by rw [← unhide HT], rfl, HAU, HGN, HB1⟩
        case measure => simp [intOf]; omega
        -- so far
    · obtain rfl : i = c := by omega
      have hps : p = s.size := by rw [hp, unhide Hc]
      have d1 : decide (((p + (wd + 1) : Nat) : Int) ≤ (s.size : Int)) = false := by simp; omega
      have d1' : decide (p + (wd + 1) ≤ s.size) = false := by simp; omega
      have d1'' : decide ((p : Int) + ((wd : Int) + 1) ≤ (s.size : Int)) = false := by simp; omega
      have hp3 : p ≤ 300000 := by omega
      clear hp hps hq
      go_wp2
      go_ret2
      exact ⟨.inl ⟨unhide HG, rfl⟩, unhide HB⟩
end Go.Proofs.YtmmilamaahmaoafDoor
