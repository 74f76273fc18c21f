/- Walk: back from rows: the program's. -/
import Derived.Test.YtmmilamaahmaoafDoorFi
import Derived.Room.AppendFits
namespace Go.Proofs.YtmmilamaahmaoafDoor
open Go.RowKit

theorem betweenF (t : ByteArray) (i k : Nat) : (t.extract i (i + k)).data.toList = (t.data.toList.drop i).take k := by
  simp [List.take_drop]
theorem backF (t : ByteArray) (k : Nat) : (t.extract k t.size).data.toList = t.data.toList.drop k := by
  have h : t.data.toList.length = t.size := by simp
  simp only [ByteArray.data_extract, Array.toList_extract, List.extract_eq_take_drop]
  rw [List.take_of_length_le]
  rw [List.length_drop]
  omega

/-- A row of a call's own, as two parts. -/
theorem own_lies {w : World} {base g n cap : Nat} {A B : List UInt8} (h : w.ownsRow base 5 1 (.slice (some ⟨g, 0, none⟩) n cap) n (byteVals (A ++ B))) :
    ∃ post, Lies w g A.length (byteVals A) B post (0, 0) ∧ base ≤ g ∧ n ≤ cap ∧ cap ≤ maxLen ∧ A.length + B.length = n ∧ n + post.length = cap := by
  have hl : (A ++ B).length = n := by have := h.1; simpa [byteVals] using this
  rcases h.2 with ⟨h', _⟩ | ⟨g', cap', cur, h', hb, hg, hnc, hcm, hcs, htake⟩
  · simp at h'
  · simp only [Value.slice.injEq, Option.some.injEq, Addr.mk.injEq, and_true, true_and] at h'
    obtain ⟨rfl, rfl⟩ := h'
    have hcs' : cur.toList.length = cap := by rw [Array.length_toList, hcs, Nat.mul_one]
    rw [Nat.mul_one] at htake
    refine ⟨cur.toList.drop n, ⟨⟨cur, hg, ?_⟩, byteVals_length A, fun j _ _ q => by omega⟩, hb, hnc, hcm, by rw [← List.length_append, hl], ?_⟩
    · rw [← byteVals_append, ← htake, List.take_append_drop]
    · rw [List.length_drop, hcs']; omega
theorem lies_own {w : World} {base g n cap o : Nat} {A B : List UInt8} {post : List Value} (h : Lies w g o (byteVals A) B post (0, 0)) (hb : base ≤ g) (hn : A.length + B.length = n) (hnc : n ≤ cap) (hcm : cap ≤ maxLen) (hp : n + post.length = cap) :
    w.ownsRow base 5 1 (.slice (some ⟨g, 0, none⟩) n cap) n (byteVals (A ++ B)) := by
  obtain ⟨cur, h1, h2⟩ := h.cur
  have hl := congrArg List.length h2
  rw [List.length_append, List.length_append, byteVals_length, byteVals_length, Array.length_toList] at hl
  refine ⟨by rw [byteVals_length, List.length_append]; omega, .inr ⟨g, cap, cur, rfl, hb, h1, hnc, hcm, by omega, ?_⟩⟩
  rw [h2, byteVals_append, List.take_append_of_le_length (by rw [List.length_append, byteVals_length, byteVals_length]; omega), List.take_of_length_le]
  rw [List.length_append, byteVals_length, byteVals_length]; omega
/-- What lies ahead of a row, by parts. -/
theorem Lies.pre {w : World} {g o : Nat} {A B : List UInt8} {post : List Value} {fr : Nat × Nat} (h : Lies w g o (byteVals A) B post fr) (k : Nat) : Byt w (some ⟨g, k, none⟩) (A.drop k) := fun j hj => by
  obtain ⟨cur, h1, h2⟩ := h.cur
  have hk : k + j < A.length := by rw [List.length_drop] at hj; omega
  refine ⟨g, k, rfl, ?_⟩
  rw [cell_in h1, h2, List.append_assoc, List.getElem?_append_left (by rw [byteVals_length]; exact hk), byteVals_at, List.getElem?_eq_getElem hk]
  simp [List.getElem_drop]

theorem strCells_is (s : ByteArray) : Lib.strCells s = byteVals s.data.toList := rfl

/-- What Back answers, told by the first row whose kind is none. -/
def BackR (xT : Value) (T : List UInt8) (wd t c : Nat) (e : Ending) (w' : World) : Prop :=
  ((∀ j, j < c → Fil.kin T wd j ≤ 4) ∧ e = .returned (.tuple #[.string (tx (Fil.back T wd t c)), .nilIface])) ∨
  (∃ i q, i < c ∧ (∀ j, j < i → Fil.kin T wd j ≤ 4) ∧ 4 < Fil.kin T wd i ∧ e = .returned (.tuple #[.string ⟨#[]⟩, .iface 44 (.pointer (some ⟨q, 0, none⟩))]) ∧ w'.cell? ⟨q, 0, none⟩ = some (.int .i64 (i : Int)) ∧ w'.cell? ⟨q, 1, none⟩ = some xT)

set_option maxHeartbeats 4000000 in
set_option maxRecDepth 100000 in
theorem Back_fine (s : ByteArray) (wd t : Nat) (xB xS : Value) (tT : TypeId) (vT : Value) (w : World) (hT : w.cell? ⟨0, 0, none⟩ = some (.iface tT vT)) (hB : w.cell? ⟨1, 0, none⟩ = some xB) (hS : w.cell? ⟨2, 0, none⟩ = some xS) (hk : chkR s (wd : Int) (t : Int) 1 = .fine) :
    Calls Tryd.prog 9 #[.string s, .int .i64 (wd : Int), .int .i64 (t : Int)] w fun e w' => BackR (.iface tT vT) s.data.toList wd t (s.size / (wd + 1)) e w' ∧ Below w.heap.size w w' := by
  have HC := hide (checkRows_any s (wd : Int) (t : Int) 1 (by omega) _ _ w hB hS)
  clear hB hS
  obtain ⟨⟨hz1, hz3⟩, ⟨hs1, hs8⟩, hsz, hmod⟩ := chkR_fine hk
  rw [hk] at HC
  unfold chkV at HC
  dsimp only at *
  simp only [Int.toNat_natCast] at hmod
  have hrs : s.data.toList.length = s.size := by simp
  obtain ⟨S, hSd⟩ : ∃ S, S = s.data.toList := ⟨_, rfl⟩
  rw [← hSd] at hrs ⊢
  obtain ⟨c, hc⟩ : ∃ c, c = s.size / (wd + 1) := ⟨_, rfl⟩
  have hcw : c * (wd + 1) = s.size := by
    have := Nat.div_add_mod s.size (wd + 1)
    rw [hmod, Nat.add_zero, Nat.mul_comm, ← hc] at this
    exact this
  have hcw2 : c * wd + c = s.size := by rw [← hcw, Nat.mul_add, Nat.mul_one]
  rw [← hc]
  have zc : (s.size : Int) / ((wd : Int) + 1) = (c : Int) := by rw [hc]; exact (Int.natCast_ediv _ _).symm
  have zct : (s.size : Int).tdiv ((wd : Int) + 1) = (c : Int) := by rw [Int.tdiv_eq_ediv_of_nonneg (by omega)]; exact zc
  have hw0 : ¬ ((wd : Int) + 1) = 0 := by omega
  obtain ⟨cap0, hcap0⟩ : ∃ q, q = c * wd := ⟨_, rfl⟩
  have zcap : (c : Int) * (wd : Int) = (cap0 : Int) := by rw [hcap0]; exact (Int.natCast_mul _ _).symm
  rw [← hcap0] at hcw2
  obtain ⟨i0, hi, hz0', hz1', hz2⟩ := info_parts info_u8
  have Hi := hide hi
  have Hz0 := hide hz0'
  have Hz1 := hide hz1'
  have Hz2 : Hid (i0.bytes * cap0 ≤ 281474976710656) := by show _ ≤ _; rw [hz2]; omega
  have hcap3 : cap0 ≤ 300000 := by omega
  have Hc := hide hc
  have Hcw := hide hcw
  have Hcap0 := hide hcap0
  have HSd := hide hSd
  have hgT : 0 < w.heap.size := World.block_lt_of_cell? _ _ hT
  have HT := hide hT
  clear hk hi hz0' hz1' hz2 hmod hc hcw hcap0 hSd hT
  go_enter Tryd.func9, Tryd.ntmps9
  go_wp2_with fail
  refine (unhide HC).mono ?_; rintro e w1 ⟨rfl, rfl⟩
  clear HC
  obtain ⟨g, hg⟩ : ∃ g, g = w1.heap.size := ⟨_, rfl⟩
  have Hg := hide hg
  clear hg
  go_wp2_with (at_make; refine wpList_make_own _ rfl (.const (.int .i64 0)) (.tmp 30) 38 rfl w1.heap.size 5 i0 (.int .u8 0) 1 Tryd.underlying38 (unhide Hi) (unhide Hz0) (unhide Hz1) .i64 .i64 (cap0 : Int) cap0 rfl rfl rfl (unhide Hz2) (by unfold maxLen; omega) (Nat.le_refl _) ?_)
  intro w3 hown3 hgr3
  have HB3 := hide ((Below.refl w1.heap.size w1).grown hgr3 (Nat.le_refl _) (fun k e => by cases e))
  have HO3 : Hid (w3.ownsRow w1.heap.size 5 1 (.slice (some ⟨w1.heap.size, 0, none⟩) 0 cap0) 0 (byteVals (Fil.back S wd t 0))) := hown3
  rw [← unhide Hg] at HB3 HO3 ⊢
  have hgT2 : 0 < g := by rw [unhide Hg]; exact hgT
  clear hown3 hgr3 hgT
  go_wp2
  go_loopw [10, 11, 33] (fun dv av iv wr => ∃ (i n al ac : Nat) (aa : Option Addr), i ≤ c ∧ iv = .int .i64 (i : Int) ∧ dv = .slice (some ⟨g, 0, none⟩) n cap0 ∧ Hid (n = i * wd) ∧ av = .slice aa al ac ∧ Hid (al = ((Fil.back S wd t i).drop ((i - 1) * wd)).length) ∧ Hid (wr.ownsRow g 5 1 (.slice (some ⟨g, 0, none⟩) n cap0) n (byteVals (Fil.back S wd t i))) ∧ Hid ((i = 0 ∧ aa = none) ∨ (0 < i ∧ aa = some ⟨g, (i - 1) * wd, none⟩)) ∧ Hid (∀ j, j < i → Fil.kin S wd j ≤ 4) ∧ Hid (Below g w1 wr)) (fun _ _ iv _ => c - (intOf iv).toNat)
  case atStart => exact ⟨0, 0, 0, 0, none, by omega, rfl, rfl, by show 0 = _; omega, rfl, (by show 0 = _; simp [Fil.back]), HO3, .inl ⟨rfl, rfl⟩, (fun j hj => by omega), HB3⟩
  case round =>
    clear HO3 HB3
    obtain ⟨i, n, al, ac, aa, hic, rfl, rfl, Hn, rfl, Hal, HO, HAa, HG, HB⟩ := hrel
    by_cases hlt : i < c
    · have d1 : decide ((i : Int) < (c : Int)) = true := by simp; omega
      have d1' : decide (i < c) = true := by simp; omega
      have hcw := unhide Hcw
      have hiw : (i + 1) * (wd + 1) ≤ s.size := by rw [← hcw]; exact Nat.mul_le_mul_right _ hlt
      obtain ⟨p, hp⟩ : ∃ p, p = i * (wd + 1) := ⟨_, rfl⟩
      have hq : (i + 1) * (wd + 1) = p + (wd + 1) := by rw [Nat.add_mul i 1, Nat.one_mul, hp]
      have zp : (i : Int) * ((wd : Int) + 1) = (p : Int) := by rw [hp]; exact (Int.natCast_mul _ _).symm
      have zq : ((i : Int) + 1) * ((wd : Int) + 1) = ((p + (wd + 1) : Nat) : Int) := by rw [← hq]; exact (Int.natCast_mul _ _).symm
      rw [hq] at hiw
      have hpl := Fil.part_length S (wd + 1) i (by rw [hq, hrs]; exact hiw)
      obtain ⟨u, hu⟩ : ∃ u, u = s.extract p (p + (wd + 1)) := ⟨_, rfl⟩
      have hul : u.data.toList = Fil.part S (wd + 1) i := by rw [hu, betweenF, ← unhide HSd, hp]; rfl
      have hus : u.size = wd + 1 := by
        have : u.data.toList.length = u.size := by simp
        rw [← this, hul, hpl]
      have hu0 : 0 < u.size := by omega
      have hkn : Fil.kin S wd i = u[0].toNat := by
        unfold Fil.kin
        rw [← hul]
        exact toList_at u 0 hu0
      have hn : n = i * wd := unhide Hn
      have zn : (i : Int) * (wd : Int) = (n : Int) := by rw [hn]; exact (Int.natCast_mul _ _).symm
      have hnc : n + wd ≤ cap0 := by
        rw [unhide Hcap0, hn]
        have := Nat.mul_le_mul_right wd hlt
        rw [Nat.succ_mul] at this
        exact this
      have hpq1 : (p : Int) ≤ ((p + (wd + 1) : Nat) : Int) := by omega
      have hpq2 : ((p + (wd + 1) : Nat) : Int) ≤ (s.size : Int) := by omega
      have HKN := hide (fun w => known_any (u[0].toNat : Int) w)
      have hx := u[0].toNat_lt
      have Hkn := hide hkn
      have Hul := hide hul
      have hue : s.extract p (p + (wd + 1)) = u := hu.symm
      have Hp := hide hp
      have Hq := hide hq
      clear hul hkn hp hq hn hcw hu
      by_cases hbad : 4 < u[0].toNat
      · rw [decide_eq_false (fun q : (0 : Int) ≤ (u[0].toNat : Int) ∧ (u[0].toNat : Int) < 5 => by omega)] at HKN
        have hcT : wr.cell? ⟨0, 0, none⟩ = some (.iface tT vT) := ((unhide HB).cell (p := ⟨0, 0, none⟩) hgT2).trans (unhide HT)
        have HBD : Hid (4 < Fil.kin S wd i) := by show _ < _; rw [unhide Hkn]; exact hbad
        clear HO HAa Hal Hn hbad
        go_wp2_with fail
        refine (unhide HKN _).mono ?_; rintro e w4 ⟨rfl, rfl⟩
        rw [hue]
        go_wp2_with fail
        go_region
        go_wp2
        go_ret2
        refine ⟨.inr ⟨i, w4.heap.size, hlt, unhide HG, unhide HBD, rfl, ?_, ?_⟩, ?_⟩
        · show (World.alloc _ _).cell? _ = _
          simp
        · show (World.alloc _ _).cell? _ = _
          simp
        · rw [← unhide Hg]
          exact ((unhide HB).alloc (by rw [unhide Hg]; exact (unhide HB).size) _).drew
      · rw [decide_eq_true (show (0 : Int) ≤ (u[0].toNat : Int) ∧ (u[0].toNat : Int) < 5 by omega)] at HKN
        go_wp2_with fail
        refine (unhide HKN _).mono ?_; rintro e w4 ⟨rfl, rfl⟩
        rw [hue]
        obtain ⟨y, hy⟩ : ∃ y, y = u.extract 1 u.size := ⟨_, rfl⟩
        have hyl : y.data.toList = (Fil.part S (wd + 1) i).drop 1 := by rw [hy, backF, unhide Hul]
        have hys : y.size = wd := by
          have : y.data.toList.length = y.size := by simp
          rw [← this, hyl, List.length_drop, hpl]
          omega
        have hye : u.extract 1 u.size = y := hy.symm
        have hye2 : u.extract 1 (wd + 1) = y := by rw [← hus]; exact hye
        obtain ⟨Y, hY⟩ : ∃ Y, Y = (Fil.part S (wd + 1) i).drop 1 := ⟨_, rfl⟩
        obtain ⟨Bk, hBk⟩ : ∃ Bk, Bk = Fil.back S wd t i := ⟨_, rfl⟩
        have hYl : Y.length = wd := by rw [hY, List.length_drop, hpl]; omega
        have hBl : Bk.length = n := by rw [hBk, Fil.back_length, unhide Hn]
        rw [← hBk] at HO Hal
        have HNX : Hid (Fil.back S wd t (i + 1) = Bk ++ Fil.un u[0].toNat Y (Bk.drop ((i - 1) * wd)) t wd) := by
          show _ = _
          rw [Fil.back, ← hBk, ← hY, unhide Hkn]
        have HGN : Hid (∀ j, j < i + 1 → Fil.kin S wd j ≤ 4) := fun j hj => by
          rcases Nat.lt_or_ge j i with h | h
          · exact unhide HG j h
          · obtain rfl : j = i := by omega
            rw [unhide Hkn]; omega
        have HYl := hide hYl
        have hybn : n + y.size ≤ cap0 := by omega
        have hcp : 0 < cap0 := by omega
        have Hyl : Hid (y.data.toList = Y) := by show _ = _; rw [hyl, hY]
        generalize hkk : u[0].toNat = k at *
        clear hy hyl hY hBk hYl hkk
        go_wp2_with (at_builtin; refine Lib.wpList_append_fits_string _ rfl (.tmp 58) (.tmp 60) 38 9 rfl g 5 i0 Tryd.underlying38 Tryd.underlying9 (unhide Hi) (unhide Hz1) (some ⟨g, 0, none⟩) n cap0 (byteVals Bk) rfl (unhide HO) y (by first | rfl | (simp [Act.eval]; done)) hcp hybn ?_)
        intro w5 hown5 hgr5
        rw [strCells_is, unhide Hyl, ← byteVals_append] at hown5
        obtain ⟨post, hL5, _, hnc5, hcm5, _, hpc5⟩ := own_lies hown5
        rw [hBl] at hL5
        have hYl := unhide HYl
        obtain ⟨A, hA⟩ : ∃ A, A = Bk.drop ((i - 1) * wd) := ⟨_, rfl⟩
        rw [← hA] at Hal HNX
        have hAl : A = [] ∨ A.length = Y.length := by
          rcases unhide HAa with ⟨h0, _⟩ | ⟨h0, _⟩
          · left
            rw [hA]
            subst h0
            have : n = 0 := by rw [unhide Hn]; omega
            apply List.eq_nil_of_length_eq_zero
            rw [List.length_drop]
            omega
          · right
            obtain ⟨m, rfl⟩ : ∃ m, i = m + 1 := ⟨i - 1, by omega⟩
            rw [hA, List.length_drop, hBl, unhide Hn, hYl, Nat.add_sub_cancel, Nat.add_mul, Nat.one_mul]
            omega
        have HUN := hide (undo_any k (by omega) Y A aa (cap0 - n) ac t g n (byteVals Bk) post (0, 0) w5 hL5 (fun w' l hb hL => by
          rcases unhide HAa with ⟨h0, h1⟩ | ⟨h0, h1⟩
          · intro j hj
            have : A.length = 0 := by
              rw [hA, List.length_drop, hBl, unhide Hn, h0]
              omega
            omega
          · rw [h1, hA]
            exact hL.pre ((i - 1) * wd)) (by omega) (by omega) hAl (by omega))
        rw [hYl, ← unhide Hal] at HUN
        have HB5 := hide ((unhide HB).grown hgr5 (by rw [unhide Hg]; exact (unhide HB).size) (fun k e => by
          have : g = k := by simpa [Value.ownBlock] using e
          omega))
        have hgl5 := hL5.lt
        have HA := hide hA
        have hni : (n : Int) ≤ ((n + wd : Nat) : Int) := by omega
        have hni2 : (n : Int) < (cap0 : Int) := by omega
        have hni3 : ((n + wd : Nat) : Int) ≤ (cap0 : Int) := by omega
        have hsub : n + wd - n = wd := by omega
        clear hown5 hgr5 hL5 HO HB HYl HAa hA
        go_wp2_with fail
        refine (unhide HUN).mono ?_; rintro e w6 ⟨rfl, hL6, hbut6⟩
        have hO6 := lies_own (base := g) (n := n + wd) (cap := cap0) hL6 (Nat.le_refl _) (by rw [Fil.un_length]; omega) (by omega) hcm5 hpc5
        rw [← unhide HNX] at hO6
        have HO6 := hide hO6
        have HB6 := hide ((unhide HB5).trans (hbut6.below (by omega) (fun k hk e => by omega)))
        have hn6 : n + wd = (i + 1) * wd := by rw [unhide Hn, Nat.add_mul, Nat.one_mul]
        have Hn6 := hide hn6
        have Hal6 : Hid (wd = ((Fil.back S wd t (i + 1)).drop ((i + 1 - 1) * wd)).length) := by
          show _ = _
          rw [List.length_drop, Fil.back_length, Nat.add_sub_cancel, Nat.add_mul, Nat.one_mul]
          omega
        have HAa6 : Hid ((i + 1 = 0 ∧ some (⟨g, n, none⟩ : Addr) = none) ∨ (0 < i + 1 ∧ some (⟨g, n, none⟩ : Addr) = some ⟨g, (i + 1 - 1) * wd, none⟩)) := .inr ⟨by omega, by rw [Nat.add_sub_cancel, unhide Hn]⟩
        clear HUN hL6 hbut6 hO6 hn6 hni hni2 hni3 hsub hybn
        go_wp2
        go_roundw
        case rel => exact ⟨i + 1, n + wd, wd, cap0 - n, some ⟨g, n, none⟩, by omega, by go_num, rfl, Hn6, rfl, Hal6, HO6, HAa6, HGN, HB6⟩
        case measure => simp [intOf]; omega
    · obtain rfl : i = c := by omega
      have d1 : decide ((i : Int) < (i : Int)) = false := by simp
      have hcv := own_text wr _ _ _ _ (unhide HO)
      go_wp2
      go_ret2
      exact ⟨.inl ⟨unhide HG, rfl⟩, by rw [← unhide Hg]; exact unhide HB⟩
end Go.Proofs.YtmmilamaahmaoafDoor
