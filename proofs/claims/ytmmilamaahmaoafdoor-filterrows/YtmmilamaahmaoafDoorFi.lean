/- Walk: rows by their best kinds: the program's. -/
import Derived.Test.YtmmilamaahmaoafDoorFf
namespace Go.Proofs.YtmmilamaahmaoafDoor
open Go.RowKit

def chkR (s : ByteArray) (z st : Int) (more : Nat) : ChkS :=
  if z < 1 ∨ 300000 < z ∨ ¬ (1 ≤ st ∧ st ≤ 8) ∨ 300000 < s.size then .bound else if s.size % (z.toNat + more) ≠ 0 then .shape else .fine

set_option maxHeartbeats 1000000 in
theorem checkRows_any (s : ByteArray) (z st : Int) (more : Nat) (hm : more ≤ 1) (xB xS : Value) (w : World) (hB : w.cell? ⟨1, 0, none⟩ = some xB) (hS : w.cell? ⟨2, 0, none⟩ = some xS) :
    Calls Tryd.prog 17 #[.string s, .int .i64 z, .int .i64 st, .int .i64 (more : Int)] w fun e w' => e = .returned (chkV xB xS (chkR s z st more)) ∧ w' = w := by
  have HT := hide (fun w => stepping_any st w)
  by_cases h1 : z < 1
  · have d1 : decide (z < 1) = true := by simpa using h1
    have e0 : chkR s z st more = .bound := by unfold chkR; rw [if_pos (.inl h1)]
    rw [e0]
    clear h1 e0
    go_enter Tryd.func17, Tryd.ntmps17
    go_wp2
    go_ret
    exact ⟨rfl, rfl⟩
  have d1 : decide (z < 1) = false := by simpa using h1
  by_cases h2 : 300000 < z
  · have d2 : decide (z > 300000) = true := by simpa using h2
    have d2' : decide (300000 < z) = true := d2
    have e0 : chkR s z st more = .bound := by unfold chkR; rw [if_pos (.inr (.inl h2))]
    rw [e0]
    clear h1 h2 e0
    go_enter Tryd.func17, Tryd.ntmps17
    go_wp2
    go_ret
    exact ⟨rfl, rfl⟩
  have d2 : decide (z > 300000) = false := by simpa using h2
  have d2' : decide (300000 < z) = false := d2
  by_cases h3 : 1 ≤ st ∧ st ≤ 8
  rotate_left
  · rw [decide_eq_false h3] at HT
    have e0 : chkR s z st more = .bound := by unfold chkR; rw [if_pos (.inr (.inr (.inl h3)))]
    rw [e0]
    clear h1 h2 h3 e0
    go_enter Tryd.func17, Tryd.ntmps17
    go_wp2_with fail
    refine (unhide HT _).mono ?_; rintro e w1 ⟨rfl, rfl⟩
    go_wp2
    go_ret
    exact ⟨rfl, rfl⟩
  rw [decide_eq_true h3] at HT
  by_cases h4 : 300000 < s.size
  · have d4 : decide ((s.size : Int) > 300000) = true := by simp; omega
    have d4' : decide ((300000 : Int) < (s.size : Int)) = true := d4
    have d4n : decide (300000 < s.size) = true := by simp; omega
    have e0 : chkR s z st more = .bound := by unfold chkR; rw [if_pos (.inr (.inr (.inr h4)))]
    rw [e0]
    clear h1 h2 h3 h4 e0
    go_enter Tryd.func17, Tryd.ntmps17
    go_wp2_with fail
    refine (unhide HT _).mono ?_; rintro e w1 ⟨rfl, rfl⟩
    go_wp2
    go_ret
    exact ⟨rfl, rfl⟩
  have d4 : decide ((s.size : Int) > 300000) = false := by simp; omega
  have d4' : decide ((300000 : Int) < (s.size : Int)) = false := d4
  have d4n : decide (300000 < s.size) = false := by simp; omega
  obtain ⟨k, rfl⟩ := Int.eq_ofNat_of_zero_le (show 0 ≤ z by omega)
  have e0 : chkR s (k : Int) st more = if s.size % (k + more) ≠ 0 then .shape else .fine := by
    unfold chkR
    rw [if_neg (by omega), Int.toNat_natCast]
  rw [e0]
  obtain ⟨m, hmk⟩ : ∃ m, m = k + more := ⟨_, rfl⟩
  have zm : (k : Int) + (more : Int) = (m : Int) := by omega
  have hm0 : ¬ (m : Int) = 0 := by omega
  have hm1 : (0 : Int) < (m : Int) := by omega
  have hm3 : m ≤ 300001 := by omega
  rw [← hmk]
  obtain ⟨r, hr⟩ : ∃ r, r = s.size % m := ⟨_, rfl⟩
  have hrm : r ≤ 300000 := by
    have := Nat.mod_le s.size m
    omega
  have zr : (s.size : Int) % (m : Int) = (r : Int) := by rw [hr]; exact (Int.natCast_emod _ _).symm
  have zrt : (s.size : Int).tmod (m : Int) = (r : Int) := by rw [Int.tmod_eq_emod_of_nonneg (by omega)]; exact zr
  rw [← hr]
  clear e0 hmk hr h3
  by_cases h5 : r = 0
  · subst h5
    rw [if_neg (by omega)]
    go_enter Tryd.func17, Tryd.ntmps17
    go_wp2_with fail
    refine (unhide HT _).mono ?_; rintro e w1 ⟨rfl, rfl⟩
    go_wp2
    go_ret
    exact ⟨rfl, rfl⟩
  · have d5 : ((r : Int) == 0) = false := by simp; omega
    have d5' : ((r : Int) != 0) = true := by simp; omega
    rw [if_pos h5]
    go_enter Tryd.func17, Tryd.ntmps17
    go_wp2_with fail
    refine (unhide HT _).mono ?_; rintro e w1 ⟨rfl, rfl⟩
    go_wp2
    go_ret
    exact ⟨rfl, rfl⟩

theorem chkR_fine {s : ByteArray} {z st : Int} {more : Nat} (h : chkR s z st more = .fine) : (1 ≤ z ∧ z ≤ 300000) ∧ (1 ≤ st ∧ st ≤ 8) ∧ s.size ≤ 300000 ∧ s.size % (z.toNat + more) = 0 := by
  unfold chkR at h
  split at h
  · cases h
  · rename_i h1
    split at h
    · cases h
    · rename_i h2
      refine ⟨by omega, ?_, by omega, Classical.byContradiction fun q => h2 q⟩
      exact Classical.byContradiction fun q => h1 (.inr (.inr (.inl q)))

/-- A part of bytes that lie in memory. -/
theorem Byt.part {w : World} {g o : Nat} {l : List UInt8} (h : Byt w (some ⟨g, o, none⟩) l) (k n : Nat) : Byt w (some ⟨g, o + k, none⟩) ((l.drop k).take n) := fun j hj => by
  have hj2 : k + j < l.length := by
    rw [List.length_take, List.length_drop] at hj
    omega
  obtain ⟨g', o', e, hc⟩ := h (k + j) hj2
  injection e with e
  injection e with e1 e2 e3
  subst e1 e2
  refine ⟨g, o + k, rfl, ?_⟩
  rw [Nat.add_assoc, hc]
  simp [List.getElem_take, List.getElem_drop]

theorem of_byte (n : Nat) (h : n < 256) : ((UInt8.ofNat n).toNat : Int) = (n : Int) := by
  rw [UInt8.toNat_ofNat']
  omega

set_option maxHeartbeats 4000000 in
set_option maxRecDepth 100000 in
theorem Rows_any (s : ByteArray) (z st : Int) (tB tS : TypeId) (vB vS : Value) (w : World) (hB : w.cell? ⟨1, 0, none⟩ = some (.iface tB vB)) (hS : w.cell? ⟨2, 0, none⟩ = some (.iface tS vS)) :
    Calls Tryd.prog 8 #[.string s, .int .i64 z, .int .i64 st] w fun e w' => e = .returned (doV (.iface tB vB) (.iface tS vS) (Fil.rows s.data.toList z.toNat st.toNat (s.size / z.toNat)) (chkR s z st 0)) ∧ Below w.heap.size w w' := by
  have HC := hide (checkRows_any s z st 0 (by omega) _ _ w hB hS)
  clear hB hS
  cases hk : chkR s z st 0 with
  | bound =>
    rw [hk] at HC
    unfold chkV at HC
    unfold doV
    dsimp only at *
    clear hk
    go_enter Tryd.func8, Tryd.ntmps8
    go_wp2_with fail
    refine (unhide HC).mono ?_; rintro e w1 ⟨rfl, rfl⟩
    go_wp2
    go_ret2
    exact ⟨rfl, Below.refl _ _⟩
  | shape =>
    rw [hk] at HC
    unfold chkV at HC
    unfold doV
    dsimp only at *
    clear hk
    go_enter Tryd.func8, Tryd.ntmps8
    go_wp2_with fail
    refine (unhide HC).mono ?_; rintro e w1 ⟨rfl, rfl⟩
    go_wp2
    go_ret2
    exact ⟨rfl, Below.refl _ _⟩
  | fine =>
    obtain ⟨⟨hz1, hz3⟩, ⟨hs1, hs8⟩, hsz, hmod⟩ := chkR_fine hk
    rw [hk] at HC
    unfold chkV at HC
    unfold doV
    dsimp only at *
    obtain ⟨wd, rfl⟩ := Int.eq_ofNat_of_zero_le (show 0 ≤ z by omega)
    obtain ⟨t, rfl⟩ := Int.eq_ofNat_of_zero_le (show 0 ≤ st by omega)
    simp only [Int.toNat_natCast, Nat.add_zero] at hmod ⊢
    have hrs : s.data.toList.length = s.size := by simp
    obtain ⟨S, hSd⟩ : ∃ S, S = s.data.toList := ⟨_, rfl⟩
    rw [← hSd] at hrs ⊢
    obtain ⟨c, hc⟩ : ∃ c, c = s.size / wd := ⟨_, rfl⟩
    have hcw : c * wd = s.size := by
      have := Nat.div_add_mod s.size wd
      rw [hmod, Nat.add_zero, Nat.mul_comm, ← hc] at this
      exact this
    have hcl : c ≤ s.size := by
      have := Nat.le_mul_of_pos_right c (show 0 < wd by omega)
      omega
    rw [← hc]
    have zc : (s.size : Int) / (wd : Int) = (c : Int) := by rw [hc]; exact (Int.natCast_ediv _ _).symm
    have zct : (s.size : Int).tdiv (wd : Int) = (c : Int) := by rw [Int.tdiv_eq_ediv_of_nonneg (by omega)]; exact zc
    have hw0 : ¬ (wd : Int) = 0 := by omega
    have hw0' : ((wd : Int) == 0) = false := by simp; omega
    obtain ⟨i0, hi, hz0', hz1', hz2⟩ := info_parts info_u8
    have Hi := hide hi
    have Hz0 := hide hz0'
    have Hz1 := hide hz1'
    obtain ⟨cap0, hcap0⟩ : ∃ q, q = s.size + c := ⟨_, rfl⟩
    have zcap : (s.size : Int) + (c : Int) = (cap0 : Int) := by omega
    have Hz2 : Hid (i0.bytes * cap0 ≤ 281474976710656) := by show _ ≤ _; rw [hz2]; omega
    have hcap3 : cap0 ≤ 600000 := by omega
    clear hk hi hz0' hz1' hz2 hmod
    go_enter Tryd.func8, Tryd.ntmps8
    go_wp2_with fail
    refine (unhide HC).mono ?_; rintro e w1 ⟨rfl, rfl⟩
    clear HC
    obtain ⟨c1, w2, p1, f1, hcv1, hL1, hb1, hsz1, hc1, hc1m⟩ := to_bytesL w1.drew s
    have Hc := hide hc
    have Hcw := hide hcw
    have Hcap0 := hide hcap0
    clear hc hcw hcap0
    have hdrew : w1.drew.heap.size = w1.heap.size := rfl
    rw [hdrew] at hcv1 hL1 hb1 hsz1
    have hb1' : Below w1.heap.size w1 w2 := (Below.refl _ _).drew.trans hb1
    have HBy := hide hL1.byt
    have HB1 := hide hb1'
    rw [← hSd] at HBy
    clear hL1 hb1 hb1' hSd hdrew
    obtain ⟨g, hg⟩ : ∃ g, g = w1.heap.size := ⟨_, rfl⟩
    rw [← hg] at hcv1 HBy HB1 hsz1
    have Hg := hide hg
    clear hg
    go_wp2_with fail
    go_region
    all_goals
      go_wp2_with (at_make; refine wpList_make_own _ rfl (.const (.int .i64 0)) (.tmp 32) 38 rfl g 5 i0 (.int .u8 0) 1 Tryd.underlying38 (unhide Hi) (unhide Hz0) (unhide Hz1) .i64 .i64 (cap0 : Int) cap0 rfl rfl rfl (unhide Hz2) (by unfold maxLen; omega) (by omega) ?_)
      intro w3 hown3 hgr3
      have hs3 := hgr3.size
      have hlt3 := (hown3.lt (g + 1) rfl).2
      have HB3 := hide ((unhide HB1).grown hgr3 (by omega) (fun k e => by cases e))
      have HBy3 : Hid (Byt w3 (some ⟨g, 0, none⟩) S) := fun j hj => by
        obtain ⟨g', o', e, hc⟩ := unhide HBy j hj
        exact ⟨g', o', e, hgr3.cell hc (by simp)⟩
      have HO3 : Hid (w3.ownsRow g 5 1 (.slice (some ⟨g + 1, 0, none⟩) 0 cap0) 0 (byteVals (Fil.rows S wd t 0))) := hown3
      have hgw3 : g < w3.heap.size := by omega
      have HN3 : Hid ((Value.slice (some ⟨g + 1, 0, none⟩) 0 cap0).ownBlock ≠ some g) := fun e => by simp [Value.ownBlock] at e
      clear hown3 hgr3 HBy HB1 hs3 hlt3 hsz1 hcv1
      go_wp2
      go_loopw [11, 12, 35] (fun dv av iv wr => ∃ (i n cc al ac : Nat) (a aa : Option Addr), i ≤ c ∧ iv = .int .i64 (i : Int) ∧ dv = .slice a n cc ∧ n = i * (wd + 1) ∧ av = .slice aa al ac ∧ al = (Fil.prv S wd i).length ∧ Hid (wr.ownsRow g 5 1 (.slice a n cc) n (byteVals (Fil.rows S wd t i))) ∧ Hid (Byt wr (some ⟨g, 0, none⟩) S) ∧ Hid (Byt wr aa (Fil.prv S wd i)) ∧ Hid (∀ p, aa = some p → p.block = g) ∧ Hid ((Value.slice a n cc).ownBlock ≠ some g) ∧ Hid (Below g w1 wr) ∧ g < wr.heap.size) (fun _ _ iv _ => c - (intOf iv).toNat)
      case atStart => exact ⟨0, 0, cap0, 0, 0, _, none, by omega, rfl, rfl, by omega, rfl, by rw [Fil.prv_zero]; rfl, HO3, HBy3, (fun j hj => by rw [Fil.prv_zero] at hj; simp at hj), (fun p e => by cases e), HN3, HB3, hgw3⟩
      case round =>
        clear HO3 HBy3 HN3 HB3 hgw3
        obtain ⟨i, n, cc, al, ac, a, aa, hic, rfl, rfl, hn, rfl, hal, HO, HBy, HBa, HAa, HN, HB, hgw⟩ := hrel
        by_cases hlt : i < c
        · have d1 : decide ((i : Int) < (c : Int)) = true := by simp; omega
          have d1' : decide (i < c) = true := by simp; omega
          have hcw := unhide Hcw
          have hiw : (i + 1) * wd ≤ s.size := by rw [← hcw]; exact Nat.mul_le_mul_right wd hlt
          obtain ⟨p, hp⟩ : ∃ p, p = i * wd := ⟨_, rfl⟩
          have hq : (i + 1) * wd = p + wd := by rw [Nat.add_mul, Nat.one_mul, hp]
          have zp : (i : Int) * (wd : Int) = (p : Int) := by rw [hp]; exact (Int.natCast_mul _ _).symm
          have zq : ((i : Int) + 1) * (wd : Int) = ((p + wd : Nat) : Int) := by rw [← hq]; exact (Int.natCast_mul _ _).symm
          rw [hq] at hiw
          have hpl := Fil.part_length S wd i (by rw [hq, hrs]; exact hiw)
          have hprv : Fil.prv S wd i = [] ∨ (Fil.prv S wd i).length = (Fil.part S wd i).length := by
            cases i with
            | zero => exact .inl (Fil.prv_zero S wd)
            | succ m =>
              refine .inr ?_
              rw [Fil.prv_succ, hpl, Fil.part_length S wd m]
              rw [← hp, hrs]; omega
          have HBp : Hid (Byt wr (some ⟨g, p, none⟩) (Fil.part S wd i)) := by
            have := (unhide HBy).part p wd
            rw [Nat.zero_add, hp] at this
            rw [hp]
            exact this
          have HBE := hide (best_any (Fil.part S wd i) (Fil.prv S wd i) (some ⟨g, p, none⟩) aa (c1 - p) ac t wr (unhide HBp) (unhide HBa) (by omega) (by omega) hprv (by omega))
          rw [hpl, ← hal] at HBE
          have hbl := Fil.best_le (Fil.part S wd i) (Fil.prv S wd i) t
          have HPC : Hid (Fil.rows S wd t (i + 1) = (Fil.rows S wd t i ++ [UInt8.ofNat (Fil.best (Fil.part S wd i) (Fil.prv S wd i) t)]) ++ Fil.row (Fil.best (Fil.part S wd i) (Fil.prv S wd i) t) (Fil.part S wd i) (Fil.prv S wd i) t wd) := by
            show _ = _
            rw [Fil.rows, Fil.piece, List.append_assoc]
            rfl
          have hrl := Fil.rows_length S wd t i
          rw [← hn] at hrl
          have HDO := hide (fun k hk d dv w' h1 h2 h3 h4 h5 h6 h7 => do_any k hk d (Fil.part S wd i) (Fil.prv S wd i) dv (some ⟨g, p, none⟩) aa (c1 - p) ac t g w' h1 h2 h3 h4 h5 h6 (by omega) (by omega) hprv (by omega) h7)
          rw [hpl, ← hal] at HDO
          obtain ⟨k, hkd⟩ : ∃ k, k = Fil.best (Fil.part S wd i) (Fil.prv S wd i) t := ⟨_, rfl⟩
          rw [← hkd] at HBE hbl HPC
          obtain ⟨R, hR⟩ : ∃ R, R = Fil.rows S wd t i := ⟨_, rfl⟩
          rw [← hR] at HO hrl HPC
          have Hq := hide hq
          have Hp := hide hp
          have Hn := hide hn
          have Hal := hide hal
          have hRl : R.length ≤ 599998 := by
            rw [hrl, hn, Nat.mul_add, Nat.mul_one]
            omega
          have hRk : (R ++ [UInt8.ofNat k]).length = n + 1 := by rw [List.length_append, hrl]; rfl
          have hpq1 : (p : Int) ≤ ((p + wd : Nat) : Int) := by omega
          have hpq2 : ((p + wd : Nat) : Int) ≤ (c1 : Int) := by omega
          clear hkd hR hq hp hn hal hcw
          go_wp2_with fail
          refine (unhide HBE).mono ?_; rintro e w4 ⟨rfl, m4, rfl⟩
          have hku : (k : Int) % 256 = (k : Int) := by omega
          have hkw : IntKind.u8.wrap (k : Int) = (k : Int) := hku
          have HO4 : Hid ((wr.drewN m4).ownsRow g 5 1 (.slice a n cc) R.length (byteVals R)) := by rw [hrl]; exact unhide HO
          have HOa := hide ((unhide HO4).alloc (.cells #[.int .u8 (k : Int)] 5))
          have cq : ((wr.drewN m4).alloc (.cells #[.int .u8 (k : Int)] 5)).cell? ⟨wr.heap.size, 0, none⟩ = some (.int .u8 ((UInt8.ofNat k).toNat : Int)) := by
            rw [of_byte k (by omega)]
            exact one_newF (wr.drewN m4) _ _
          have hza : ((wr.drewN m4).alloc (.cells #[.int .u8 (k : Int)] 5)).heap.size = wr.heap.size + 1 := by show ((wr.drewN m4).alloc _).heap.size = (wr.drewN m4).heap.size + 1; simp
          clear HBE HO4
          go_wp2_with (at_builtin; refine wpList_appB _ rfl (.tmp 51) (.tmp 54) rfl g wr.heap.size (.slice a n cc) R (UInt8.ofNat k) rfl (by first | rfl | (simp [Act.eval]; done)) (unhide HOa) cq (by omega) (by rw [hza]; omega) ?_)
          intro v5 w5 hown5 hgr5 hat5
          have hB5 : But (fun q => (Value.slice a n cc).ownBlock = some q) wr w5 := (((But.refl _ _).drewN m4).alloc _).grown hgr5 (fun q e _ => e)
          have hN5 : v5.ownBlock ≠ some g := fun e => by
            rcases hat5 with h | h
            · exact unhide HN (h ▸ e)
            · rw [e] at h
              injection h with h
              omega
          have hs5 := hB5.size
          have hBl5 : Below g w1 w5 := (unhide HB).trans (hB5.below (by omega) (fun k hk e => by have := ((unhide HO).lt k e).1; omega))
          have hS5 := (unhide HBy).but hB5 (fun p e => by injection e with e; subst e; exact unhide HN)
          have hP5 := (unhide HBp).but hB5 (fun p e => by injection e with e; subst e; exact unhide HN)
          have hA5 := (unhide HBa).but hB5 (fun p e => by rw [unhide HAa p e]; exact unhide HN)
          obtain ⟨a5, c5, rfl, _⟩ := own_shape hown5
          have HDO2 := hide (unhide HDO k hbl (R ++ [UInt8.ofNat k]) _ w5 (by rw [hRk]; exact hown5) (by omega) hP5 hA5 (fun p e => by injection e with e; subst e; exact ⟨hN5, by show g < _; omega⟩) (fun p e => by rw [unhide HAa p e]; exact ⟨hN5, by omega⟩) (by rw [hRk]; omega))
          have HB5 := hide hBl5
          have HS5 := hide hS5
          have HN5 := hide hN5
          have HO5 := hide hown5
          clear HDO HBp HBa HO HN HB hown5 hgr5 hat5 hB5 hN5 hBl5 hS5 hP5 hA5 HOa cq hza
          go_wp2_with fail
          refine (unhide HDO2).mono ?_; rintro e w6 ⟨v6, rfl, hown6, hbut6, hat6⟩
          have hs6 := hbut6.size
          have hN6 : v6.ownBlock ≠ some g := fun e => by
            rcases hat6 with h | ⟨q, h, hq⟩
            · exact unhide HN5 (h ▸ e)
            · rw [e] at h
              injection h with h
              omega
          have HBl6 := hide ((unhide HB5).trans (hbut6.below (by omega) (fun k hk e => by have := ((unhide HO5).lt k e).1; omega)))
          have hS6 := (unhide HS5).but hbut6 (fun p e => by injection e with e; subst e; exact unhide HN5)
          obtain ⟨a6, c6, rfl, _⟩ := own_shape hown6
          have hl6 : ((R ++ [UInt8.ofNat k]) ++ Fil.row k (Fil.part S wd i) (Fil.prv S wd i) t wd).length = (i + 1) * (wd + 1) := by rw [← unhide HPC, Fil.rows_length]
          obtain ⟨n6, hn6⟩ : ∃ n6, n6 = (i + 1) * (wd + 1) := ⟨_, rfl⟩
          rw [hl6, ← hn6] at hown6 hN6 ⊢
          rw [← unhide HPC] at hown6
          have HO6 := hide hown6
          have HN6 := hide hN6
          have HS6 := hide hS6
          have HA6 : Hid (Byt w6 (some ⟨g, p, none⟩) (Fil.prv S wd (i + 1))) := by
            have := hS6.part p wd
            rw [Nat.zero_add, unhide Hp] at this
            rw [Fil.prv_succ, unhide Hp]
            exact this
          have hgw6 : g < w6.heap.size := by omega
          clear HDO2 hown6 hbut6 hat6 hN6 hS6 HB5 HS5 HN5 HO5 hl6
          have Hn6 := hide hn6
          clear hn6
          go_wp2
          go_roundw
          case rel => exact ⟨i + 1, n6, c6, wd, c1 - p, a6, some ⟨g, p, none⟩, by omega, by go_num, rfl, unhide Hn6, rfl, by rw [Fil.prv_succ, hpl], HO6, HS6, HA6, (fun p e => by injection e with e; subst e; rfl), HN6, HBl6, hgw6⟩
          case measure => simp [intOf]; omega
        · obtain rfl : i = c := by omega
          have d1 : decide ((i : Int) < (i : Int)) = false := by simp
          have hcv := own_text wr _ _ _ _ (show wr.ownsRow g 5 1 (.slice a n cc) n (byteVals (Fil.rows S wd t i)) from unhide HO)
          clear hn hal
          go_wp2
          go_ret2
          exact ⟨rfl, by rw [← unhide Hg]; exact unhide HB⟩
end Go.Proofs.YtmmilamaahmaoafDoor
