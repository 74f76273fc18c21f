/- The walk of the statement: a file with one bit turned has an error. -/
import Derived.Test.YtlnglpphlcebdafDoorCl
import Derived.Test.YtlnglpphlcebdafDoorCk9
import Derived.Test.YtlnglpphlcebdafDoorTold0
namespace Go.Proofs.YtlnglpphlcebdafDoor
open Go.RowKit

theorem chs_part (c : Nat → ByteArray × ByteArray) (n j : Nat) (h : j < n) : ∃ post, chs c n = chs c j ++ ([((c j).1.data.toList, (c j).2.data.toList)] ++ post) := by
  refine ⟨(chs c n).drop (j + 1), ?_⟩
  have h1 : (chs c n).take (j + 1) = chs c (j + 1) := by
    unfold chs
    rw [← List.map_take, List.take_range, Nat.min_eq_left (by omega)]
  rw [← List.append_assoc, ← chs_succ, ← h1, List.take_append_drop]
theorem in_chunk (c : Nat → ByteArray × ByteArray) (p : Nat) : ∀ n, 8 ≤ p → p < (Ck.file (chs c n)).length → ∃ j, j < n ∧ (Ck.file (chs c j)).length ≤ p ∧ p < (Ck.file (chs c (j + 1))).length := by
  intro n
  induction n with
  | zero =>
    intro h1 h2
    have : (Ck.file (chs c 0)).length = 8 := rfl
    omega
  | succ n ih =>
    intro h1 h2
    rcases Nat.lt_or_ge p (Ck.file (chs c n)).length with q | q
    · obtain ⟨j, j1, j2⟩ := ih h1 q
      exact ⟨j, by omega, j2⟩
    · exact ⟨n, by omega, q, h2⟩
/-- One bit turned, not in a length: the reading ends with an error. -/
theorem turned_bad (c : Nat → ByteArray × ByteArray) (n p r : Nat) (hk : ∀ j, j < n → Ck.Kind (c j).1.data.toList) (hd : ∀ j, j < n → (c j).2.size < 4294967296) (h8 : 8 ≤ p) (hp : p < (Ck.file (chs c n)).length)
    (hnl : ∀ j, j < n → ¬ ((Ck.file (chs c j)).length ≤ p ∧ p < (Ck.file (chs c j)).length + 4)) (hr : r < 8) :
    ((Ck.file (chs c n)).set p (UInt8.ofNat (((Ck.file (chs c n)).getD p 0).toNat ^^^ 2 ^ r))).take 8 = Ck.sig ∧ ∃ cc b, Ck.Rd ((Ck.file (chs c n)).set p (UInt8.ofNat (((Ck.file (chs c n)).getD p 0).toNat ^^^ 2 ^ r))) 8 [] (.bad cc b) := by
  obtain ⟨j, hj, j1, j2⟩ := in_chunk c p n h8 hp
  obtain ⟨post, hpost⟩ := chs_part c n j hj
  have hf : Ck.file (chs c n) = Ck.file (chs c j) ++ (Ck.one (c j).1.data.toList (c j).2.data.toList ++ post.flatMap (fun c => Ck.one c.1 c.2)) := by
    rw [hpost, Ck.file_append]
    simp
  rw [file_chs, List.length_append] at j2
  have hnl := hnl j hj
  have hkj := hk j hj
  have hdj := hd j hj
  have hdl : (c j).2.data.toList.length = (c j).2.size := Array.length_toList
  generalize hP : Ck.file (chs c j) = P at *
  generalize hR : post.flatMap (fun c => Ck.one c.1 c.2) = R at *
  have hol : (Ck.one (c j).1.data.toList (c j).2.data.toList).length = 12 + (c j).2.data.toList.length := by rw [Ck.one_length, hkj.1]; omega
  generalize hO : Ck.one (c j).1.data.toList (c j).2.data.toList = O at *
  obtain ⟨q, hq⟩ : ∃ q, q = p - P.length := ⟨_, rfl⟩
  have hqO : q < O.length := by omega
  have hgd : (P ++ (O ++ R)).getD p 0 = O.getD q 0 := by
    rw [List.getD_eq_getElem?_getD, List.getElem?_append_right (by omega), List.getElem?_append_left (by omega), ← hq, ← List.getD_eq_getElem?_getD]
  have hset : ∀ x, (P ++ (O ++ R)).set p x = P ++ (O.set q x ++ R) := fun x => by
    rw [List.set_append_right _ _ (by omega), List.set_append_left _ _ (by omega), ← hq]
  rw [hf, hgd, hset]
  have hP8 : ∃ X, P = Ck.sig ++ X := ⟨_, hP.symm⟩
  refine ⟨?_, ?_⟩
  · obtain ⟨X, rfl⟩ := hP8
    rw [List.append_assoc]
    rfl
  · have hbad := Ck.nx_turned (c j).1.data.toList (c j).2.data.toList R q r hkj.1 (by omega) (by omega) (by omega) hr
    rw [hO] at hbad
    obtain ⟨cc, b, hrd⟩ := Ck.Rd.bad (s := P ++ (O.set q (UInt8.ofNat ((O.getD q 0).toNat ^^^ 2 ^ r)) ++ R)) (a := P.length) (cs := chs c j) (by simp only [List.length_append, List.length_set]; omega) (fun n => by rw [List.drop_left]; exact hbad n)
    refine ⟨cc, b, Ck.Rd.back (chs c j).length (chs c j) rfl (fun x hx => ?_) _ (by rw [hP]) (by rw [hP]; exact hrd)⟩
    obtain ⟨i, hi, rfl⟩ := List.mem_map.1 hx
    have hij : i < j := List.mem_range.1 hi
    refine ⟨hk i (by omega), ?_⟩
    have h3 : (c i).2.data.toList.length = (c i).2.size := Array.length_toList
    have := hd i (by omega)
    show (c i).2.data.toList.length < _
    omega

theorem byte_turnC (x r : Nat) (hx : x < 256) (hr : r < 8) : bits .xor .u8 (x : Int) (2 ^ r % 256) = ((UInt8.ofNat (x ^^^ 2 ^ r)).toNat : Int) := by
  have h2 : 2 ^ r < 256 := Nat.pow_lt_pow_right (n := 8) (by omega) hr
  have := u8_xor_nat x (2 ^ r) hx h2
  rw [UInt8.toNat_ofNat', Nat.mod_eq_of_lt (Crc.turned_lt x r hx hr), ← this]
  congr 1
  rw [show ((2 : Int) ^ r) = ((2 ^ r : Nat) : Int) from by simp]
  generalize 2 ^ r = p at *
  omega

/-- A byte in it is another one. -/
theorem OwnM.set {w : World} {base g cap : Nat} {l : List UInt8} (h : OwnM w base (.slice (some ⟨g, 0, none⟩) l.length cap) l) (i : Nat) (hi : i < l.length) (b : UInt8) : OwnM (w.setCell ⟨g, i, none⟩ (.int .u8 (b.toNat : Int))) base (.slice (some ⟨g, 0, none⟩) l.length cap) (l.set i b) := by
  obtain ⟨g', cap', e, hg, hgl, hlc, hcm, hfree, hcell⟩ := h.ex
  injection e with e1 e2 e3
  injection e1 with e1
  injection e1 with e1
  subst e1
  subst e3
  refine ⟨⟨g, cap, by rw [List.length_set], hg, by simpa [World.setCell] using hgl, by rw [List.length_set]; exact hlc, hcm, fun j hj => ⟨?_, ?_⟩, fun j hj => ?_⟩⟩
  · by_cases e : j = i
    · subst e
      have hc := (hfree j hj).1
      rw [hcell j hi] at hc
      simp [go_sem, hcell j hi]
    · rw [World.cell?_setCell_other _ _ _ _ (fun q => e (by injection q with _ q; exact q.symm))]
      exact (hfree j hj).1
  · have := (hfree j hj).2
    simp [go_sem, this]
  · rw [List.length_set] at hj
    by_cases e : j = i
    · subst e
      simp [go_sem, hcell j hi]
    · rw [World.cell?_setCell_other _ _ _ _ (fun q => e (by injection q with _ q; exact q.symm)), List.getElem_set_ne (fun q => e q.symm)]
      exact hcell j hj

set_option maxHeartbeats 4000000 in
set_option maxRecDepth 100000 in
theorem chunkTurned_any (ao : Option Addr) (len cap : Nat) (c : Nat → ByteArray × ByteArray) (at_ bit : Int) (w : World) (a : Nat → Addr) (hS : Told w [0, 1, 2, 3] a) (hP : IsC w ao len c) (hz : len ≤ maxLen ∧ ∀ i, i < len → (c i).1.size ≤ 140737488355328 ∧ (c i).2.size ≤ 140737488355328) :
    Calls Tryd.prog 7 #[.slice ao len cap, .int .i64 at_, .int .i64 bit] w fun e w' => e = .returned (.bool true) ∧ Below w.heap.size w w' := by
  have HS := hide hS
  have HP := hide hP
  have HX := hide (bareL_any w _ _ (hS 2 (by simp)))
  have HZ := hide hz
  clear hS hP hz
  go_enter Tryd.func7, Tryd.ntmps7
  go_wp2_with fail
  refine (unhide HX).mono ?_; rintro e w1 ⟨rfl, hb1⟩
  have HB1 := hide hb1
  have HP1 := hide ((unhide HP).kept hb1)
  have HS1 := hide ((unhide HS).below hb1)
  have HX := hide (few_any ao len cap c w1 (unhide HP1) (unhide HZ).1)
  clear hb1 HP HS
  go_wp2_with fail
  refine (unhide HX).mono ?_; rintro e w1' ⟨rfl, hw1⟩
  replace hw1 := hw1.symm
  subst hw1
  clear HX
  by_cases hfew : len ≤ 30 ∧ wsum c len ≤ 3000
  rotate_left
  · rw [decide_eq_false hfew]
    go_wp2
    go_ret
    exact ⟨rfl, unhide HB1⟩
  rw [decide_eq_true hfew]
  obtain ⟨h30, hw3⟩ := hfew
  obtain ⟨hws, _⟩ := wsum_is c len (fun i hi => ((unhide HZ).2 i hi).2) len (Nat.le_refl _) h30
  rw [hws] at hw3
  have hds : dsum c len ≤ 3000 := by omega
  have hsm : ∀ i, i ≤ len → (∀ j, j < i → Ck.Kind (c j).1.data.toList) → (Ck.file (chs c i)).length ≤ 300000 := fun i hi hk => by
    rw [file_len c i hk]
    have := dsum_mono c hi
    omega
  have HSM := hide hsm
  clear hws hw3 hsm
  by_cases hb0 : bit < 0
  · have g0 : decide (bit < 0) = true := decide_eq_true hb0
    go_wp2
    go_ret
    exact ⟨rfl, unhide HB1⟩
  have g0 : decide (bit < 0) = false := decide_eq_false hb0
  by_cases hb7 : bit > 7
  · have g1 : decide (bit > 7) = true := decide_eq_true hb7
    have g1' : decide ((7 : Int) < bit) = true := g1
    go_wp2
    go_ret
    exact ⟨rfl, unhide HB1⟩
  have g1 : decide (bit > 7) = false := decide_eq_false hb7
  have g1' : decide ((7 : Int) < bit) = false := g1
  have HX := hide (chunksOfL_any ao len cap c w1 (unhide HP1) h30)
  go_wp2_with fail
  refine (unhide HX).mono ?_; rintro e w2 ⟨a2, c2, rfl, hC2, hb2⟩
  have HB2 := hide ((unhide HB1).trans (hb2.mono (unhide HB1).size))
  have HP2 := hide ((unhide HP1).kept hb2)
  have HS2 := hide ((unhide HS1).below hb2)
  have HX := hide (write_any a2 len c2 c w2 _ _ (unhide HS2 2 (by simp)) hC2 (by omega) (unhide HSM))
  clear HB1 HP1 HS1 hC2 hb2 g0 g1 g1'
  go_wp2_with fail
  refine (unhide HX).mono ?_; rintro e w3 ⟨hans, hb3⟩
  have HB3 := hide ((unhide HB2).trans (hb3.mono (unhide HB2).size))
  have HP3 := hide ((unhide HP2).kept hb3)
  have HS3 := hide ((unhide HS2).below hb3)
  clear HB2 HP2 HS2 hb3 HX
  rcases hans with ⟨hk, rfl⟩ | ⟨i, q, hil, hah, hbad, rfl, q0, q1, _⟩
  rotate_left
  · go_wp2
    go_ret
    exact ⟨rfl, unhide HB3⟩
  have hfl := unhide HSM len (Nat.le_refl _) hk
  obtain ⟨f, hf⟩ : ∃ f : ByteArray, f = ⟨(Ck.file (chs c len)).toArray⟩ := ⟨_, rfl⟩
  have hfL : f.data.toList = Ck.file (chs c len) := by rw [hf]
  have hfz : f.data.toList.length = f.size := Array.length_toList
  have hfs : f.size ≤ 300000 := by rw [← hfz, hfL]; exact hfl
  rw [← hf]
  have HK := hide hk
  have HFL := hide hfL
  clear hk hfl hf hfL
  by_cases ha8 : at_ < 8
  · have g2 : decide (at_ < 8) = true := decide_eq_true ha8
    go_wp2
    go_ret
    exact ⟨rfl, unhide HB3⟩
  have g2 : decide (at_ < 8) = false := decide_eq_false ha8
  by_cases has : at_ ≥ (f.size : Int)
  · have g3 : decide (at_ ≥ (f.size : Int)) = true := decide_eq_true has
    have g3' : decide ((f.size : Int) ≤ at_) = true := g3
    go_wp2
    go_ret
    exact ⟨rfl, unhide HB3⟩
  have g3 : decide (at_ ≥ (f.size : Int)) = false := decide_eq_false has
  have g3' : decide ((f.size : Int) ≤ at_) = false := g3
  obtain ⟨p, rfl⟩ := Int.eq_ofNat_of_zero_le (show (0 : Int) ≤ at_ by omega)
  obtain ⟨r, rfl⟩ := Int.eq_ofNat_of_zero_le (show (0 : Int) ≤ bit by omega)
  have hp8 : 8 ≤ p := by omega
  have hpf : p < f.size := by omega
  have hr8 : r < 8 := by omega
  have g3n : decide (f.size ≤ p) = false := decide_eq_false (by omega)
  have g2n : decide (p < 8) = false := decide_eq_false (by omega)
  clear ha8 has hb0 hb7
  go_wp2
  clear g2 g3 g3' g3n g2n
  go_loop [10, 11] (fun fv iv => ∃ (i fr : Nat), i ≤ len ∧ iv = .int .i64 (i : Int) ∧ fv = .int .i64 (fr : Int) ∧ Hid (fr = (Ck.file (chs c i)).length) ∧ Hid (∀ j, j < i → ¬ ((Ck.file (chs c j)).length ≤ p ∧ p < (Ck.file (chs c j)).length + 4))) (fun _ iv => len - (intOf iv).toNat)
  case atStart => exact ⟨0, 8, Nat.zero_le _, rfl, rfl, rfl, fun j hj => by omega⟩
  case round =>
    obtain ⟨i, fr, hi, rfl, rfl, HF, HN⟩ := hrel
    by_cases hlt : i < len
    · have d1 : decide ((i : Int) < (len : Int)) = true := decide_eq_true (by omega)
      have d1n : decide (i < len) = true := decide_eq_true hlt
      have hii : (i : Int) < (len : Int) := by omega
      have hfr : fr ≤ 300000 := by rw [unhide HF]; exact unhide HSM i (by omega) (fun j hj => unhide HK j (by omega))
      obtain ⟨fr4, hfr4⟩ : ∃ q, q = fr + 4 := ⟨_, rfl⟩
      have z4 : (fr : Int) + 4 = (fr4 : Int) := by omega
      by_cases h1 : fr ≤ p
      · have e1 : decide ((p : Int) ≥ (fr : Int)) = true := decide_eq_true (by omega)
        have e1' : decide ((fr : Int) ≤ (p : Int)) = true := e1
        have e1n : decide (fr ≤ p) = true := decide_eq_true h1
        by_cases h2 : p < fr4
        · have e2 : decide ((p : Int) < (fr4 : Int)) = true := decide_eq_true (by omega)
          have e2n : decide (p < fr4) = true := decide_eq_true h2
          clear hfr4
          go_wp2
          go_ret
          exact ⟨rfl, unhide HB3⟩
        · have e2 : decide ((p : Int) < (fr4 : Int)) = false := decide_eq_false (by omega)
          have e2n : decide (p < fr4) = false := decide_eq_false h2
          have HN2 : Hid (∀ j, j < i + 1 → ¬ ((Ck.file (chs c j)).length ≤ p ∧ p < (Ck.file (chs c j)).length + 4)) := fun j hj => by
            by_cases e : j = i
            · subst e; rw [← unhide HF]; intro q; omega
            · exact unhide HN j (by omega)
          rcases unhide HP3 with h0 | ⟨bb, off, rfl, hml, hcell⟩
          · omega
          obtain ⟨c0, c1, _, _⟩ := hcell i hlt
          have hnext := file_chs c i
          have hds2 := dsum_mono c (show i + 1 ≤ len by omega)
          have hds3 : dsum c (i + 1) = dsum c i + (c i).2.size := rfl
          have hnl : (Ck.file (chs c (i + 1))).length = fr + 12 + (c i).2.size := by
            rw [hnext, List.length_append, Ck.one_length, (unhide HK i hlt).1, show (c i).2.data.toList.length = (c i).2.size from Array.length_toList, ← unhide HF]
            omega
          generalize (c i).2 = d at *
          obtain ⟨fr2, hfr2⟩ : ∃ q, q = fr + 12 + d.size := ⟨_, rfl⟩
          have z2 : (fr : Int) + 12 + (d.size : Int) = (fr2 : Int) := by omega
          have hdz : d.size ≤ 3000 := by omega
          have HNL : Hid (fr2 = (Ck.file (chs c (i + 1))).length) := by show _ = _; rw [hnl]; exact hfr2
          clear hcell hml hnext hds2 hds3 hnl hfr4 hfr2 HN
          go_wp2
          go_round
          case rel => exact ⟨i + 1, fr2, by omega, by go_num, by first | rfl | go_num, HNL, HN2⟩
          case measure => simp [intOf]; omega
      · have e1 : decide ((p : Int) ≥ (fr : Int)) = false := decide_eq_false (by omega)
        have e1' : decide ((fr : Int) ≤ (p : Int)) = false := e1
        have e1n : decide (fr ≤ p) = false := decide_eq_false h1
        have HN2 : Hid (∀ j, j < i + 1 → ¬ ((Ck.file (chs c j)).length ≤ p ∧ p < (Ck.file (chs c j)).length + 4)) := fun j hj => by
          by_cases e : j = i
          · subst e; rw [← unhide HF]; intro q; omega
          · exact unhide HN j (by omega)
        rcases unhide HP3 with h0 | ⟨bb, off, rfl, hml, hcell⟩
        · omega
        obtain ⟨c0, c1, _, _⟩ := hcell i hlt
        have hnext := file_chs c i
        have hds2 := dsum_mono c (show i + 1 ≤ len by omega)
        have hds3 : dsum c (i + 1) = dsum c i + (c i).2.size := rfl
        have hnl : (Ck.file (chs c (i + 1))).length = fr + 12 + (c i).2.size := by
          rw [hnext, List.length_append, Ck.one_length, (unhide HK i hlt).1, show (c i).2.data.toList.length = (c i).2.size from Array.length_toList, ← unhide HF]
          omega
        generalize (c i).2 = d at *
        obtain ⟨fr2, hfr2⟩ : ∃ q, q = fr + 12 + d.size := ⟨_, rfl⟩
        have z2 : (fr : Int) + 12 + (d.size : Int) = (fr2 : Int) := by omega
        have hdz : d.size ≤ 3000 := by omega
        have HNL : Hid (fr2 = (Ck.file (chs c (i + 1))).length) := by show _ = _; rw [hnl]; exact hfr2
        clear hcell hml hnext hds2 hds3 hnl hfr4 hfr2 HN
        go_wp2
        go_round
        case rel => exact ⟨i + 1, fr2, by omega, by go_num, by first | rfl | go_num, HNL, HN2⟩
        case measure => simp [intOf]; omega
    · obtain rfl : i = len := by omega
      have d1 : decide ((i : Int) < (i : Int)) = false := by simp
      obtain ⟨v, w4, hcv, hown, hb4⟩ := to_bytesM w3 f (by unfold maxLen; omega)
      obtain ⟨g, cp, hv, hg3, hgl, hlc, hcm, hfree, hcell⟩ := hown.ex
      subst hv
      rw [hfz] at hcv hown
      have hpl : p < f.data.toList.length := by omega
      have cp0 := hcell p hpl
      have cpf := (hfree p (by omega)).2
      obtain ⟨x, hx⟩ : ∃ x, x = f.data.toList[p] := ⟨_, rfl⟩
      rw [← hx] at cp0
      obtain ⟨y, hy⟩ : ∃ y, y = UInt8.ofNat (x.toNat ^^^ 2 ^ r) := ⟨_, rfl⟩
      have hbt := byte_turnC x.toNat r x.toNat_lt hr8
      rw [← hy] at hbt
      have hxd : f.data.toList.getD p 0 = x := by rw [List.getD_eq_getElem?_getD, List.getElem?_eq_getElem hpl, hx]; rfl
      have hset : OwnM (w4.setCell ⟨g, p, none⟩ (.int .u8 (y.toNat : Int))) w3.heap.size (.slice (some ⟨g, 0, none⟩) f.size cp) (f.data.toList.set p y) := by
        rw [← hfz] at hown ⊢
        exact hown.set p hpl y
      have hcv2 := hset.text
      obtain ⟨t, ht⟩ : ∃ t : ByteArray, t = ⟨(f.data.toList.set p y).toArray⟩ := ⟨_, rfl⟩
      rw [← ht] at hcv2
      have htl : t.data.toList = f.data.toList.set p y := by rw [ht]
      have htz : t.size ≤ 300000 := by
        have e1 : t.data.toList.length = t.size := Array.length_toList
        rw [← e1, htl, List.length_set, hfz]; exact hfs
      have htb := turned_bad c i p r (unhide HK) (fun j hj => by
        have h1 := dsum_mono c (show j + 1 ≤ i from hj)
        have h2 : dsum c (j + 1) = dsum c j + (c j).2.size := rfl
        omega) hp8 (by rw [← unhide HFL, hfz]; exact hpf) (unhide HN) hr8
      rw [← unhide HFL, hxd, ← hy, ← htl] at htb
      have HTB := hide htb
      have hbs : Below w3.heap.size w3 (w4.setCell ⟨g, p, none⟩ (.int .u8 (y.toNat : Int))) := hb4.setCell (p := ⟨g, p, none⟩) hg3 _
      have HB5 := hide ((unhide HB3).trans (hbs.mono (unhide HB3).size))
      have HS5 := (unhide HS3).below hbs
      have HX := hide (read_any t _ _ _ _ _ (HS5 0 (by simp)) (HS5 3 (by simp)) htz)
      have hpi : (p : Int) < (f.size : Int) := by omega
      have hri : ¬ ((r : Int) < 0) := by omega
      have hr64 : decide ((r : Int) < 64) = true := decide_eq_true (by omega)
      clear hown hfree hcell hy hset ht htl htb hbs HS5 hb4 hx hxd HN HF
      go_wp2_with fail
      refine (unhide HX).mono ?_; rintro e w6 ⟨hr6, hb6⟩
      obtain ⟨h8, cc, b, hrd⟩ := unhide HTB
      rcases hr6 with ⟨hno, _⟩ | ⟨_, r6, hr6, hans⟩
      · exact absurd h8 hno
      obtain rfl := hr6.unique hrd
      obtain ⟨q, rfl, _, _, _⟩ := hans
      have HB6 := hide ((unhide HB5).trans (hb6.mono (unhide HB5).size))
      clear HX hr6 hb6 HB5 hrd HTB h8 hcv hcv2 cp0 cpf hbt
      go_wp2
      go_ret
      exact ⟨rfl, unhide HB6⟩
end Go.Proofs.YtlnglpphlcebdafDoor
