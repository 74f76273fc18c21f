/- Walks of texts in parts, and back: the program's. -/
import Derived.Test.YtmmilamaahmaoaeDoorSb
import Derived.Test.YtmmilamaahmaoaeDoorLz0
import Derived.Test.YtmmilamaahmaoaeDoorTxH
import Derived.Test.YtmmilamaahmaoaeDoorQB
namespace Go.Proofs.YtmmilamaahmaoaeDoor
open Go.RowKit Lz

theorem toNat_u8 (n : Nat) (h : n < 256) : ((UInt8.ofNat n).toNat : Int) = (n : Int) := by rw [toNat_len n (by omega)]

theorem not_blank (u : ByteArray) (h : 0 < u.size) : (u.toList == []) = false ∧ u.toList.isEmpty = false ∧ (u.toList == (⟨#[]⟩ : ByteArray).toList) = false := by
  have hq : u.toList ≠ [] := fun q => by
    rw [ByteArray.toList_eq] at q
    have h1 : u.data.toList.length = u.size := size_list u
    rw [q] at h1
    simp only [List.length_nil] at h1
    omega
  refine ⟨beq_eq_false_iff_ne.2 hq, by simpa using hq, ?_⟩
  rw [ByteArray.toList_eq ⟨#[]⟩]; exact beq_eq_false_iff_ne.2 hq

set_option maxHeartbeats 2000000 in
set_option maxRecDepth 100000 in
theorem blocks_any (s : ByteArray) (w : World) (hs : s.size ≤ 2000) :
    Calls Tryd.prog 17 #[.string s] w fun e w' => e = .returned (.string ⟨(blocksL s.size s.data.toList).toArray⟩) ∧ Below w.heap.size w w' := by
  obtain ⟨G, hG⟩ : ∃ G, G = blocksL s.size s.data.toList := ⟨_, rfl⟩
  rw [← hG]
  have HG := hide hG
  clear hG
  have HN := hide (sb_new w)
  have HB := hide ((Below.refl w.heap.size w).alloc (Nat.le_refl _) (.cells #[.pointer none, .slice none 0 0] 89))
  have hBl : w.heap.size ≤ (w.alloc (.cells #[.pointer none, .slice none 0 0] 89)).heap.size := by simp
  go_enter Tryd.func17, Tryd.ntmps17
  go_wp2
  go_loopw [0] (fun sv wr => ∃ (t : ByteArray) (o : List UInt8) (f : Nat), sv = .string t ∧ Hid (SB wr w.heap.size w.heap.size o) ∧ t.size ≤ f ∧ t.size ≤ 2000 ∧ o.length + 2 * t.size ≤ 10000 ∧ Hid (G = o ++ blocksL f t.data.toList) ∧ Hid (Below w.heap.size w wr) ∧ w.heap.size ≤ wr.heap.size) (fun sv _ => (match sv with | .string t => t.size | _ => 0))
  case atStart => exact ⟨s, [], s.size, rfl, HN, Nat.le_refl _, hs, by simp; omega, HG, HB, hBl⟩
  case round =>
    obtain ⟨t, o, f, rfl, HS, htf, ht2, hot, HGr, HBr, hwz⟩ := hrel
    clear HN HB hBl HG
    by_cases h0 : 0 < t.size
    · obtain ⟨f', hf'⟩ : ∃ f', f = f' + 1 := ⟨f - 1, by omega⟩
      have hne : t.data.toList ≠ [] := fun q => by have := size_list t; rw [q] at this; simp at this; omega
      obtain ⟨hq1, hq2, hq3⟩ := not_blank t h0
      obtain ⟨n, hn⟩ : ∃ n, n = min t.size 255 := ⟨_, rfl⟩
      obtain ⟨c, hc⟩ : ∃ c, c = UInt8.ofNat n := ⟨_, rfl⟩
      have hcn : (c.toNat : Int) = (n : Int) := by rw [hc]; exact toNat_u8 n (by omega)
      have hmin : min (t.size : Int) 255 = (n : Int) := by omega
      have hmod : (n : Int) % 256 = (n : Int) := by omega
      have hnt : n ≤ t.size := by omega
      have hnti : (n : Int) ≤ (t.size : Int) := by omega
      have hn0 : (0 : Int) ≤ (n : Int) := by omega
      have hnl : n < 256 := by omega
      have HC1 : Hid (Calls Tryd.prog 41 #[.pointer (some ⟨w.heap.size, 0, none⟩), .int .u8 (n : Int)] wr fun e w' => e = .returned .nilIface ∧ SB w' w.heap.size w.heap.size (o ++ [c]) ∧ Below w.heap.size wr w') := by
        have := sb_byte w.heap.size w.heap.size o c wr (unhide HS) (by omega) hwz
        rw [hcn] at this
        exact this
      have hcs : (t.extract 0 n).size = n := by simp; omega
      have HC2 : Hid (∀ w1, SB w1 w.heap.size w.heap.size (o ++ [c]) → w.heap.size ≤ w1.heap.size → Calls Tryd.prog 42 #[.pointer (some ⟨w.heap.size, 0, none⟩), .string (t.extract 0 n)] w1 fun e w' => e = .returned (.tuple #[.int .i64 (t.extract 0 n).size, .nilIface]) ∧ SB w' w.heap.size w.heap.size ((o ++ [c]) ++ t.data.toList.take n) ∧ Below w.heap.size w1 w') := fun w1 h1 h2 => by
        have := sb_text w.heap.size w.heap.size (o ++ [c]) (t.extract 0 n) w1 h1 (by simp; omega) (by omega) h2
        rw [front] at this
        exact this
      have HT : Hid (blocksL f t.data.toList = c :: (t.data.toList.take n ++ blocksL f' (t.data.toList.drop n))) := by
        show _ = _
        rw [hf', blocksL_cons f' _ hne, size_list, ← hn, ← hc]
        have e1 : t.data.toList.take 255 = t.data.toList.take n := by
          rcases Nat.le_total t.size 255 with q | q
          · rw [List.take_of_length_le (by rw [size_list]; exact q), List.take_of_length_le (by rw [size_list]; omega)]
          · rw [show n = 255 by omega]
        have e2 : t.data.toList.drop 255 = t.data.toList.drop n := by
          rcases Nat.le_total t.size 255 with q | q
          · rw [List.drop_of_length_le (by rw [size_list]; exact q), List.drop_of_length_le (by rw [size_list]; omega)]
          · rw [show n = 255 by omega]
        rw [e1, e2]
      have Hf' := hide hf'
      have Hn := hide hn
      clear hf' hn hne hc hcn
      go_wp2_with fail
      refine (unhide HC1).mono ?_; rintro e w1 ⟨rfl, hS1, hb1⟩
      have hz1 : w.heap.size ≤ w1.heap.size := Nat.le_trans hwz hb1.size
      have HX := hide (unhide HC2 w1 hS1 hz1)
      have HB1 := hide ((unhide HBr).trans hb1)
      clear HC1 HC2 hS1 hb1 HBr
      go_wp2_with fail
      refine (unhide HX).mono ?_; rintro e w2 ⟨rfl, hS2, hb2⟩
      have HS2 := hide hS2
      have hz2 : w.heap.size ≤ w2.heap.size := Nat.le_trans hz1 hb2.size
      have HB2 := hide ((unhide HB1).trans hb2)
      clear HX HB1 hS2 hb2
      go_wp2
      go_roundw
      case rel => 
        refine ⟨t.extract n t.size, (o ++ [c]) ++ t.data.toList.take n, f', rfl, HS2, ?_, ?_, ?_, ?_, HB2, hz2⟩
        all_goals have := unhide Hf'
        all_goals have := unhide Hn
        · simp; omega
        · simp; omega
        · simp; omega
        · show _ = _
          rw [unhide HGr, unhide HT, back]
          simp
      case measure => have := unhide Hn; simp; omega
    · have ht0 : t = ⟨#[]⟩ := by
        apply text_ext
        apply List.eq_nil_of_length_eq_zero
        rw [size_list]; omega
      subst ht0
      have HC1 : Hid (Calls Tryd.prog 41 #[.pointer (some ⟨w.heap.size, 0, none⟩), .int .u8 0] wr fun e w' => e = .returned .nilIface ∧ SB w' w.heap.size w.heap.size (o ++ [0]) ∧ Below w.heap.size wr w') := sb_byte w.heap.size w.heap.size o 0 wr (unhide HS) (by omega) hwz
      have HGE : Hid (G = o ++ [0]) := by show _ = _; rw [unhide HGr]; exact congrArg _ (blocksL_nil f)
      clear HGr
      go_wp2_with fail
      refine (unhide HC1).mono ?_; rintro e w1 ⟨rfl, hS1, hb1⟩
      have hz1 : w.heap.size ≤ w1.heap.size := Nat.le_trans hwz hb1.size
      have HX := hide (sb_string w.heap.size w.heap.size (o ++ [0]) w1 hS1 hz1)
      have HB1 := hide ((unhide HBr).trans hb1)
      clear HC1 hS1 hb1 HBr
      go_wp2_with fail
      refine (unhide HX).mono ?_; rintro e w2 ⟨rfl, hb2⟩
      clear HX
      go_wp2
      go_ret
      exact ⟨by rw [unhide HGE]; rfl, (unhide HB1).trans hb2⟩

/-- What Join answers. -/
def joinV (ev : Value) : Option (List UInt8 × Nat) → Value
  | none => .tuple #[.string ⟨#[]⟩, .int .i64 0, ev]
  | some x => .tuple #[.string ⟨x.1.toArray⟩, .int .i64 (x.2 : Int), .nilIface]

theorem byte_at (s : ByteArray) (i : Nat) (_h : i < s.size) (h' : i < s.data.toList.length) : s.data.toList[i] = s[i] := by simp; rfl

set_option maxHeartbeats 2000000 in
set_option maxRecDepth 100000 in
theorem join_any (s : ByteArray) (ev : Value) (w : World) (hs : s.size ≤ 10000) (hev : w.cell? ⟨2, 0, none⟩ = some ev) :
    Calls Tryd.prog 19 #[.string s] w fun e w' => e = .returned (joinV ev (joinL s.size s.data.toList)) ∧ Below w.heap.size w w' := by
  obtain ⟨G, hG⟩ : ∃ G, G = joinL s.size s.data.toList := ⟨_, rfl⟩
  rw [← hG]
  have HG : Hid (G = (joinL s.size (s.data.toList.drop 0)).map fun x => (([] : List UInt8) ++ x.1, 0 + x.2)) := by
    show _ = _
    rw [hG]
    simp
  have HGO := hide hG
  clear hG
  have HN := hide (sb_new w)
  have HB := hide ((Below.refl w.heap.size w).alloc (Nat.le_refl _) (.cells #[.pointer none, .slice none 0 0] 89))
  have hBl : w.heap.size ≤ (w.alloc (.cells #[.pointer none, .slice none 0 0] 89)).heap.size := by simp
  have hgl : 2 < w.heap.size := World.block_lt_of_cell? _ _ hev
  have HEV : Hid (∀ w', Below w.heap.size w w' → w'.cell? ⟨2, 0, none⟩ = some ev) := fun w' hb => (hb.cell hgl).trans hev
  have hsl := size_list s
  clear hev hgl
  go_enter Tryd.func19, Tryd.ntmps19
  go_wp2
  go_loopw [2, 3, 4, 6] (fun x2 x3 x4 iv wr => ∃ (i f : Nat) (o : List UInt8), x2 = .string ⟨#[]⟩ ∧ x3 = .int .i64 0 ∧ x4 = .nilIface ∧ iv = .int .i64 (i : Int) ∧ Hid (SB wr w.heap.size w.heap.size o) ∧ i ≤ s.size ∧ s.size ≤ i + f ∧ o.length ≤ i ∧ Hid (G = (joinL f (s.data.toList.drop i)).map fun x => (o ++ x.1, i + x.2)) ∧ Hid (Below w.heap.size w wr) ∧ w.heap.size ≤ wr.heap.size) (fun _ _ _ iv _ => s.size - (intOf iv).toNat)
  case atStart => exact ⟨0, s.size, [], rfl, rfl, rfl, rfl, HN, by omega, by omega, by simp, HG, HB, hBl⟩
  case round =>
    obtain ⟨i, f, o, rfl, rfl, rfl, rfl, HS, his, hif, hoi, HGr, HBr, hwz⟩ := hrel
    clear HN HB hBl HG
    by_cases h0 : i < s.size
    · obtain ⟨f', hf'⟩ : ∃ f', f = f' + 1 := ⟨f - 1, by omega⟩
      subst hf'
      have hil : i < s.data.toList.length := by omega
      have hbe := byte_at s i h0 hil
      obtain ⟨n, hn⟩ : ∃ n, n = s[i].toNat := ⟨_, rfl⟩
      have hnl : n < 256 := by rw [hn]; exact s[i].toNat_lt
      have g0 : decide ((i : Int) < (s.size : Int)) = true := by simp; omega
      have g0n : decide (i < s.size) = true := by simp; omega
      have hii : (i : Int) < (s.size : Int) := by omega
      by_cases hz : n = 0
      · have HJ : Hid (G = some (o, i + 1)) := by
          show _ = _
          rw [unhide HGO]
          exact join_stop s.size f' i s.data.toList o hil (by rw [hbe]; omega) (by rw [← unhide HGO]; exact unhide HGr)
        have HX := hide (sb_string w.heap.size w.heap.size o wr (unhide HS) hwz)
        rw [hz] at hn
        have hn' : (s[i].toNat : Int) = 0 := by omega
        clear HGr HGO hbe hn
        go_wp2_with fail
        refine (unhide HX).mono ?_; rintro e w2 ⟨rfl, hb2⟩
        have HB2 := hide ((unhide HBr).trans hb2)
        clear HX hb2
        go_wp2
        go_ret3
        exact ⟨by rw [unhide HJ]; rfl, unhide HB2⟩
      · have hn' : (s[i].toNat : Int) = (n : Int) := by omega
        have g1 : ((n : Int) == 0) = false := by simp; omega
        by_cases hsh : s.size < i + 1 + n
        · have HJ : Hid (G = none) := by
            show _ = _
            rw [unhide HGO]
            exact join_short s.size f' i s.data.toList o hil (by rw [hbe]; omega) (by rw [← unhide HGO]; exact unhide HGr) (by rw [hbe]; omega)
          have g2 : decide ((s.size : Int) - ((i : Int) + 1) < (n : Int)) = true := by simp; omega
          have HC := hide (unhide HEV wr (unhide HBr))
          have hev := unhide HC
          clear HGr HGO hbe hn HC
          go_wp2
          go_region
          go_wp2
          go_ret3
          exact ⟨by rw [unhide HJ]; rfl, (unhide HBr).drew⟩
        · have HJ : Hid (G = (joinL f' (s.data.toList.drop (i + 1 + n))).map fun x => ((o ++ (s.data.toList.drop (i + 1)).take n) ++ x.1, i + 1 + n + x.2)) := by
            show _ = _
            have := join_step s.size f' i s.data.toList o hil (by rw [hbe]; omega) (by rw [← unhide HGO]; exact unhide HGr) (by rw [hbe]; omega)
            rw [hbe, ← hn] at this
            rw [unhide HGO]
            exact this
          have g2 : decide ((s.size : Int) - ((i : Int) + 1) < (n : Int)) = false := by simp; omega
          have hcs : (s.extract (i + 1) (i + 1 + n)).size = n := by simp; omega
          have HC2 : Hid (Calls Tryd.prog 42 #[.pointer (some ⟨w.heap.size, 0, none⟩), .string (s.extract (i + 1) (i + 1 + n))] wr fun e w' => e = .returned (.tuple #[.int .i64 (s.extract (i + 1) (i + 1 + n)).size, .nilIface]) ∧ SB w' w.heap.size w.heap.size (o ++ (s.data.toList.drop (i + 1)).take n) ∧ Below w.heap.size wr w') := by
            have := sb_text w.heap.size w.heap.size o (s.extract (i + 1) (i + 1 + n)) wr (unhide HS) (by omega) (by omega) hwz
            rw [between] at this
            exact this
          have k1 : (i : Int) + 1 + (n : Int) ≤ (s.size : Int) := by omega
          have k2 : (i : Int) + 1 ≤ (i : Int) + 1 + (n : Int) := by omega
          have hl2 : (o ++ (s.data.toList.drop (i + 1)).take n).length ≤ i + 1 + n := by simp; omega
          clear HGr HGO hbe hn hcs
          go_wp2_with fail
          refine (unhide HC2).mono ?_; rintro e w2 ⟨rfl, hS2, hb2⟩
          have HS2 := hide hS2
          have hz2 : w.heap.size ≤ w2.heap.size := Nat.le_trans hwz hb2.size
          have HB2 := hide ((unhide HBr).trans hb2)
          clear HC2 hS2 hb2
          go_wp2
          go_roundw
          case rel => exact ⟨i + 1 + n, f', o ++ (s.data.toList.drop (i + 1)).take n, rfl, rfl, rfl, by go_num, HS2, by omega, by omega, hl2, HJ, HB2, hz2⟩
          case measure => simp [intOf]; omega
    · have HJ : Hid (G = none) := by
        show _ = _
        rw [unhide HGO]
        exact join_end s.size f i s.data.toList o (by omega) (by rw [← unhide HGO]; exact unhide HGr)
      have g0 : decide ((i : Int) < (s.size : Int)) = false := by simp; omega
      have g0n : decide (i < s.size) = false := by simp; omega
      have hev := unhide HEV wr (unhide HBr)
      clear HGr HGO
      go_wp2
      go_region
      go_wp2
      go_ret3
      exact ⟨by rw [unhide HJ]; rfl, (unhide HBr).drew⟩
end Go.Proofs.YtmmilamaahmaoaeDoor
