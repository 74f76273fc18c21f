/- Walks of texts in parts, and back: the document's. -/
import Derived.Test.YtfgphihhnlgfhaeDoorLz1
namespace Go.Proofs.YtfgphihhnlgfhaeDoor
open Go.RowKit Lz

theorem u8_text (n : Nat) (l t : List UInt8) (o : ByteArray) (T : ByteArray) (h : o.data.toList = l) (ht : T.data.toList = t) : (o ++ ⟨#[UInt8.ofNat n]⟩ ++ T).data.toList = l ++ (UInt8.ofNat n :: t) := by
  simp [ByteArray.data_append, h, ht]

set_option maxHeartbeats 2000000 in
set_option maxRecDepth 100000 in
theorem blocksOf_any (s : ByteArray) (w : World) (hs : s.size ≤ 2000) :
    Calls Tryd.prog 17 #[.string s] w fun e w' => e = .returned (.string ⟨(blocksL s.size s.data.toList).toArray⟩) ∧ Below w.heap.size w w' := by
  have H255 : Hid (∀ w, Calls Tryd.prog 32 #[.int .i64 255] w fun e w' => e = .returned (.string ⟨#[UInt8.ofNat 255]⟩) ∧ Below w.heap.size w w') := fun w => byte_any 255 w (by omega)
  have H0 : Hid (∀ w, Calls Tryd.prog 32 #[.int .i64 0] w fun e w' => e = .returned (.string ⟨#[UInt8.ofNat 0]⟩) ∧ Below w.heap.size w w') := fun w => byte_any 0 w (by omega)
  have HBY : Hid (∀ (m : Nat) (w : World), m < 256 → Calls Tryd.prog 32 #[.int .i64 (m : Int)] w fun e w' => e = .returned (.string ⟨#[UInt8.ofNat m]⟩) ∧ Below w.heap.size w w') := fun m w h => byte_any m w h
  obtain ⟨G, hG⟩ : ∃ G, G = blocksL s.size s.data.toList := ⟨_, rfl⟩
  rw [← hG]
  have HG := hide hG
  clear hG
  go_enter Tryd.func17, Tryd.ntmps17
  go_wp2
  go_loopw [0, 3] (fun sv ov wr => ∃ (t o : ByteArray) (f : Nat), sv = .string t ∧ ov = .string o ∧ t.size ≤ f ∧ t.size ≤ 2000 ∧ o.size + 2 * t.size ≤ 10000 ∧ Hid (G = o.data.toList ++ blocksL f t.data.toList) ∧ Below w.heap.size w wr) (fun sv _ _ => (match sv with | .string t => t.size | _ => 0))
  case atStart => exact ⟨s, ⟨#[]⟩, s.size, rfl, rfl, Nat.le_refl _, hs, by show 0 + _ ≤ _; omega, HG, Below.refl _ _⟩
  case round =>
    obtain ⟨t, o, f, rfl, rfl, htf, ht2, hot, HGr, hbr⟩ := hrel
    clear HG
    by_cases hlt : 255 < t.size
    · have g1 : decide ((t.size : Int) > 255) = true := by simp; omega
      have g1' : decide ((255 : Int) < (t.size : Int)) = true := g1
      have g1n : decide (255 < t.size) = true := by simp; omega
      have hti : (255 : Int) ≤ (t.size : Int) := by omega
      have htn : 255 ≤ t.size := by omega
      have n1 : ¬ (9223372036854775807 < o.size + 1) := by omega
      have n2 : ¬ (9223372036854775807 < o.size + 1 + 255) := by omega
      have n3 : ¬ (9223372036854775807 < o.size + 1 + min 255 t.size) := by omega
      have n4 : ¬ (9223372036854775807 < o.size + 1 + t.size) := by omega
      obtain ⟨f', hf'⟩ : ∃ f', f = f' + 1 := ⟨f - 1, by omega⟩
      have hne : t.data.toList ≠ [] := fun q => by have := size_list t; rw [q] at this; simp at this; omega
      obtain ⟨o2, ho2⟩ : ∃ o2, o2 = o ++ ⟨#[UInt8.ofNat 255]⟩ ++ t.extract 0 255 := ⟨_, rfl⟩
      have hcs : (t.extract 0 255).size = 255 := by simp; omega
      have hos : o2.size = o.size + 256 := by rw [ho2]; simp only [ByteArray.size_append, hcs]; rfl
      have HGN : Hid (G = o2.data.toList ++ blocksL f' (t.extract 255 t.size).data.toList) := by
        show _ = _
        rw [unhide HGr, hf', blocksL_cons f' _ hne, size_list, ho2, u8_text 255 _ _ _ _ rfl (front t 255), back, show min t.size 255 = 255 by omega]
        simp
      have hbs : (t.extract 255 t.size).size = t.size - 255 := by simp
      have HO2 := hide ho2
      have Hf' := hide hf'
      clear ho2 hf' HGr hne
      go_wp2_with fail
      haveI : Nonempty (BelowOf w.heap.size w) := ⟨⟨w, Below.refl _ _⟩⟩
      refine region_below w.heap.size w hbr (by kernel_rfl) ?_
      repeat (quiet_step ((go_at_call 32; exact Calls.below_of (Nat.le_refl _) (unhide H255 _))))
      refine wpQuiet_nil ?_
      intro _ hw'
      obtain ⟨⟨wq, hwq⟩, rfl⟩ := hw'
      go_wp2
      go_roundw
      case rel => exact ⟨t.extract 255 t.size, o2, f', rfl, by rw [unhide HO2]; rfl, by have := unhide Hf'; omega, by omega, by omega, HGN, hwq⟩
      case measure => simp; omega
    · have g1 : decide ((t.size : Int) > 255) = false := by simp; omega
      have g1' : decide ((255 : Int) < (t.size : Int)) = false := g1
      have g1n : decide (255 < t.size) = false := by simp; omega
      by_cases h0 : 0 < t.size
      · obtain ⟨hq1, hq2, hq3⟩ := not_blank t h0
        have HC := hide (unhide HBY t.size wr (by omega))
        obtain ⟨f', hf'⟩ : ∃ f', f = f' + 1 := ⟨f - 1, by omega⟩
        have hne : t.data.toList ≠ [] := fun q => by have := size_list t; rw [q] at this; simp at this; omega
        obtain ⟨o2, ho2⟩ : ∃ o2, o2 = o ++ ⟨#[UInt8.ofNat t.size]⟩ ++ t := ⟨_, rfl⟩
        have HGN : Hid (o2 ++ ⟨#[UInt8.ofNat 0]⟩ = ⟨G.toArray⟩) := by
          show _ = _
          apply text_ext
          rw [unhide HGr, hf', blocksL_cons f' _ hne, size_list, ByteArray.data_append, Array.toList_append, ho2, u8_text t.size _ _ _ _ rfl rfl, show min t.size 255 = t.size by omega, List.take_of_length_le (by rw [size_list]; omega), List.drop_of_length_le (by rw [size_list]; omega), blocksL_nil]
          simp
        have n1 : ¬ (9223372036854775807 < o.size + 1) := by omega
        have n2 : ¬ (9223372036854775807 < o.size + 1 + t.size) := by omega
        have n3 : ¬ (9223372036854775807 < o.size + 1 + t.size + 1) := by omega
        have HO2 := hide ho2
        clear ho2 hf' HGr hne HBY
        go_wp2_with fail
        refine (unhide HC).mono ?_; rintro e w1 ⟨rfl, hb1⟩
        have HD := hide (unhide H0 w1)
        have HB1 := hide (hbr.trans (hb1.mono hbr.size))
        clear HC hb1 H0 H255
        go_wp2_with fail
        refine (unhide HD).mono ?_; rintro e w2 ⟨rfl, hb2⟩
        have HB2 := hide ((unhide HB1).trans (hb2.mono (unhide HB1).size))
        clear HD hb2
        go_wp2
        go_ret
        exact ⟨by rw [← unhide HGN, unhide HO2]; rfl, unhide HB2⟩
      · have ht0 : t = ⟨#[]⟩ := by
          apply text_ext
          apply List.eq_nil_of_length_eq_zero
          rw [size_list]; omega
        subst ht0
        have HGN : Hid (o ++ ⟨#[UInt8.ofNat 0]⟩ = ⟨G.toArray⟩) := by
          show _ = _
          apply text_ext
          rw [unhide HGr, ByteArray.data_append, Array.toList_append]
          exact congrArg _ (blocksL_nil f).symm
        have n1 : ¬ (9223372036854775807 < o.size + 1) := by omega
        have HD := hide (unhide H0 wr)
        clear HGr HBY H0 H255 htf ht2 hot hlt g1 g1' g1n h0
        go_wp2_with fail
        refine (unhide HD).mono ?_; rintro e w2 ⟨rfl, hb2⟩
        have HB2 := hide (hbr.trans (hb2.mono hbr.size))
        clear HD hb2
        go_wp2
        go_ret
        exact ⟨by rw [← unhide HGN]; rfl, unhide HB2⟩

/-- What the document's reading of parts answers. -/
def joinD : Option (List UInt8 × Nat) → Value
  | none => .tuple #[.string ⟨#[]⟩, .int .i64 0, .int .i64 1]
  | some x => .tuple #[.string ⟨x.1.toArray⟩, .int .i64 (x.2 : Int), .int .i64 0]

set_option maxHeartbeats 2000000 in
set_option maxRecDepth 100000 in
theorem joinOf_any (s : ByteArray) (w : World) (hs : s.size ≤ 10000) :
    Calls Tryd.prog 19 #[.string s] w fun e w' => e = .returned (joinD (joinL s.size s.data.toList)) ∧ w' = w := by
  obtain ⟨G, hG⟩ : ∃ G, G = joinL s.size s.data.toList := ⟨_, rfl⟩
  rw [← hG]
  have HG : Hid (G = (joinL s.size (s.data.toList.drop 0)).map fun x => ((⟨#[]⟩ : ByteArray).data.toList ++ x.1, 0 + x.2)) := by
    show _ = _
    rw [hG]
    simp
  have HGO := hide hG
  have hsl := size_list s
  clear hG
  go_enter Tryd.func19, Tryd.ntmps19
  go_wp2
  go_loopw [2, 3, 4, 5, 6] (fun x2 x3 x4 ov iv wr => ∃ (i f : Nat) (o : ByteArray), x2 = .string ⟨#[]⟩ ∧ x3 = .int .i64 0 ∧ x4 = .int .i64 0 ∧ ov = .string o ∧ iv = .int .i64 (i : Int) ∧ i ≤ s.size ∧ s.size ≤ i + f ∧ o.size ≤ i ∧ Hid (G = (joinL f (s.data.toList.drop i)).map fun x => (o.data.toList ++ x.1, i + x.2)) ∧ wr = w) (fun _ _ _ _ iv _ => s.size - (intOf iv).toNat)
  case atStart => exact ⟨0, s.size, ⟨#[]⟩, rfl, rfl, rfl, rfl, rfl, by omega, by omega, Nat.le_refl 0, HG, rfl⟩
  case round =>
    obtain ⟨i, f, o, rfl, rfl, rfl, rfl, rfl, his, hif, hoi, HGr, rfl⟩ := hrel
    clear HG
    by_cases h0 : i < s.size
    · obtain ⟨f', hf'⟩ : ∃ f', f = f' + 1 := ⟨f - 1, by omega⟩
      subst hf'
      have hil : i < s.data.toList.length := by omega
      have hbe := byte_at s i h0 hil
      obtain ⟨n, hn⟩ : ∃ n, n = s[i].toNat := ⟨_, rfl⟩
      have hnl : n < 256 := by rw [hn]; exact s[i].toNat_lt
      have g0 : decide ((i : Int) < (s.size : Int)) = true := by simp; omega
      have g0n : decide (i < s.size) = true := by simp; omega
      have hii : (i : Int) < (s.size : Int) := by omega
      by_cases hz : n = 0
      · have HJ : Hid (G = some (o.data.toList, i + 1)) := by
          show _ = _
          rw [unhide HGO]
          exact join_stop s.size f' i s.data.toList o.data.toList hil (by rw [hbe]; omega) (by rw [← unhide HGO]; exact unhide HGr)
        rw [hz] at hn
        have hn' : (s[i].toNat : Int) = 0 := by omega
        clear HGr HGO hbe hn
        go_wp2
        go_ret3
        exact ⟨by rw [unhide HJ]; rfl, rfl⟩
      · have hn' : (s[i].toNat : Int) = (n : Int) := by omega
        have g1 : ((n : Int) == 0) = false := by simp; omega
        by_cases hsh : s.size < i + 1 + n
        · have HJ : Hid (G = none) := by
            show _ = _
            rw [unhide HGO]
            exact join_short s.size f' i s.data.toList o.data.toList hil (by rw [hbe]; omega) (by rw [← unhide HGO]; exact unhide HGr) (by rw [hbe]; omega)
          have g2 : decide ((s.size : Int) < (i : Int) + 1 + (n : Int)) = true := by simp; omega
          clear HGr HGO hbe hn
          go_wp2
          go_ret3
          exact ⟨by rw [unhide HJ]; rfl, rfl⟩
        · obtain ⟨o2, ho2⟩ : ∃ o2, o2 = o ++ s.extract (i + 1) (i + 1 + n) := ⟨_, rfl⟩
          have HJ : Hid (G = (joinL f' (s.data.toList.drop (i + 1 + n))).map fun x => (o2.data.toList ++ x.1, i + 1 + n + x.2)) := by
            show _ = _
            have := join_step s.size f' i s.data.toList o.data.toList hil (by rw [hbe]; omega) (by rw [← unhide HGO]; exact unhide HGr) (by rw [hbe]; omega)
            rw [hbe, ← hn] at this
            rw [unhide HGO, ho2, ByteArray.data_append, Array.toList_append, between]
            exact this
          have g2 : decide ((s.size : Int) < (i : Int) + 1 + (n : Int)) = false := by simp; omega
          have hcs : (s.extract (i + 1) (i + 1 + n)).size = n := by simp; omega
          have k1 : (i : Int) + 1 + (n : Int) ≤ (s.size : Int) := by omega
          have k2 : (i : Int) + 1 ≤ (i : Int) + 1 + (n : Int) := by omega
          have hos : o2.size = o.size + n := by rw [ho2, ByteArray.size_append, hcs]
          have n1 : ¬ (9223372036854775807 < o.size + n) := by omega
          have n2 : ¬ (9223372036854775807 < o.size + (s.extract (i + 1) (i + 1 + n)).size) := by omega
          have HO2 := hide ho2
          clear HGr HGO hbe hn ho2
          go_wp2
          go_roundw
          case rel => exact ⟨i + 1 + n, f', o2, rfl, rfl, rfl, by rw [unhide HO2], by go_num, by omega, by omega, by omega, HJ, trivial⟩
          case measure => simp [intOf]; omega
    · have HJ : Hid (G = none) := by
        show _ = _
        rw [unhide HGO]
        exact join_end s.size f i s.data.toList o.data.toList (by omega) (by rw [← unhide HGO]; exact unhide HGr)
      have g0 : decide ((i : Int) < (s.size : Int)) = false := by simp; omega
      have g0n : decide (i < s.size) = false := by simp; omega
      clear HGr HGO
      go_wp2
      go_ret3
      exact ⟨by rw [unhide HJ]; rfl, rfl⟩
end Go.Proofs.YtfgphihhnlgfhaeDoor
