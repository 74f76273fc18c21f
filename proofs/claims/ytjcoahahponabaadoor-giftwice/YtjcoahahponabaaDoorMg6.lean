/- Walks of texts in parts, and back: the program's. Walks of the codes of now. -/
import Derived.Test.YtjcoahahponabaaDoorMg5
import Derived.Test.YtjcoahahponabaaDoorMg2
import Derived.Test.YtjcoahahponabaaDoorMg3
import Derived.Test.YtjcoahahponabaaDoorMg1
import Derived.Below
import Derived.BigQuiet
namespace Go.Proofs.YtjcoahahponabaaDoor
open Go.RowKit Lz

theorem toNat_u8 (n : Nat) (h : n < 256) : ((UInt8.ofNat n).toNat : Int) = (n : Int) := by rw [toNat_len n (by omega)]

theorem not_blank (u : ByteArray) (h : 0 < u.size) : (u.toList == []) = false ∧ u.toList.isEmpty = false ∧ (u.toList == (⟨#[]⟩ : ByteArray).toList) = false := by
  have hq : u.toList ≠ [] := fun q => by
    rw [ByteArray.toList_eq] at q
    have h1 : u.data.toList.length = u.size := size_list u
    rw [q] at h1
    simp only [List.length_nil] at h1
    omega
  refine ⟨beq_eq_false_iff_ne.2 hq, by simpa using hq, ?_⟩
  rw [ByteArray.toList_eq ⟨#[]⟩]; exact beq_eq_false_iff_ne.2 hq

set_option maxHeartbeats 2000000 in
set_option maxRecDepth 100000 in
theorem blocks_any (s : ByteArray) (w : World) (hs : s.size ≤ 200000) :
    Calls Tryd.prog 49 #[.string s] w fun e w' => e = .returned (.string ⟨(blocksL s.size s.data.toList).toArray⟩) ∧ Below w.heap.size w w' := by
  obtain ⟨G, hG⟩ : ∃ G, G = blocksL s.size s.data.toList := ⟨_, rfl⟩
  rw [← hG]
  have HG := hide hG
  clear hG
  have HN := hide (sb_new w)
  have HB := hide ((Below.refl w.heap.size w).alloc (Nat.le_refl _) (.cells #[.pointer none, .slice none 0 0] 75))
  have hBl : w.heap.size ≤ (w.alloc (.cells #[.pointer none, .slice none 0 0] 75)).heap.size := by simp
  go_enter Tryd.func49, Tryd.ntmps49
  go_wp2
  go_loopw [0] (fun sv wr => ∃ (t : ByteArray) (o : List UInt8) (f : Nat), sv = .string t ∧ Hid (SB wr w.heap.size w.heap.size o) ∧ t.size ≤ f ∧ t.size ≤ 200000 ∧ o.length + 2 * t.size ≤ 400000 ∧ Hid (G = o ++ blocksL f t.data.toList) ∧ Hid (Below w.heap.size w wr) ∧ w.heap.size ≤ wr.heap.size) (fun sv _ => (match sv with | .string t => t.size | _ => 0))
  case atStart => exact ⟨s, [], s.size, rfl, HN, Nat.le_refl _, hs, by simp; omega, HG, HB, hBl⟩
  case round =>
    obtain ⟨t, o, f, rfl, HS, htf, ht2, hot, HGr, HBr, hwz⟩ := hrel
    clear HN HB hBl HG
    by_cases h0 : 0 < t.size
    · obtain ⟨f', hf'⟩ : ∃ f', f = f' + 1 := ⟨f - 1, by omega⟩
      have hne : t.data.toList ≠ [] := fun q => by have := size_list t; rw [q] at this; simp at this; omega
      obtain ⟨hq1, hq2, hq3⟩ := not_blank t h0
      obtain ⟨n, hn⟩ : ∃ n, n = min t.size 255 := ⟨_, rfl⟩
      obtain ⟨c, hc⟩ : ∃ c, c = UInt8.ofNat n := ⟨_, rfl⟩
      have hcn : (c.toNat : Int) = (n : Int) := by rw [hc]; exact toNat_u8 n (by omega)
      have hmin : min (t.size : Int) 255 = (n : Int) := by omega
      have hmod : (n : Int) % 256 = (n : Int) := by omega
      have hnt : n ≤ t.size := by omega
      have hnti : (n : Int) ≤ (t.size : Int) := by omega
      have hn0 : (0 : Int) ≤ (n : Int) := by omega
      have hnl : n < 256 := by omega
      have HC1 : Hid (Calls Tryd.prog 61 #[.pointer (some ⟨w.heap.size, 0, none⟩), .int .u8 (n : Int)] wr fun e w' => e = .returned .nilIface ∧ SB w' w.heap.size w.heap.size (o ++ [c]) ∧ Below w.heap.size wr w') := by
        have := sb_byte w.heap.size w.heap.size o c wr (unhide HS) (by omega) hwz
        rw [hcn] at this
        exact this
      have hcs : (t.extract 0 n).size = n := by simp; omega
      have HC2 : Hid (∀ w1, SB w1 w.heap.size w.heap.size (o ++ [c]) → w.heap.size ≤ w1.heap.size → Calls Tryd.prog 29 #[.pointer (some ⟨w.heap.size, 0, none⟩), .string (t.extract 0 n)] w1 fun e w' => e = .returned (.tuple #[.int .i64 (t.extract 0 n).size, .nilIface]) ∧ SB w' w.heap.size w.heap.size ((o ++ [c]) ++ t.data.toList.take n) ∧ Below w.heap.size w1 w') := fun w1 h1 h2 => by
        have := sb_text w.heap.size w.heap.size (o ++ [c]) (t.extract 0 n) w1 h1 (by simp; omega) (by omega) h2
        rw [front] at this
        exact this
      have HT : Hid (blocksL f t.data.toList = c :: (t.data.toList.take n ++ blocksL f' (t.data.toList.drop n))) := by
        show _ = _
        rw [hf', blocksL_cons f' _ hne, size_list, ← hn, ← hc]
        have e1 : t.data.toList.take 255 = t.data.toList.take n := by
          rcases Nat.le_total t.size 255 with q | q
          · rw [List.take_of_length_le (by rw [size_list]; exact q), List.take_of_length_le (by rw [size_list]; omega)]
          · rw [show n = 255 by omega]
        have e2 : t.data.toList.drop 255 = t.data.toList.drop n := by
          rcases Nat.le_total t.size 255 with q | q
          · rw [List.drop_of_length_le (by rw [size_list]; exact q), List.drop_of_length_le (by rw [size_list]; omega)]
          · rw [show n = 255 by omega]
        rw [e1, e2]
      have Hf' := hide hf'
      have Hn := hide hn
      clear hf' hn hne hc hcn
      go_wp2_with fail
      refine (unhide HC1).mono ?_; rintro e w1 ⟨rfl, hS1, hb1⟩
      have hz1 : w.heap.size ≤ w1.heap.size := Nat.le_trans hwz hb1.size
      have HX := hide (unhide HC2 w1 hS1 hz1)
      have HB1 := hide ((unhide HBr).trans hb1)
      clear HC1 HC2 hS1 hb1 HBr
      go_wp2_with fail
      refine (unhide HX).mono ?_; rintro e w2 ⟨rfl, hS2, hb2⟩
      have HS2 := hide hS2
      have hz2 : w.heap.size ≤ w2.heap.size := Nat.le_trans hz1 hb2.size
      have HB2 := hide ((unhide HB1).trans hb2)
      clear HX HB1 hS2 hb2
      go_wp2
      go_roundw
      case rel => 
        refine ⟨t.extract n t.size, (o ++ [c]) ++ t.data.toList.take n, f', rfl, HS2, ?_, ?_, ?_, ?_, HB2, hz2⟩
        all_goals have := unhide Hf'
        all_goals have := unhide Hn
        · simp; omega
        · simp; omega
        · simp; omega
        · show _ = _
          rw [unhide HGr, unhide HT, back]
          simp
      case measure => have := unhide Hn; simp; omega
    · have ht0 : t = ⟨#[]⟩ := by
        apply text_ext
        apply List.eq_nil_of_length_eq_zero
        rw [size_list]; omega
      subst ht0
      have HC1 : Hid (Calls Tryd.prog 61 #[.pointer (some ⟨w.heap.size, 0, none⟩), .int .u8 0] wr fun e w' => e = .returned .nilIface ∧ SB w' w.heap.size w.heap.size (o ++ [0]) ∧ Below w.heap.size wr w') := sb_byte w.heap.size w.heap.size o 0 wr (unhide HS) (by omega) hwz
      have HGE : Hid (G = o ++ [0]) := by show _ = _; rw [unhide HGr]; exact congrArg _ (blocksL_nil f)
      clear HGr
      go_wp2_with fail
      refine (unhide HC1).mono ?_; rintro e w1 ⟨rfl, hS1, hb1⟩
      have hz1 : w.heap.size ≤ w1.heap.size := Nat.le_trans hwz hb1.size
      have HX := hide (sb_string w.heap.size w.heap.size (o ++ [0]) w1 hS1 hz1)
      have HB1 := hide ((unhide HBr).trans hb1)
      clear HC1 hS1 hb1 HBr
      go_wp2_with fail
      refine (unhide HX).mono ?_; rintro e w2 ⟨rfl, hb2⟩
      clear HX
      go_wp2
      go_ret
      exact ⟨by rw [unhide HGE]; rfl, (unhide HB1).trans hb2⟩

/-- What Join answers. -/
def joinV (ev : Value) : Option (List UInt8 × Nat) → Value
  | none => .tuple #[.string ⟨#[]⟩, .int .i64 0, ev]
  | some x => .tuple #[.string ⟨x.1.toArray⟩, .int .i64 (x.2 : Int), .nilIface]

theorem byte_at (s : ByteArray) (i : Nat) (_h : i < s.size) (h' : i < s.data.toList.length) : s.data.toList[i] = s[i] := by simp; rfl

set_option maxHeartbeats 2000000 in
set_option maxRecDepth 100000 in
theorem join_any (s : ByteArray) (ev : Value) (w : World) (hs : s.size ≤ 300000) (hev : w.cell? ⟨0, 0, none⟩ = some ev) :
    Calls Tryd.prog 64 #[.string s] w fun e w' => e = .returned (joinV ev (joinL s.size s.data.toList)) ∧ Below w.heap.size w w' := by
  obtain ⟨G, hG⟩ : ∃ G, G = joinL s.size s.data.toList := ⟨_, rfl⟩
  rw [← hG]
  have HG : Hid (G = (joinL s.size (s.data.toList.drop 0)).map fun x => (([] : List UInt8) ++ x.1, 0 + x.2)) := by
    show _ = _
    rw [hG]
    simp
  have HGO := hide hG
  clear hG
  have HN := hide (sb_new w)
  have HB := hide ((Below.refl w.heap.size w).alloc (Nat.le_refl _) (.cells #[.pointer none, .slice none 0 0] 75))
  have hBl : w.heap.size ≤ (w.alloc (.cells #[.pointer none, .slice none 0 0] 75)).heap.size := by simp
  have hgl : 0 < w.heap.size := World.block_lt_of_cell? _ _ hev
  have HEV : Hid (∀ w', Below w.heap.size w w' → w'.cell? ⟨0, 0, none⟩ = some ev) := fun w' hb => (hb.cell hgl).trans hev
  have hsl := size_list s
  clear hev hgl
  go_enter Tryd.func64, Tryd.ntmps64
  go_wp2
  go_loopw [2, 3, 4, 6] (fun x2 x3 x4 iv wr => ∃ (i f : Nat) (o : List UInt8), x2 = .string ⟨#[]⟩ ∧ x3 = .int .i64 0 ∧ x4 = .nilIface ∧ iv = .int .i64 (i : Int) ∧ Hid (SB wr w.heap.size w.heap.size o) ∧ i ≤ s.size ∧ s.size ≤ i + f ∧ o.length ≤ i ∧ Hid (G = (joinL f (s.data.toList.drop i)).map fun x => (o ++ x.1, i + x.2)) ∧ Hid (Below w.heap.size w wr) ∧ w.heap.size ≤ wr.heap.size) (fun _ _ _ iv _ => s.size - (intOf iv).toNat)
  case atStart => exact ⟨0, s.size, [], rfl, rfl, rfl, rfl, HN, by omega, by omega, by simp, HG, HB, hBl⟩
  case round =>
    obtain ⟨i, f, o, rfl, rfl, rfl, rfl, HS, his, hif, hoi, HGr, HBr, hwz⟩ := hrel
    clear HN HB hBl HG
    by_cases h0 : i < s.size
    · obtain ⟨f', hf'⟩ : ∃ f', f = f' + 1 := ⟨f - 1, by omega⟩
      subst hf'
      have hil : i < s.data.toList.length := by omega
      have hbe := byte_at s i h0 hil
      obtain ⟨n, hn⟩ : ∃ n, n = s[i].toNat := ⟨_, rfl⟩
      have hnl : n < 256 := by rw [hn]; exact s[i].toNat_lt
      have g0 : decide ((i : Int) < (s.size : Int)) = true := by simp; omega
      have g0n : decide (i < s.size) = true := by simp; omega
      have hii : (i : Int) < (s.size : Int) := by omega
      by_cases hz : n = 0
      · have HJ : Hid (G = some (o, i + 1)) := by
          show _ = _
          rw [unhide HGO]
          exact join_stop s.size f' i s.data.toList o hil (by rw [hbe]; omega) (by rw [← unhide HGO]; exact unhide HGr)
        have HX := hide (sb_string w.heap.size w.heap.size o wr (unhide HS) hwz)
        rw [hz] at hn
        have hn' : (s[i].toNat : Int) = 0 := by omega
        clear HGr HGO hbe hn
        go_wp2_with fail
        refine (unhide HX).mono ?_; rintro e w2 ⟨rfl, hb2⟩
        have HB2 := hide ((unhide HBr).trans hb2)
        clear HX hb2
        go_wp2
        go_ret3
        exact ⟨by rw [unhide HJ]; rfl, unhide HB2⟩
      · have hn' : (s[i].toNat : Int) = (n : Int) := by omega
        have g1 : ((n : Int) == 0) = false := by simp; omega
        by_cases hsh : s.size < i + 1 + n
        · have HJ : Hid (G = none) := by
            show _ = _
            rw [unhide HGO]
            exact join_short s.size f' i s.data.toList o hil (by rw [hbe]; omega) (by rw [← unhide HGO]; exact unhide HGr) (by rw [hbe]; omega)
          have g2 : decide ((s.size : Int) - ((i : Int) + 1) < (n : Int)) = true := by simp; omega
          have HC := hide (unhide HEV wr (unhide HBr))
          have hev := unhide HC
          clear HGr HGO hbe hn HC
          go_wp2
          go_region
          go_wp2
          go_ret3
          exact ⟨by rw [unhide HJ]; rfl, (unhide HBr).drew⟩
        · have HJ : Hid (G = (joinL f' (s.data.toList.drop (i + 1 + n))).map fun x => ((o ++ (s.data.toList.drop (i + 1)).take n) ++ x.1, i + 1 + n + x.2)) := by
            show _ = _
            have := join_step s.size f' i s.data.toList o hil (by rw [hbe]; omega) (by rw [← unhide HGO]; exact unhide HGr) (by rw [hbe]; omega)
            rw [hbe, ← hn] at this
            rw [unhide HGO]
            exact this
          have g2 : decide ((s.size : Int) - ((i : Int) + 1) < (n : Int)) = false := by simp; omega
          have hcs : (s.extract (i + 1) (i + 1 + n)).size = n := by simp; omega
          have HC2 : Hid (Calls Tryd.prog 29 #[.pointer (some ⟨w.heap.size, 0, none⟩), .string (s.extract (i + 1) (i + 1 + n))] wr fun e w' => e = .returned (.tuple #[.int .i64 (s.extract (i + 1) (i + 1 + n)).size, .nilIface]) ∧ SB w' w.heap.size w.heap.size (o ++ (s.data.toList.drop (i + 1)).take n) ∧ Below w.heap.size wr w') := by
            have := sb_text w.heap.size w.heap.size o (s.extract (i + 1) (i + 1 + n)) wr (unhide HS) (by omega) (by omega) hwz
            rw [between] at this
            exact this
          have k1 : (i : Int) + 1 + (n : Int) ≤ (s.size : Int) := by omega
          have k2 : (i : Int) + 1 ≤ (i : Int) + 1 + (n : Int) := by omega
          have hl2 : (o ++ (s.data.toList.drop (i + 1)).take n).length ≤ i + 1 + n := by simp; omega
          clear HGr HGO hbe hn hcs
          go_wp2_with fail
          refine (unhide HC2).mono ?_; rintro e w2 ⟨rfl, hS2, hb2⟩
          have HS2 := hide hS2
          have hz2 : w.heap.size ≤ w2.heap.size := Nat.le_trans hwz hb2.size
          have HB2 := hide ((unhide HBr).trans hb2)
          clear HC2 hS2 hb2
          go_wp2
          go_roundw
          case rel => exact ⟨i + 1 + n, f', o ++ (s.data.toList.drop (i + 1)).take n, rfl, rfl, rfl, by go_num, HS2, by omega, by omega, hl2, HJ, HB2, hz2⟩
          case measure => simp [intOf]; omega
    · have HJ : Hid (G = none) := by
        show _ = _
        rw [unhide HGO]
        exact join_end s.size f i s.data.toList o (by omega) (by rw [← unhide HGO]; exact unhide HGr)
      have g0 : decide ((i : Int) < (s.size : Int)) = false := by simp; omega
      have g0n : decide (i < s.size) = false := by simp; omega
      have hev := unhide HEV wr (unhide HBr)
      clear HGr HGO
      go_wp2
      go_region
      go_wp2
      go_ret3
      exact ⟨by rw [unhide HJ]; rfl, (unhide HBr).drew⟩
end Go.Proofs.YtjcoahahponabaaDoor
namespace Go.Proofs.YtjcoahahponabaaDoor
open Go.RowKit

/-- Codes of now at block p from the cell o on: of numbers of W bits, S bits a code, the next word is N. -/
structure CD (w : World) (p o W S N : Nat) : Prop where
  width : w.cell? ⟨p, o, none⟩ = some (.int .i64 (W : Int))
  size : w.cell? ⟨p, o + 1, none⟩ = some (.int .i64 (S : Int))
  next : w.cell? ⟨p, o + 2, none⟩ = some (.int .i64 (N : Int))
  free1 : w.frozen? ⟨p, o + 1, none⟩ = false
  free2 : w.frozen? ⟨p, o + 2, none⟩ = false

/-- All is as it was but for the size and the next word of the codes at p, o. -/
structure KC (p o : Nat) (w w' : World) : Prop where
  os : w'.os = w.os
  tape : w'.tape = w.tape
  output : w'.output = w.output
  size : w'.heap.size = w.heap.size
  block : ∀ k, k ≠ p → w'.heap[k]? = w.heap[k]?
  cell : ∀ j, j ≠ o + 1 → j ≠ o + 2 → w'.cell? ⟨p, j, none⟩ = w.cell? ⟨p, j, none⟩
  frozen : ∀ j, w'.frozen? ⟨p, j, none⟩ = w.frozen? ⟨p, j, none⟩

theorem KC.refl (p o : Nat) (w : World) : KC p o w w := ⟨rfl, rfl, rfl, rfl, fun _ _ => rfl, fun _ _ _ => rfl, fun _ => rfl⟩
theorem KC.drew {p o : Nat} {w w' : World} (h : KC p o w w') : KC p o w w'.drew := ⟨h.os, h.tape, h.output, h.size, h.block, h.cell, h.frozen⟩
theorem KC.trans {p o : Nat} {a b c : World} (h : KC p o a b) (k : KC p o b c) : KC p o a c :=
  ⟨k.os.trans h.os, k.tape.trans h.tape, k.output.trans h.output, k.size.trans h.size, fun i hi => (k.block i hi).trans (h.block i hi), fun j h1 h2 => (k.cell j h1 h2).trans (h.cell j h1 h2), fun j => (k.frozen j).trans (h.frozen j)⟩
theorem KC.set {p o : Nat} (w : World) (j : Nat) (v : Value) (hj : j = o + 1 ∨ j = o + 2) : KC p o w (w.setCell ⟨p, j, none⟩ v) :=
  ⟨rfl, rfl, rfl, by simp [World.setCell], fun k hk => Below.heap_setCell _ _ _ _ hk, fun i h1 h2 => World.cell?_setCell_other _ _ _ _ (by intro e; injection e with _ e2; omega), fun i => World.frozen?_setCell _ _ _ _⟩
theorem KC.below {p o : Nat} {w w' : World} (h : KC p o w w') : Below p w w' := ⟨h.os, h.tape, h.output, by rw [h.size]; exact Nat.le_refl _, fun k hk => h.block k (by omega)⟩
theorem KC.grown {p o : Nat} {w w' : World} (h : KC p o w w') : w.grownBy w' (some p) := ⟨h.os, h.tape, h.output, by rw [h.size]; exact Nat.le_refl _, fun k _ hk => h.block k (fun e => hk (by rw [e]))⟩
theorem CD.lt {w : World} {p o W S N : Nat} (h : CD w p o W S N) : p < w.heap.size := World.block_lt_of_cell? _ _ h.width
theorem CD.drew {w : World} {p o W S N : Nat} (h : CD w p o W S N) : CD w.drew p o W S N := ⟨h.width, h.size, h.next, h.free1, h.free2⟩
theorem CD.setS {w : World} {p o W S N : Nat} (h : CD w p o W S N) (S' : Nat) : CD (w.setCell ⟨p, o + 1, none⟩ (.int .i64 (S' : Int))) p o W S' N :=
  ⟨(World.cell?_setCell_other _ _ _ _ (by intro e; injection e with _ e2; omega)).trans h.width, World.cell?_setCell_same _ _ _ h.size, (World.cell?_setCell_other _ _ _ _ (by intro e; injection e with _ e2; omega)).trans h.next, by rw [World.frozen?_setCell]; exact h.free1, by rw [World.frozen?_setCell]; exact h.free2⟩
theorem CD.setN {w : World} {p o W S N : Nat} (h : CD w p o W S N) (N' : Nat) : CD (w.setCell ⟨p, o + 2, none⟩ (.int .i64 (N' : Int))) p o W S N' :=
  ⟨(World.cell?_setCell_other _ _ _ _ (by intro e; injection e with _ e2; omega)).trans h.width, (World.cell?_setCell_other _ _ _ _ (by intro e; injection e with _ e2; omega)).trans h.size, World.cell?_setCell_same _ _ _ h.next, by rw [World.frozen?_setCell]; exact h.free1, by rw [World.frozen?_setCell]; exact h.free2⟩
/-- The cells may be carried over whatever leaves them. -/
theorem CD.same {w w' : World} {p o W S N : Nat} (h : CD w p o W S N) (hc : ∀ j, o ≤ j → w'.cell? ⟨p, j, none⟩ = w.cell? ⟨p, j, none⟩) (hf : ∀ j, o ≤ j → w'.frozen? ⟨p, j, none⟩ = w.frozen? ⟨p, j, none⟩) : CD w' p o W S N :=
  ⟨(hc o (by omega)).trans h.width, (hc (o + 1) (by omega)).trans h.size, (hc (o + 2) (by omega)).trans h.next, (hf (o + 1) (by omega)).trans h.free1, (hf (o + 2) (by omega)).trans h.free2⟩

theorem pow_small (W : Nat) (h : W ≤ 12) : (2 ^ W : Nat) ≤ 4096 := Nat.pow_le_pow_right (n := 2) (j := 12) (by omega) h
theorem shl_one (W : Nat) (h : W ≤ 12) : IntKind.i64.wrap ((1 : Int) * 2 ^ W) = ((2 ^ W : Nat) : Int) := by
  have := pow_small W h
  rw [IntKind.wrap_i64]
  have e : ((2 ^ W : Nat) : Int) = (2 : Int) ^ W := by simp
  rw [← e]
  generalize 2 ^ W = X at *
  omega

theorem clearCode_any (p o W S N : Nat) (w : World) (h : CD w p o W S N) (hW : W ≤ 12) :
    Calls Tryd.prog 68 #[.pointer (some ⟨p, o, none⟩)] w fun e w' => e = .returned (.int .i64 ((2 ^ W : Nat) : Int)) ∧ w' = w := by
  have h1 := h.width
  have H3 : Hid (wrap64 ((2 : Int) ^ W) = ((2 ^ W : Nat) : Int)) := by
    have := shl_one W hW
    rw [Int.one_mul, IntWalk.i64_left] at this
    exact this
  have h4 : decide ((W : Int) < 64) = true := by simp; omega
  clear h
  go_enter Tryd.func68, Tryd.ntmps68
  go_wp2
  go_ret
  exact ⟨ret_int (unhide H3), rfl⟩

theorem endCode_any (p o W S N : Nat) (w : World) (h : CD w p o W S N) (hW : W ≤ 12) :
    Calls Tryd.prog 72 #[.pointer (some ⟨p, o, none⟩)] w fun e w' => e = .returned (.int .i64 ((2 ^ W + 1 : Nat) : Int)) ∧ w' = w := by
  have HC := hide (clearCode_any p o W S N w h hW)
  have h5 := pow_small W hW
  clear h
  generalize 2 ^ W = X at *
  go_enter Tryd.func72, Tryd.ntmps72
  go_wp2_with fail
  refine (unhide HC).mono ?_; rintro e w1 ⟨rfl, rfl⟩
  go_wp2
  go_ret
  exact ⟨ret_int (by omega), rfl⟩

theorem firstLonger_any (p o W S N : Nat) (w : World) (h : CD w p o W S N) (hW : W ≤ 12) :
    Calls Tryd.prog 77 #[.pointer (some ⟨p, o, none⟩)] w fun e w' => e = .returned (.int .i64 ((2 ^ W + 2 : Nat) : Int)) ∧ w' = w := by
  have HC := hide (endCode_any p o W S N w h hW)
  have h5 := pow_small W hW
  clear h
  generalize 2 ^ W = X at *
  go_enter Tryd.func77, Tryd.ntmps77
  go_wp2_with fail
  refine (unhide HC).mono ?_; rintro e w1 ⟨rfl, rfl⟩
  go_wp2
  go_ret
  exact ⟨ret_int (by omega), rfl⟩

theorem restart_any (p o W S N : Nat) (w : World) (h : CD w p o W S N) (hW : W ≤ 12) :
    Calls Tryd.prog 66 #[.pointer (some ⟨p, o, none⟩)] w fun e w' => e = .returned (.tuple #[]) ∧ CD w' p o W (W + 1) (2 ^ W + 2) ∧ KC p o w w' := by
  have h1 := h.width
  have h2 := h.free1
  have h3 := h.free2
  have h4 := h.size
  have h6 := h.next
  have HS := hide (h.setS (W + 1))
  have HC := hide (firstLonger_any p o W (W + 1) N _ (h.setS (W + 1)) hW)
  have HE := hide ((h.setS (W + 1)).setN (2 ^ W + 2))
  have HK := hide ((KC.set (p := p) (o := o) w (o + 1) (.int .i64 ((W + 1 : Nat) : Int)) (.inl rfl)).trans (KC.set _ (o + 2) (.int .i64 ((2 ^ W + 2 : Nat) : Int)) (.inr rfl)))
  have e1 : ((W + 1 : Nat) : Int) = (W : Int) + 1 := by omega
  have h7 := (unhide HS).next
  have h8 := (unhide HS).free2
  rw [e1] at HC HE HK h7 h8
  have h5 := pow_small W hW
  clear h
  generalize 2 ^ W = X at *
  go_enter Tryd.func66, Tryd.ntmps66
  go_wp2_with fail
  refine (unhide HC).mono ?_; rintro e w1 ⟨rfl, rfl⟩
  go_wp2
  go_end0
  exact ⟨rfl, unhide HE, unhide HK⟩

theorem give_any (p o W S N : Nat) (w : World) (h : CD w p o W S N) (hN : N ≤ 5000) :
    Calls Tryd.prog 71 #[.pointer (some ⟨p, o, none⟩)] w fun e w' => e = .returned (.int .i64 (N : Int)) ∧ CD w' p o W S (N + 1) ∧ KC p o w w' := by
  have h3 := h.free2
  have h6 := h.next
  have HE := hide (h.setN (N + 1))
  have HK := hide (KC.set (p := p) (o := o) w (o + 2) (.int .i64 ((N + 1 : Nat) : Int)) (.inr rfl))
  have e1 : ((N + 1 : Nat) : Int) = (N : Int) + 1 := by omega
  rw [e1] at HE HK
  clear h
  go_enter Tryd.func71, Tryd.ntmps71
  go_wp2
  go_ret
  exact ⟨rfl, unhide HE, unhide HK⟩

/-- Bits of a code behind a word that got the number c. -/
def fitS (S c : Nat) : Nat := if S < 12 ∧ c = 2 ^ S then S + 1 else S

theorem fit_any (p o W S N c : Nat) (w : World) (h : CD w p o W S N) (hS : S ≤ 12) :
    Calls Tryd.prog 70 #[.pointer (some ⟨p, o, none⟩), .int .i64 (c : Int)] w fun e w' => e = .returned (.tuple #[]) ∧ CD w' p o W (fitS S c) N ∧ KC p o w w' := by
  have h1 := h.size
  have h2 := h.free1
  have h3 := shl_one S hS
  have h4 : decide ((S : Int) < 64) = true := by simp; omega
  have h5 := pow_small S hS
  have h6 : ((2 ^ S : Nat) : Int) = (2 : Int) ^ S := by simp
  by_cases hlt : S < 12
  · have g1 : decide ((S : Int) < 12) = true := by simp; omega
    by_cases he : c = 2 ^ S
    · have HE : Hid (CD (w.setCell ⟨p, o + 1, none⟩ (.int .i64 ((S : Int) + 1))) p o W (fitS S c) N) := by
        have := h.setS (S + 1)
        rw [show ((S + 1 : Nat) : Int) = (S : Int) + 1 by omega] at this
        rw [fitS, if_pos ⟨hlt, he⟩]
        exact this
      have HK := hide (KC.set (p := p) (o := o) w (o + 1) (.int .i64 ((S : Int) + 1)) (.inl rfl))
      have g2 : ((c : Int) == ((2 ^ S : Nat) : Int)) = true := by simp [he]
      clear h he
      generalize 2 ^ S = X at *
      go_enter Tryd.func70, Tryd.ntmps70
      go_wp2
      go_end0
      exact ⟨rfl, unhide HE, unhide HK⟩
    · have HE : Hid (CD w p o W (fitS S c) N) := by
        rw [fitS, if_neg (fun q => he q.2)]
        exact h
      have g2 : ((c : Int) == ((2 ^ S : Nat) : Int)) = false := by
        rw [beq_eq_false_iff_ne]
        intro q
        exact he (by omega)
      clear h he
      generalize 2 ^ S = X at *
      go_enter Tryd.func70, Tryd.ntmps70
      go_wp2
      go_end0
      exact ⟨rfl, unhide HE, KC.refl _ _ _⟩
  · have g1 : decide ((S : Int) < 12) = false := by simp; omega
    have HE : Hid (CD w p o W (fitS S c) N) := by
      rw [fitS, if_neg (fun q => hlt q.1)]
      exact h
    clear h
    go_enter Tryd.func70, Tryd.ntmps70
    go_wp2
    go_end0
    exact ⟨rfl, unhide HE, KC.refl _ _ _⟩
end Go.Proofs.YtjcoahahponabaaDoor
