/- strings.Builder by its contracts. Walks of the document's own texts of bits: a byte; the highest first. Walks of texts in parts, and back: the program's. -/
import Derived.Test.YtjcoahahponabaaGreatDoorMg1
import Derived.Shelf.Strings.Builder1
import Derived.Test.YtjcoahahponabaaGreatDoorMg2
import Derived.Test.YtjcoahahponabaaGreatDoorMg3
namespace Go.Proofs.YtjcoahahponabaaGreatDoor
open Go.RowKit Go.Shelf

def sbRen : Go.Shelf.Ren := ⟨fun | 166 => 91 | 167 => 153 | 169 => 95 | 240 => 120 | 276 => 147 | n => n, fun | 0 => 0 | 3 => 3 | 4 => 4 | 5 => 5 | 9 => 9 | 20 => 20 | 37 => 107 | 70 => 138 | 72 => 140 | 75 => 41 | 80 => 143 | 127 => 181 | 164 => 182 | n => n, fun | n => n⟩
theorem sbLays166 : Go.Proofs.Lays.n166 Tryz.prog sbRen := {
  mixed := by kernel_rfl
  f166 := Tryz.func91.trans (congrArg some (by kernel_rfl))
  f240 := Tryz.func120.trans (congrArg some (by kernel_rfl))
  f276 := Tryz.func147.trans (congrArg some (by kernel_rfl))
  t0 := Tryz.underlying0
  a0 := Tryz.isAgg0
  z0 := Tryz.sizeOf0
  v0 := Tryz.zeroValue0
  t3 := Tryz.underlying3
  a3 := Tryz.isAgg3
  z3 := Tryz.sizeOf3
  v3 := Tryz.zeroValue3
  t4 := Tryz.underlying4
  a4 := Tryz.isAgg4
  z4 := Tryz.sizeOf4
  v4 := Tryz.zeroValue4
  t9 := Tryz.underlying9
  a9 := Tryz.isAgg9
  z9 := Tryz.sizeOf9
  v9 := Tryz.zeroValue9
  t20 := Tryz.underlying20
  a20 := Tryz.isAgg20
  z20 := Tryz.sizeOf20
  v20 := Tryz.zeroValue20
  t37 := Tryz.underlying107
  a37 := Tryz.isAgg107
  z37 := Tryz.sizeOf107
  v37 := Tryz.zeroValue107
  t70 := Tryz.underlying138
  a70 := Tryz.isAgg138
  z70 := Tryz.sizeOf138
  v70 := Tryz.zeroValue138
  t72 := Tryz.underlying140
  a72 := Tryz.isAgg140
  z72 := Tryz.sizeOf140
  v72 := Tryz.zeroValue140
  t75 := Tryz.underlying41
  a75 := Tryz.isAgg41
  z75 := Tryz.sizeOf41
  v75 := Tryz.zeroValue41
  t164 := Tryz.underlying182
  a164 := Tryz.isAgg182
  z164 := Tryz.sizeOf182
  v164 := Tryz.zeroValue182 }
theorem sbLays167 : Go.Proofs.Lays.n167 Tryz.prog sbRen := {
  mixed := by kernel_rfl
  f167 := Tryz.func153.trans (congrArg some (by kernel_rfl))
  f240 := Tryz.func120.trans (congrArg some (by kernel_rfl))
  f276 := Tryz.func147.trans (congrArg some (by kernel_rfl))
  t0 := Tryz.underlying0
  a0 := Tryz.isAgg0
  z0 := Tryz.sizeOf0
  v0 := Tryz.zeroValue0
  t4 := Tryz.underlying4
  a4 := Tryz.isAgg4
  z4 := Tryz.sizeOf4
  v4 := Tryz.zeroValue4
  t5 := Tryz.underlying5
  a5 := Tryz.isAgg5
  z5 := Tryz.sizeOf5
  v5 := Tryz.zeroValue5
  t9 := Tryz.underlying9
  a9 := Tryz.isAgg9
  z9 := Tryz.sizeOf9
  v9 := Tryz.zeroValue9
  t20 := Tryz.underlying20
  a20 := Tryz.isAgg20
  z20 := Tryz.sizeOf20
  v20 := Tryz.zeroValue20
  t37 := Tryz.underlying107
  a37 := Tryz.isAgg107
  z37 := Tryz.sizeOf107
  v37 := Tryz.zeroValue107
  t70 := Tryz.underlying138
  a70 := Tryz.isAgg138
  z70 := Tryz.sizeOf138
  v70 := Tryz.zeroValue138
  t72 := Tryz.underlying140
  a72 := Tryz.isAgg140
  z72 := Tryz.sizeOf140
  v72 := Tryz.zeroValue140
  t75 := Tryz.underlying41
  a75 := Tryz.isAgg41
  z75 := Tryz.sizeOf41
  v75 := Tryz.zeroValue41
  t164 := Tryz.underlying182
  a164 := Tryz.isAgg182
  z164 := Tryz.sizeOf182
  v164 := Tryz.zeroValue182 }
theorem sbLays169 : Go.Proofs.Lays.n169 Tryz.prog sbRen := {
  mixed := by kernel_rfl
  f169 := Tryz.func95.trans (congrArg some (by kernel_rfl))
  t0 := Tryz.underlying0
  a0 := Tryz.isAgg0
  z0 := Tryz.sizeOf0
  v0 := Tryz.zeroValue0
  t3 := Tryz.underlying3
  a3 := Tryz.isAgg3
  z3 := Tryz.sizeOf3
  v3 := Tryz.zeroValue3
  t9 := Tryz.underlying9
  a9 := Tryz.isAgg9
  z9 := Tryz.sizeOf9
  v9 := Tryz.zeroValue9
  t37 := Tryz.underlying107
  a37 := Tryz.isAgg107
  z37 := Tryz.sizeOf107
  v37 := Tryz.zeroValue107
  t70 := Tryz.underlying138
  a70 := Tryz.isAgg138
  z70 := Tryz.sizeOf138
  v70 := Tryz.zeroValue138
  t72 := Tryz.underlying140
  a72 := Tryz.isAgg140
  z72 := Tryz.sizeOf140
  v72 := Tryz.zeroValue140
  t127 := Tryz.underlying181
  a127 := Tryz.isAgg181
  z127 := Tryz.sizeOf181
  v127 := Tryz.zeroValue181 }
theorem sbExtra : Builder.Extra Tryz.prog sbRen := {
  sizeBuilder := by kernel_rfl
  liesBuilder := by kernel_rfl
  t5 := Tryz.underlying5
  a5 := Tryz.isAgg5
  z5 := Tryz.sizeOf5
  v5 := Tryz.zeroValue5
  infoByte := by kernel_rfl
  cellsByte := by kernel_rfl
  sizeByte := by kernel_rfl
  neB5 := by decide }

/-- A builder at block b (from B on) that holds these bytes. -/
def SB (w : World) (B b : Nat) (l : List UInt8) : Prop := Lib.IsBuilder 140 5 B b (Lib.byteCells l) w

theorem sb_new (w : World) : SB (w.alloc (.cells #[.pointer none, .slice none 0 0] 140)) w.heap.size w.heap.size [] := Lib.fresh_isBuilder _ _ w
theorem sb_byte (B b : Nat) (l : List UInt8) (c : UInt8) (w : World) (h : SB w B b l) (hl : l.length ≤ 1000000) (hB : B ≤ w.heap.size) :
    Calls Tryz.prog 153 #[.pointer (some ⟨b, 0, none⟩), .int .u8 (c.toNat : Int)] w fun e w' => e = .returned .nilIface ∧ SB w' B b (l ++ [c]) ∧ Below B w w' := by
  refine (Any.Builder_WriteByte sbLays167 sbExtra B b (Lib.byteCells l) (c.toNat : Int) w h (by simp [Lib.byteCells]; omega) hB).mono ?_
  rintro e w' ⟨rfl, h1, h2⟩
  refine ⟨rfl, .inr ?_, h2⟩
  have : Lib.byteCells (l ++ [c]) = Lib.byteCells l ++ [.int .u8 (c.toNat : Int)] := by simp [Lib.byteCells]
  rw [this]; exact h1
theorem sb_text (B b : Nat) (l : List UInt8) (s : ByteArray) (w : World) (h : SB w B b l) (hl : l.length ≤ 1000000) (hs : s.size ≤ 1000000) (hB : B ≤ w.heap.size) :
    Calls Tryz.prog 91 #[.pointer (some ⟨b, 0, none⟩), .string s] w fun e w' => e = .returned (.tuple #[.int .i64 s.size, .nilIface]) ∧ SB w' B b (l ++ s.data.toList) ∧ Below B w w' := by
  refine (Any.Builder_WriteString sbLays166 sbExtra B b (Lib.byteCells l) s w h (by simp [Lib.byteCells]; omega) hB).mono ?_
  rintro e w' ⟨rfl, h1, h2⟩
  refine ⟨rfl, .inr ?_, h2⟩
  have : Lib.byteCells (l ++ s.data.toList) = Lib.byteCells l ++ Lib.strCells s := by simp [Lib.byteCells, Lib.strCells]
  rw [this]; exact h1
theorem sb_string (B b : Nat) (l : List UInt8) (w : World) (h : SB w B b l) (hB : B ≤ w.heap.size) :
    Calls Tryz.prog 95 #[.pointer (some ⟨b, 0, none⟩)] w fun e w' => e = .returned (.string ⟨l.toArray⟩) ∧ Below B w w' :=
  Any.Builder_String_any sbLays169 sbExtra B b l w h hB
end Go.Proofs.YtjcoahahponabaaGreatDoor
namespace Go.Proofs.YtjcoahahponabaaGreatDoor
open Go.RowKit

theorem byte_any (n : Nat) (w : World) (hn : n < 256) :
    Calls Tryz.prog 63 #[.int .i64 (n : Int)] w fun e w' => e = .returned (.string ⟨#[UInt8.ofNat n]⟩) ∧ Below w.heap.size w w' := by
  have hcv := own_text (w.alloc (.cells #[.int .u8 (n : Int)] 5)) w.heap.size (.slice (some ⟨w.heap.size, 0, none⟩) 1 1) 1 [UInt8.ofNat n] (by
    have := World.ownsRow_lit (base := w.heap.size) (e := 5) (size := 1) w #[.int .u8 (n : Int)] 1 (Nat.le_refl _) (by decide) rfl
    have e : (UInt8.ofNat n).toNat = n := by rw [UInt8.toNat_ofNat']; omega
    simpa [byteVals, e] using this)
  go_enter Tryz.func63, Tryz.ntmps63
  go_wp2
  go_ret
  exact ⟨rfl, (Below.refl _ _).alloc (Nat.le_refl _) _⟩

end Go.Proofs.YtjcoahahponabaaGreatDoor
namespace Go.Proofs.YtjcoahahponabaaGreatDoor
open Go.RowKit Lz

theorem toNat_u8 (n : Nat) (h : n < 256) : ((UInt8.ofNat n).toNat : Int) = (n : Int) := by rw [toNat_len n (by omega)]

theorem not_blank (u : ByteArray) (h : 0 < u.size) : (u.toList == []) = false ∧ u.toList.isEmpty = false ∧ (u.toList == (⟨#[]⟩ : ByteArray).toList) = false := by
  have hq : u.toList ≠ [] := fun q => by
    rw [ByteArray.toList_eq] at q
    have h1 : u.data.toList.length = u.size := size_list u
    rw [q] at h1
    simp only [List.length_nil] at h1
    omega
  refine ⟨beq_eq_false_iff_ne.2 hq, by simpa using hq, ?_⟩
  rw [ByteArray.toList_eq ⟨#[]⟩]; exact beq_eq_false_iff_ne.2 hq

set_option maxHeartbeats 2000000 in
set_option maxRecDepth 100000 in
theorem blocks_any (s : ByteArray) (w : World) (hs : s.size ≤ 200000) :
    Calls Tryz.prog 126 #[.string s] w fun e w' => e = .returned (.string ⟨(blocksL s.size s.data.toList).toArray⟩) ∧ Below w.heap.size w w' := by
  obtain ⟨G, hG⟩ : ∃ G, G = blocksL s.size s.data.toList := ⟨_, rfl⟩
  rw [← hG]
  have HG := hide hG
  clear hG
  have HN := hide (sb_new w)
  have HB := hide ((Below.refl w.heap.size w).alloc (Nat.le_refl _) (.cells #[.pointer none, .slice none 0 0] 140))
  have hBl : w.heap.size ≤ (w.alloc (.cells #[.pointer none, .slice none 0 0] 140)).heap.size := by simp
  go_enter Tryz.func126, Tryz.ntmps126
  go_wp2
  go_loopw [0] (fun sv wr => ∃ (t : ByteArray) (o : List UInt8) (f : Nat), sv = .string t ∧ Hid (SB wr w.heap.size w.heap.size o) ∧ t.size ≤ f ∧ t.size ≤ 200000 ∧ o.length + 2 * t.size ≤ 400000 ∧ Hid (G = o ++ blocksL f t.data.toList) ∧ Hid (Below w.heap.size w wr) ∧ w.heap.size ≤ wr.heap.size) (fun sv _ => (match sv with | .string t => t.size | _ => 0))
  case atStart => exact ⟨s, [], s.size, rfl, HN, Nat.le_refl _, hs, by simp; omega, HG, HB, hBl⟩
  case round =>
    obtain ⟨t, o, f, rfl, HS, htf, ht2, hot, HGr, HBr, hwz⟩ := hrel
    clear HN HB hBl HG
    by_cases h0 : 0 < t.size
    · obtain ⟨f', hf'⟩ : ∃ f', f = f' + 1 := ⟨f - 1, by omega⟩
      have hne : t.data.toList ≠ [] := fun q => by have := size_list t; rw [q] at this; simp at this; omega
      obtain ⟨hq1, hq2, hq3⟩ := not_blank t h0
      obtain ⟨n, hn⟩ : ∃ n, n = min t.size 255 := ⟨_, rfl⟩
      obtain ⟨c, hc⟩ : ∃ c, c = UInt8.ofNat n := ⟨_, rfl⟩
      have hcn : (c.toNat : Int) = (n : Int) := by rw [hc]; exact toNat_u8 n (by omega)
      have hmin : min (t.size : Int) 255 = (n : Int) := by omega
      have hmod : (n : Int) % 256 = (n : Int) := by omega
      have hnt : n ≤ t.size := by omega
      have hnti : (n : Int) ≤ (t.size : Int) := by omega
      have hn0 : (0 : Int) ≤ (n : Int) := by omega
      have hnl : n < 256 := by omega
      have HC1 : Hid (Calls Tryz.prog 153 #[.pointer (some ⟨w.heap.size, 0, none⟩), .int .u8 (n : Int)] wr fun e w' => e = .returned .nilIface ∧ SB w' w.heap.size w.heap.size (o ++ [c]) ∧ Below w.heap.size wr w') := by
        have := sb_byte w.heap.size w.heap.size o c wr (unhide HS) (by omega) hwz
        rw [hcn] at this
        exact this
      have hcs : (t.extract 0 n).size = n := by simp; omega
      have HC2 : Hid (∀ w1, SB w1 w.heap.size w.heap.size (o ++ [c]) → w.heap.size ≤ w1.heap.size → Calls Tryz.prog 91 #[.pointer (some ⟨w.heap.size, 0, none⟩), .string (t.extract 0 n)] w1 fun e w' => e = .returned (.tuple #[.int .i64 (t.extract 0 n).size, .nilIface]) ∧ SB w' w.heap.size w.heap.size ((o ++ [c]) ++ t.data.toList.take n) ∧ Below w.heap.size w1 w') := fun w1 h1 h2 => by
        have := sb_text w.heap.size w.heap.size (o ++ [c]) (t.extract 0 n) w1 h1 (by simp; omega) (by omega) h2
        rw [front] at this
        exact this
      have HT : Hid (blocksL f t.data.toList = c :: (t.data.toList.take n ++ blocksL f' (t.data.toList.drop n))) := by
        show _ = _
        rw [hf', blocksL_cons f' _ hne, size_list, ← hn, ← hc]
        have e1 : t.data.toList.take 255 = t.data.toList.take n := by
          rcases Nat.le_total t.size 255 with q | q
          · rw [List.take_of_length_le (by rw [size_list]; exact q), List.take_of_length_le (by rw [size_list]; omega)]
          · rw [show n = 255 by omega]
        have e2 : t.data.toList.drop 255 = t.data.toList.drop n := by
          rcases Nat.le_total t.size 255 with q | q
          · rw [List.drop_of_length_le (by rw [size_list]; exact q), List.drop_of_length_le (by rw [size_list]; omega)]
          · rw [show n = 255 by omega]
        rw [e1, e2]
      have Hf' := hide hf'
      have Hn := hide hn
      clear hf' hn hne hc hcn
      go_wp2_with fail
      refine (unhide HC1).mono ?_; rintro e w1 ⟨rfl, hS1, hb1⟩
      have hz1 : w.heap.size ≤ w1.heap.size := Nat.le_trans hwz hb1.size
      have HX := hide (unhide HC2 w1 hS1 hz1)
      have HB1 := hide ((unhide HBr).trans hb1)
      clear HC1 HC2 hS1 hb1 HBr
      go_wp2_with fail
      refine (unhide HX).mono ?_; rintro e w2 ⟨rfl, hS2, hb2⟩
      have HS2 := hide hS2
      have hz2 : w.heap.size ≤ w2.heap.size := Nat.le_trans hz1 hb2.size
      have HB2 := hide ((unhide HB1).trans hb2)
      clear HX HB1 hS2 hb2
      go_wp2
      go_roundw
      case rel => 
        refine ⟨t.extract n t.size, (o ++ [c]) ++ t.data.toList.take n, f', rfl, HS2, ?_, ?_, ?_, ?_, HB2, hz2⟩
        all_goals have := unhide Hf'
        all_goals have := unhide Hn
        · simp; omega
        · simp; omega
        · simp; omega
        · show _ = _
          rw [unhide HGr, unhide HT, back]
          simp
      case measure => have := unhide Hn; simp; omega
    · have ht0 : t = ⟨#[]⟩ := by
        apply text_ext
        apply List.eq_nil_of_length_eq_zero
        rw [size_list]; omega
      subst ht0
      have HC1 : Hid (Calls Tryz.prog 153 #[.pointer (some ⟨w.heap.size, 0, none⟩), .int .u8 0] wr fun e w' => e = .returned .nilIface ∧ SB w' w.heap.size w.heap.size (o ++ [0]) ∧ Below w.heap.size wr w') := sb_byte w.heap.size w.heap.size o 0 wr (unhide HS) (by omega) hwz
      have HGE : Hid (G = o ++ [0]) := by show _ = _; rw [unhide HGr]; exact congrArg _ (blocksL_nil f)
      clear HGr
      go_wp2_with fail
      refine (unhide HC1).mono ?_; rintro e w1 ⟨rfl, hS1, hb1⟩
      have hz1 : w.heap.size ≤ w1.heap.size := Nat.le_trans hwz hb1.size
      have HX := hide (sb_string w.heap.size w.heap.size (o ++ [0]) w1 hS1 hz1)
      have HB1 := hide ((unhide HBr).trans hb1)
      clear HC1 hS1 hb1 HBr
      go_wp2_with fail
      refine (unhide HX).mono ?_; rintro e w2 ⟨rfl, hb2⟩
      clear HX
      go_wp2
      go_ret
      exact ⟨by rw [unhide HGE]; rfl, (unhide HB1).trans hb2⟩

/-- What Join answers. -/
def joinV (ev : Value) : Option (List UInt8 × Nat) → Value
  | none => .tuple #[.string ⟨#[]⟩, .int .i64 0, ev]
  | some x => .tuple #[.string ⟨x.1.toArray⟩, .int .i64 (x.2 : Int), .nilIface]

theorem byte_at (s : ByteArray) (i : Nat) (_h : i < s.size) (h' : i < s.data.toList.length) : s.data.toList[i] = s[i] := by simp; rfl

set_option maxHeartbeats 2000000 in
set_option maxRecDepth 100000 in
theorem join_any (s : ByteArray) (ev : Value) (w : World) (hs : s.size ≤ 300000) (hev : w.cell? ⟨1, 0, none⟩ = some ev) :
    Calls Tryz.prog 158 #[.string s] w fun e w' => e = .returned (joinV ev (joinL s.size s.data.toList)) ∧ Below w.heap.size w w' := by
  obtain ⟨G, hG⟩ : ∃ G, G = joinL s.size s.data.toList := ⟨_, rfl⟩
  rw [← hG]
  have HG : Hid (G = (joinL s.size (s.data.toList.drop 0)).map fun x => (([] : List UInt8) ++ x.1, 0 + x.2)) := by
    show _ = _
    rw [hG]
    simp
  have HGO := hide hG
  clear hG
  have HN := hide (sb_new w)
  have HB := hide ((Below.refl w.heap.size w).alloc (Nat.le_refl _) (.cells #[.pointer none, .slice none 0 0] 140))
  have hBl : w.heap.size ≤ (w.alloc (.cells #[.pointer none, .slice none 0 0] 140)).heap.size := by simp
  have hgl : 1 < w.heap.size := World.block_lt_of_cell? _ _ hev
  have HEV : Hid (∀ w', Below w.heap.size w w' → w'.cell? ⟨1, 0, none⟩ = some ev) := fun w' hb => (hb.cell hgl).trans hev
  have hsl := size_list s
  clear hev hgl
  go_enter Tryz.func158, Tryz.ntmps158
  go_wp2
  go_loopw [2, 3, 4, 6] (fun x2 x3 x4 iv wr => ∃ (i f : Nat) (o : List UInt8), x2 = .string ⟨#[]⟩ ∧ x3 = .int .i64 0 ∧ x4 = .nilIface ∧ iv = .int .i64 (i : Int) ∧ Hid (SB wr w.heap.size w.heap.size o) ∧ i ≤ s.size ∧ s.size ≤ i + f ∧ o.length ≤ i ∧ Hid (G = (joinL f (s.data.toList.drop i)).map fun x => (o ++ x.1, i + x.2)) ∧ Hid (Below w.heap.size w wr) ∧ w.heap.size ≤ wr.heap.size) (fun _ _ _ iv _ => s.size - (intOf iv).toNat)
  case atStart => exact ⟨0, s.size, [], rfl, rfl, rfl, rfl, HN, by omega, by omega, by simp, HG, HB, hBl⟩
  case round =>
    obtain ⟨i, f, o, rfl, rfl, rfl, rfl, HS, his, hif, hoi, HGr, HBr, hwz⟩ := hrel
    clear HN HB hBl HG
    by_cases h0 : i < s.size
    · obtain ⟨f', hf'⟩ : ∃ f', f = f' + 1 := ⟨f - 1, by omega⟩
      subst hf'
      have hil : i < s.data.toList.length := by omega
      have hbe := byte_at s i h0 hil
      obtain ⟨n, hn⟩ : ∃ n, n = s[i].toNat := ⟨_, rfl⟩
      have hnl : n < 256 := by rw [hn]; exact s[i].toNat_lt
      have g0 : decide ((i : Int) < (s.size : Int)) = true := by simp; omega
      have g0n : decide (i < s.size) = true := by simp; omega
      have hii : (i : Int) < (s.size : Int) := by omega
      by_cases hz : n = 0
      · have HJ : Hid (G = some (o, i + 1)) := by
          show _ = _
          rw [unhide HGO]
          exact join_stop s.size f' i s.data.toList o hil (by rw [hbe]; omega) (by rw [← unhide HGO]; exact unhide HGr)
        have HX := hide (sb_string w.heap.size w.heap.size o wr (unhide HS) hwz)
        rw [hz] at hn
        have hn' : (s[i].toNat : Int) = 0 := by omega
        clear HGr HGO hbe hn
        go_wp2_with fail
        refine (unhide HX).mono ?_; rintro e w2 ⟨rfl, hb2⟩
        have HB2 := hide ((unhide HBr).trans hb2)
        clear HX hb2
        go_wp2
        go_ret3
        exact ⟨by rw [unhide HJ]; rfl, unhide HB2⟩
      · have hn' : (s[i].toNat : Int) = (n : Int) := by omega
        have g1 : ((n : Int) == 0) = false := by simp; omega
        by_cases hsh : s.size < i + 1 + n
        · have HJ : Hid (G = none) := by
            show _ = _
            rw [unhide HGO]
            exact join_short s.size f' i s.data.toList o hil (by rw [hbe]; omega) (by rw [← unhide HGO]; exact unhide HGr) (by rw [hbe]; omega)
          have g2 : decide ((s.size : Int) - ((i : Int) + 1) < (n : Int)) = true := by simp; omega
          have HC := hide (unhide HEV wr (unhide HBr))
          have hev := unhide HC
          clear HGr HGO hbe hn HC
          go_wp2
          go_region
          go_wp2
          go_ret3
          exact ⟨by rw [unhide HJ]; rfl, (unhide HBr).drew⟩
        · have HJ : Hid (G = (joinL f' (s.data.toList.drop (i + 1 + n))).map fun x => ((o ++ (s.data.toList.drop (i + 1)).take n) ++ x.1, i + 1 + n + x.2)) := by
            show _ = _
            have := join_step s.size f' i s.data.toList o hil (by rw [hbe]; omega) (by rw [← unhide HGO]; exact unhide HGr) (by rw [hbe]; omega)
            rw [hbe, ← hn] at this
            rw [unhide HGO]
            exact this
          have g2 : decide ((s.size : Int) - ((i : Int) + 1) < (n : Int)) = false := by simp; omega
          have hcs : (s.extract (i + 1) (i + 1 + n)).size = n := by simp; omega
          have HC2 : Hid (Calls Tryz.prog 91 #[.pointer (some ⟨w.heap.size, 0, none⟩), .string (s.extract (i + 1) (i + 1 + n))] wr fun e w' => e = .returned (.tuple #[.int .i64 (s.extract (i + 1) (i + 1 + n)).size, .nilIface]) ∧ SB w' w.heap.size w.heap.size (o ++ (s.data.toList.drop (i + 1)).take n) ∧ Below w.heap.size wr w') := by
            have := sb_text w.heap.size w.heap.size o (s.extract (i + 1) (i + 1 + n)) wr (unhide HS) (by omega) (by omega) hwz
            rw [between] at this
            exact this
          have k1 : (i : Int) + 1 + (n : Int) ≤ (s.size : Int) := by omega
          have k2 : (i : Int) + 1 ≤ (i : Int) + 1 + (n : Int) := by omega
          have hl2 : (o ++ (s.data.toList.drop (i + 1)).take n).length ≤ i + 1 + n := by simp; omega
          clear HGr HGO hbe hn hcs
          go_wp2_with fail
          refine (unhide HC2).mono ?_; rintro e w2 ⟨rfl, hS2, hb2⟩
          have HS2 := hide hS2
          have hz2 : w.heap.size ≤ w2.heap.size := Nat.le_trans hwz hb2.size
          have HB2 := hide ((unhide HBr).trans hb2)
          clear HC2 hS2 hb2
          go_wp2
          go_roundw
          case rel => exact ⟨i + 1 + n, f', o ++ (s.data.toList.drop (i + 1)).take n, rfl, rfl, rfl, by go_num, HS2, by omega, by omega, hl2, HJ, HB2, hz2⟩
          case measure => simp [intOf]; omega
    · have HJ : Hid (G = none) := by
        show _ = _
        rw [unhide HGO]
        exact join_end s.size f i s.data.toList o (by omega) (by rw [← unhide HGO]; exact unhide HGr)
      have g0 : decide ((i : Int) < (s.size : Int)) = false := by simp; omega
      have g0n : decide (i < s.size) = false := by simp; omega
      have hev := unhide HEV wr (unhide HBr)
      clear HGr HGO
      go_wp2
      go_region
      go_wp2
      go_ret3
      exact ⟨by rw [unhide HJ]; rfl, (unhide HBr).drew⟩
end Go.Proofs.YtjcoahahponabaaGreatDoor
