/- Moving pictures: numbers and colors as texts. A statement that draws its order, by what each of its operations yields, whenever it comes up. What is packed is unpacked, whatever stands behind it: Unpack of what Pack answers. -/
import Derived.Test.YtjcoahahponabaaGreatDoorMh9
import Derived.Test.YtjcoahahponabaaGreatDoorMh17
import Derived.Laws.CopyRow
import Derived.Deep.CutBlock
import Derived.Test.YtjcoahahponabaaGreatDoorMh7
import Derived.Below
import Derived.Test.YtjcoahahponabaaGreatDoorMh8
import Derived.Test.YtjcoahahponabaaGreatDoorMh16
namespace Go.Proofs.YtjcoahahponabaaGreatDoor
open Go.RowKit Lz

theorem mk_bytes0 (n : Nat) (hn : n ≤ 4000000) (w : World) : (Instr.makeSlice 107 (.int .i64 0) (.int .i64 (n : Int))).run Tryz.prog w = .ok (.slice (some ⟨w.heap.size, 0, none⟩) 0 n) (w.alloc (.cells (madeCells #[.int .u8 0] n) 5)) := by
  obtain ⟨i0, hi, hz0, hz1, hz2⟩ := info_parts info_u8
  have hr := run_make (P := Tryz.prog) w 107 5 i0 (.int .u8 0) Tryz.underlying107 hi hz0 .i64 .i64 0 n (by omega) (by omega) (by rw [hz2]; omega) (by omega)
  rw [hz1, Nat.mul_one] at hr
  simpa [Value.cells] using hr

theorem numL_snoc (N : List Nat) (i : Nat) (h : i < N.length) : numL (N.take (i + 1)) = numL (N.take i) ++ [UInt8.ofNat (N.getD i 0)] := by
  unfold numL
  rw [List.take_add_one, List.map_append, List.getElem?_eq_getElem h, List.getD_eq_getElem?_getD, List.getElem?_eq_getElem h]
  rfl

set_option maxHeartbeats 4000000 in
set_option maxRecDepth 100000 in
theorem numbersText_any (W H d : Int) (a1 a2 : Option Addr) (K c1 n c2 : Nat) (N : List Nat) (w : World) (hN : IsNm w a2 N) (hl : N.length = n) (hn : n ≤ 70000) (hK : K ≤ 256) (hb : ∀ x, x ∈ N → x < K) :
    Calls Tryz.prog 124 #[.agg #[.int .i64 W, .int .i64 H, .int .i64 d, .slice a1 K c1, .slice a2 n c2]] w fun e w' => e = .returned (.string ⟨(numL N).toArray⟩) ∧ Below w.heap.size w w' := by
  have hmk := fun w => mk_bytes0 n (by omega) w
  have hHA := hide (al2 w (.cells #[.int .i64 W, .int .i64 H, .int .i64 d, .slice a1 K c1, .slice a2 n c2] 98) (.cells (madeCells #[.int .u8 0] n) 5))
  have HN := hide (fun wr (hb : Below w.heap.size w wr) => hN.below hb)
  have HO0 : Hid (((w.alloc (.cells #[.int .i64 W, .int .i64 H, .int .i64 d, .slice a1 K c1, .slice a2 n c2] 98)).alloc (.cells (madeCells #[.int .u8 0] n) 5)).ownsRow (w.heap.size + 1) 5 1 (.slice (some ⟨w.heap.size + 1, 0, none⟩) 0 n) (numL (N.take 0)).length (byteVals (numL (N.take 0)))) := by
    have h := World.ownsRow_made (e := 5) (size := 1) (w.alloc (.cells #[.int .i64 W, .int .i64 H, .int .i64 d, .slice a1 K c1, .slice a2 n c2] 98)) (madeCells #[.int .u8 0] n) n (Nat.le_refl _) (by unfold maxLen; omega) (by simp [madeCells])
    rw [(al1 w (.cells #[.int .i64 W, .int .i64 H, .int .i64 d, .slice a1 K c1, .slice a2 n c2] 98)).size] at h
    exact h
  have HL := hide hl
  have HBd := hide hb
  obtain ⟨B, hB⟩ : ∃ B, B = w.heap.size := ⟨_, rfl⟩
  clear hN hb hl
  go_enter Tryz.func124, Tryz.ntmps124
  go_wp2
  generalize (w.alloc (.cells #[.int .i64 W, .int .i64 H, .int .i64 d, .slice a1 K c1, .slice a2 n c2] 98)).alloc (.cells (madeCells #[.int .u8 0] n) 5) = w1 at *
  rw [← hB] at hHA HN HO0 ⊢
  obtain ⟨hs0, kB, _, hb0⟩ := unhide hHA
  have HB := hide hb0
  have HBE := hide hB
  have hz1 : B + 1 ≤ w1.heap.size := by omega
  clear hHA hb0 hs0 hB kB hmk
  go_loopw [3, 13] (fun nv iv wr => ∃ i : Nat, i ≤ n ∧ iv = .int .i64 (i : Int) ∧ Hid (wr.ownsRow (B + 1) 5 1 nv (numL (N.take i)).length (byteVals (numL (N.take i)))) ∧ Hid (Below B w wr) ∧ B + 1 ≤ wr.heap.size) (fun _ iv _ => n - (intOf iv).toNat)
  case atStart => exact ⟨0, Nat.zero_le _, rfl, HO0, HB, hz1⟩
  case round =>
    clear HO0 HB hz1
    obtain ⟨i, hi, rfl, HO, HB, hz⟩ := hrel
    obtain ⟨na, nc, rfl, _⟩ := own_shape (unhide HO)
    by_cases hlt : i < n
    · have d1 : decide ((i : Int) < (n : Int)) = true := decide_eq_true (by omega)
      have d1n : decide (i < n) = true := decide_eq_true hlt
      have hii : (i : Int) < (n : Int) := by omega
      obtain ⟨g, rfl, hg, hc⟩ := unhide HN wr (unhide HB)
      have x0 := hc i (by have := unhide HL; omega)
      have HX : Hid (N.getD i 0 < K) := unhide HBd _ (by
        have := unhide HL
        rw [List.getD_eq_getElem?_getD, List.getElem?_eq_getElem (by omega)]
        exact List.getElem_mem _)
      have HS := hide (numL_snoc N i (by have := unhide HL; omega))
      obtain ⟨ni, hni⟩ : ∃ ni, ni = (numL (N.take i)).length := ⟨_, rfl⟩
      rw [← hni] at HO ⊢
      have HNI := hide hni
      have hnib : ni ≤ 70000 := by rw [hni]; unfold numL; rw [List.length_map, List.length_take]; omega
      clear hc hni
      generalize N.getD i 0 = x at *
      have hx : x < 256 := by have := unhide HX; omega
      have hmx : (x : Int) % 256 = (x : Int) := by omega
      have hU8 : ((UInt8.ofNat x).toNat : Int) = (x : Int) := by rw [u8_nat x hx]
      have HU8 := hide hU8
      have HA1 := hide (al1 wr (.cells #[.int .u8 (x : Int)] 5))
      have HO1 := hide ((unhide HO).alloc (.cells #[.int .u8 (x : Int)] 5))
      have HQ : Hid ((wr.alloc (.cells #[.int .u8 (x : Int)] 5)).cell? ⟨wr.heap.size, 0, none⟩ = some (.int .u8 ((UInt8.ofNat x).toNat : Int))) := by
        show _ = _
        rw [World.cell?_alloc_mark, unhide HU8]
        rfl
      clear hU8 HO
      go_wp2_with (at_builtin; refine wpList_appB _ rfl (.tmp 17) (.tmp 20) rfl (B + 1) wr.heap.size (.slice na ni nc) (numL (N.take i)) (UInt8.ofNat x) rfl rfl (by rw [← unhide HNI]; exact unhide HO1) (unhide HQ) (by rw [← unhide HNI]; omega) (by have := (unhide HA1).size; omega) ?_)
      intro v6 w6 ho6 hg6 hat6
      obtain ⟨hs3, _, hb3⟩ := unhide HA1
      have hz6 := hg6.size
      have hno : ∀ q, (Value.slice na ni nc).ownBlock = some q → B ≤ q := fun q e => by have := ((unhide HO1).lt q e).1; omega
      have HN6 : Hid (w6.ownsRow (B + 1) 5 1 v6 (numL (N.take (i + 1))).length (byteVals (numL (N.take (i + 1))))) := by
        show World.ownsRow _ _ _ _ _ _ _
        rw [unhide HS]
        first | exact ho6 | (rw [List.length_append]; exact ho6)
      have HB6 : Hid (Below B w w6) := ((unhide HB).trans (hb3.mono (by omega))).grown hg6 (by omega) (fun z e => hno z e)
      have hz7 : B + 1 ≤ w6.heap.size := by omega
      clear ho6 hg6 hat6 HO1 HB HA1 HQ hno hb3 hs3 hz6 HS HNI x0 HU8 HX
      go_wp2
      go_roundw
      case rel => exact ⟨i + 1, by omega, by go_num, HN6, HB6, hz7⟩
      case measure => simp [intOf]; omega
    · obtain rfl : i = n := by omega
      have d1 : decide ((i : Int) < (i : Int)) = false := by simp
      obtain ⟨ni, hni⟩ : ∃ ni, ni = (numL (N.take i)).length := ⟨_, rfl⟩
      rw [← hni] at HO ⊢
      clear hni
      have hcv := own_text wr (B + 1) _ _ _ (unhide HO)
      have HE : Hid (numL (N.take i) = numL N) := by show _ = _; rw [List.take_of_length_le (by have := unhide HL; omega)]
      rw [unhide HE] at hcv
      clear HN HBd HO
      go_wp2
      go_ret
      exact ⟨rfl, bel_atG (unhide HBE) (unhide HB)⟩

/-- The colors, filled up with noughts to so many bytes. -/
def colF (U : List Px) (T k : Nat) : List UInt8 := colT U k ++ List.replicate (T - 3 * k) 0
theorem colF_len (U : List Px) (T k : Nat) (h : 3 * k ≤ T) : (colF U T k).length = T := by unfold colF; rw [List.length_append, colT_len, List.length_replicate]; omega
theorem colF_full (U : List Px) (k m : Nat) (hk : U.length ≤ k) : colT U (k + m) = colT U k ++ List.replicate (3 * m) 0 := by
  induction m with
  | zero => simp
  | succ m ih =>
    rw [show k + (m + 1) = (k + m) + 1 from rfl]
    show colT U (k + m) ++ rgbL (U.getD (k + m) pz) = _
    have e : U.getD (k + m) pz = pz := by rw [List.getD_eq_getElem?_getD, List.getElem?_eq_none (by omega)]; rfl
    rw [ih, e, List.append_assoc, show 3 * (m + 1) = 3 * m + 3 by omega, ← List.replicate_append_replicate]
    rfl
theorem colF_put (U : List Px) (T k : Nat) (h : 3 * k + 3 ≤ T) : (colF U T k).take (3 * k) ++ rgbL (U.getD k pz) ++ (colF U T k).drop (3 * k + 3) = colF U T (k + 1) := by
  unfold colF
  have hl := colT_len U k
  rw [List.take_append_of_le_length (by omega), List.take_of_length_le (by omega), List.drop_append, hl, List.drop_of_length_le (show (colT U k).length ≤ 3 * k + 3 by omega), List.nil_append, List.drop_replicate]
  show _ = colT U k ++ rgbL (U.getD k pz) ++ _
  rw [show T - 3 * k - (3 * k + 3 - 3 * k) = T - 3 * (k + 1) by omega]
theorem byteVals_parts (l : List UInt8) (k : Nat) (m : List UInt8) : (byteVals l).take k ++ byteVals m ++ (byteVals l).drop (k + m.length) = byteVals (l.take k ++ m ++ l.drop (k + m.length)) := by
  simp [byteVals, List.map_take, List.map_drop]
theorem row_text (w : World) (g T : Nat) (l : List UInt8) (t : TypeId) (h : w.heap[g]? = some (.cells (byteVals l).toArray t)) (hl : l.length = T) : (convert 107 9 (.slice (some ⟨g, 0, none⟩) T T)).run Tryz.prog w = .ok (.string ⟨l.toArray⟩) w := by
  subst hl
  refine run_convert_bytes_back w 107 9 5 _ _ l Tryz.underlying107 Tryz.underlying5 Tryz.underlying9 (fun j hj => ?_)
  have hadd : (⟨g, 0, none⟩ : Addr).add j = ⟨g, j, none⟩ := by unfold Addr.add; split <;> simp_all
  rw [hadd, blk_cell h]
  simp only [List.getElem?_toArray, byteVals_at, List.getElem?_eq_getElem hj]
  rfl
theorem made_bytes (T : Nat) : madeCells #[.int .u8 0] T = (byteVals (List.replicate T 0)).toArray := by
  apply Array.toList_inj.1
  rw [toList_madeCells_one]
  simp [byteVals]
theorem setRow_far (w : World) (g k : Nat) (cs : Array Value) (h : k ≠ g) : (w.setRow g cs).heap[k]? = w.heap[k]? := by
  unfold World.setRow
  simp [Array.getElem?_modify, Ne.symm h]
theorem setRow_size (w : World) (g : Nat) (cs : Array Value) : (w.setRow g cs).heap.size = w.heap.size := by
  unfold World.setRow
  simp
theorem setRow_below {B g : Nat} {w0 w : World} (h : Below B w0 w) (hg : B ≤ g) (cs : Array Value) : Below B w0 (w.setRow g cs) :=
  ⟨h.os, h.tape, h.output, by rw [setRow_size]; exact h.size, fun k hk => by rw [setRow_far _ _ _ _ (by omega)]; exact h.block k hk⟩

set_option maxHeartbeats 4000000 in
set_option maxRecDepth 100000 in
theorem colorsText_any (W H d : Int) (a1 a2 : Option Addr) (K c1 n c2 : Nat) (U : List Px) (w : World) (hU : IsPx w a1 K (fun i => U.getD i default)) (hl : U.length = K) (hK : K ≤ 256) :
    Calls Tryz.prog 125 #[.agg #[.int .i64 W, .int .i64 H, .int .i64 d, .slice a1 K c1, .slice a2 n c2]] w fun e w' => e = .returned (.string ⟨(colT U (2 * 2 ^ szOf K)).toArray⟩) ∧ Below w.heap.size w w' := by
  obtain ⟨hs7, hsK⟩ := szOf_le hK
  have HSz := hide (fun w => gsize_any W H d a1 a2 K c1 n c2 w hK)
  have HR := hide (fun w => roomOf_any (szOf K) w (by omega))
  have hR512 : 2 * 2 ^ szOf K ≤ 256 := by
    have := Nat.pow_le_pow_right (n := 2) (by omega) hs7
    omega
  obtain ⟨R, hR⟩ : ∃ R, R = 2 * 2 ^ szOf K := ⟨_, rfl⟩
  rw [← hR] at HR hsK hR512 ⊢
  obtain ⟨S, hS⟩ : ∃ S, S = szOf K := ⟨_, rfl⟩
  rw [← hS] at HSz HR hs7
  clear hS hR
  obtain ⟨T, hT⟩ : ∃ T, T = 3 * R := ⟨_, rfl⟩
  have h3R : (3 : Int) * (R : Int) = (T : Int) := by omega
  have hT768 : T ≤ 768 := by omega
  have HE : Hid (colF U T K = colT U R) := by
    show _ = _
    have := colF_full U K (R - K) (by omega)
    rw [show K + (R - K) = R by omega] at this
    rw [this]
    unfold colF
    rw [show T - 3 * K = 3 * (R - K) by omega]
  have hmk := fun w => mk_bytes T (by omega) w
  rw [made_bytes] at hmk
  have hHA := hide (al1 w (.cells #[.int .i64 W, .int .i64 H, .int .i64 d, .slice a1 K c1, .slice a2 n c2] 98))
  have HU := hide (fun wr (hb : Below w.heap.size w wr) => hU.below hb)
  obtain ⟨B, hB⟩ : ∃ B, B = w.heap.size := ⟨_, rfl⟩
  have hKT : 3 * K ≤ T := by omega
  clear hU hT
  go_enter Tryz.func125, Tryz.ntmps125
  go_wp2_with fail
  generalize w.alloc (.cells #[.int .i64 W, .int .i64 H, .int .i64 d, .slice a1 K c1, .slice a2 n c2] 98) = w1 at *
  rw [← hB] at hHA HU ⊢
  obtain ⟨hs0, kB, hb0⟩ := unhide hHA
  have HB := hide hb0
  have HBE := hide hB
  have HK := hide kB
  have hz1 : B + 1 ≤ w1.heap.size := by omega
  clear hHA hb0 hs0 hB kB
  have q0 : w1.cell? ⟨B, 0, none⟩ = some (.int .i64 W) := blk_cell (unhide HK) 0
  have q1 : w1.cell? ⟨B, 1, none⟩ = some (.int .i64 H) := blk_cell (unhide HK) 1
  have q2 : w1.cell? ⟨B, 2, none⟩ = some (.int .i64 d) := blk_cell (unhide HK) 2
  have q3 : w1.cell? ⟨B, 3, none⟩ = some (.slice a1 K c1) := blk_cell (unhide HK) 3
  have q4 : w1.cell? ⟨B, 4, none⟩ = some (.slice a2 n c2) := blk_cell (unhide HK) 4
  refine (unhide HSz _).mono ?_
  rintro e w2 ⟨rfl, hb2⟩
  have hz2 := hb2.size
  have HB2 := hide ((unhide HB).trans (hb2.mono (by omega)))
  have HK2 := hide (blk_below (unhide HK) hb2 (blk_lt (unhide HK)))
  clear q0 q1 q2 q3 q4 HB HK hb2 HSz
  go_wp2_with fail
  refine (unhide HR _).mono ?_
  rintro e w3 ⟨rfl, rfl⟩
  have q3 : w3.cell? ⟨B, 3, none⟩ = some (.slice a1 K c1) := blk_cell (unhide HK2) 3
  have hA3 := al1 w3 (.cells (byteVals (List.replicate T 0)).toArray 5)
  have HA3 := hide hA3
  have q3' : (w3.alloc (.cells (byteVals (List.replicate T 0)).toArray 5)).cell? ⟨B, 3, none⟩ = some (.slice a1 K c1) := blk_cell (blk_below (unhide HK2) hA3.below (by omega)) 3
  have hmk3 := hmk w3
  have HX2 := hide (show B + 1 ≤ w3.heap.size by omega)
  clear hA3 hmk HR
  obtain ⟨G, hG⟩ : ∃ G, G = w3.heap.size := ⟨_, rfl⟩
  go_wp2_with fail
  generalize w3.alloc (.cells (byteVals (List.replicate T 0)).toArray 5) = w4 at *
  rw [← hG] at HA3 HX2 ⊢
  obtain ⟨hs4, k4, hb4⟩ := unhide HA3
  have HB4 := hide ((unhide HB2).trans (hb4.mono (by omega)))
  have HG4 : Hid (w4.heap[G]? = some (.cells (byteVals (colF U T 0)).toArray 5)) := k4
  have hBG := unhide HX2
  clear HA3 hG k4 hb4 HK2 HB2 hmk3 q3 q3' HX2 hs4 hz2 hz1
  go_loopw [14] (fun iv wr => ∃ i : Nat, i ≤ K ∧ iv = .int .i64 (i : Int) ∧ Hid (wr.heap[G]? = some (.cells (byteVals (colF U T i)).toArray 5)) ∧ Hid (Below B w wr)) (fun iv _ => K - (intOf iv).toNat)
  case atStart => exact ⟨0, by omega, rfl, HG4, HB4⟩
  case round =>
    clear HG4 HB4
    obtain ⟨i, hi, rfl, HG, HB⟩ := hrel
    by_cases hlt : i < K
    · have d1 : decide ((i : Int) < (K : Int)) = true := decide_eq_true (by omega)
      have d1n : decide (i < K) = true := decide_eq_true hlt
      have hii : (i : Int) < (K : Int) := by omega
      obtain ⟨b, o, rfl, _, hc⟩ := (unhide HU wr (unhide HB)).resolve_left (by omega)
      obtain ⟨x0, x1, x2, x3⟩ := hc i hlt
      simp only at x0 x1 x2 x3
      have HP := hide (colF_put U T i (by omega))
      have hlenF := colF_len U T i (by omega)
      have HLF := hide hlenF
      have hgd : U.getD i default = U.getD i pz := rfl
      rw [hgd] at x0 x1 x2 x3
      clear hc hgd hlenF
      generalize U.getD i pz = y at *
      have hA5 := al1 wr (.cells #[.int .u8 (y.r.toNat : Int), .int .u8 (y.g.toNat : Int), .int .u8 (y.b.toNat : Int), .int .u8 (y.a.toNat : Int)] 78)
      have hGl : G < wr.heap.size := blk_lt (unhide HG)
      have HG5 := hide (blk_below (unhide HG) hA5.below hGl)
      have HA5 := hide hA5
      have hBw : B ≤ wr.heap.size := by omega
      have HB5 := hide ((unhide HB).trans (hA5.below.mono hBw))
      clear hA5
      go_upto_region 5 with fail
      generalize wr.alloc (.cells #[.int .u8 (y.r.toNat : Int), .int .u8 (y.g.toNat : Int), .int .u8 (y.b.toNat : Int), .int .u8 (y.a.toNat : Int)] 78) = w5 at *
      obtain ⟨hs5, k5, hb5⟩ := unhide HA5
      have y0 : w5.cell? ⟨wr.heap.size, 0, none⟩ = some (.int .u8 (y.r.toNat : Int)) := blk_cell k5 0
      have y1 : w5.cell? ⟨wr.heap.size, 1, none⟩ = some (.int .u8 (y.g.toNat : Int)) := blk_cell k5 1
      have y2 : w5.cell? ⟨wr.heap.size, 2, none⟩ = some (.int .u8 (y.b.toNat : Int)) := blk_cell k5 2
      have hG5 := unhide HG5
      obtain ⟨J, hJ⟩ : ∃ J, J = 3 * i := ⟨_, rfl⟩
      have hm3 : (3 : Int) * (i : Int) = (J : Int) := by omega
      have hl3 : (J : Int) ≤ (T : Int) := by omega
      have hl3n : J ≤ T := by omega
      have hJT : J + 3 ≤ T := by omega
      rw [← hJ] at HP
      have hgJ : (J : Int) ≤ 768 := by omega
      have hcp : ∀ ty dc sc, (Builtin.copy_ #[107, 107] ty #[.slice (some ⟨G, J, none⟩) (T - J) dc, .slice (some ⟨w5.heap.size, 0, none⟩) 3 sc]).run Tryz.prog (w5.alloc (.cells #[.int .u8 (y.r.toNat : Int), .int .u8 (y.g.toNat : Int), .int .u8 (y.b.toNat : Int)] 5)).drew = .ok (goInt 3) ((w5.alloc (.cells #[.int .u8 (y.r.toNat : Int), .int .u8 (y.g.toNat : Int), .int .u8 (y.b.toNat : Int)] 5)).drew.setRow G (byteVals (colF U T (i + 1))).toArray) := fun ty dc sc => by
        have h := run_copy_row (P := Tryz.prog) (w5.alloc (.cells #[.int .u8 (y.r.toNat : Int), .int .u8 (y.g.toNat : Int), .int .u8 (y.b.toNat : Int)] 5)).drew 107 107 ty 5 G J (T - J) dc ⟨w5.heap.size, 0, none⟩ 3 sc (byteVals (colF U T i)).toArray 5 (byteVals (rgbL y)) Tryz.underlying107 (by kernel_rfl) (blk_alloc hG5 _) (by show 3 = Nat.min 3 (T - J); simp only [Nat.min_def]; split <;> omega)
          (fun j v hj => by
            rw [addr_add, Nat.zero_add]
            have e := World.cell?_alloc_mark w5 #[.int .u8 (y.r.toNat : Int), .int .u8 (y.g.toNat : Int), .int .u8 (y.b.toNat : Int)] 5 (0, 0) j
            show (w5.alloc (.cells #[.int .u8 (y.r.toNat : Int), .int .u8 (y.g.toNat : Int), .int .u8 (y.b.toNat : Int)] 5)).cell? _ = _
            rw [e, ← hj]
            simp [byteVals, rgbL])
          (by simp only [List.size_toArray, byteVals_length, unhide HLF]; show J + 3 ≤ T; exact hJT)
          (fun v hv => by
            obtain ⟨b, _, rfl⟩ := List.mem_map.1 hv
            rfl)
        rw [h]
        have e3 : (byteVals (rgbL y)).length = (rgbL y).length := byteVals_length _
        rw [e3, byteVals_parts]
        show Result.ok (goInt 3) _ = _
        rw [show (rgbL y).length = 3 from rfl, unhide HP]
      have hGC : G ≠ wr.heap.size := by omega
      have HAF := hide (al1 w5 (.cells #[.int .u8 (y.r.toNat : Int), .int .u8 (y.g.toNat : Int), .int .u8 (y.b.toNat : Int)] 5))
      have HGA : Hid ((w5.alloc (.cells #[.int .u8 (y.r.toNat : Int), .int .u8 (y.g.toNat : Int), .int .u8 (y.b.toNat : Int)] 5)).drew.heap[G]? = some (.cells (byteVals (colF U T i)).toArray 5)) := blk_alloc hG5 _
      have HS5 := hide hs5
      clear hG5 HG5 HA5 k5 hb5 x0 x1 x2 x3 hJ hJT hs5
      go_region
      have hb6' : Below w5.heap.size w5 (w5.alloc (.cells #[.int .u8 (y.r.toNat : Int), .int .u8 (y.g.toNat : Int), .int .u8 (y.b.toNat : Int)] 5)).drew := (unhide HAF).below.drew
      have hs6 := (unhide HAF).size
      have hs5 := unhide HS5
      generalize (w5.alloc (.cells #[.int .u8 (y.r.toNat : Int), .int .u8 (y.g.toNat : Int), .int .u8 (y.b.toNat : Int)] 5)).drew = w6 at *
      have HG7 : Hid ((w6.setRow G (byteVals (colF U T (i + 1))).toArray).heap[G]? = some (.cells (byteVals (colF U T (i + 1))).toArray 5)) := setRow_heap _ _ _ _ _ _ (unhide HGA)
      have HB7 : Hid (Below B w (w6.setRow G (byteVals (colF U T (i + 1))).toArray)) := setRow_below ((unhide HB5).trans (hb6'.mono (by omega))) (by omega) _
      generalize w6.setRow G (byteVals (colF U T (i + 1))).toArray = w7 at *
      clear hcp HGA HAF hs6 hb6' HB5 HB HG hs5 y0 y1 y2 hGC HP HLF
      go_wp2
      go_roundw
      case rel => exact ⟨i + 1, by omega, by go_num, HG7, HB7⟩
      case measure => simp [intOf]; omega
    · obtain rfl : i = K := by omega
      have d1 : decide ((i : Int) < (i : Int)) = false := by simp
      have hcv := row_text wr G T (colF U T i) 5 (unhide HG) (colF_len U T i (by omega))
      rw [unhide HE] at hcv
      clear HU HG
      go_wp2
      go_ret
      exact ⟨rfl, bel_atG (unhide HBE) (unhide HB)⟩
end Go.Proofs.YtjcoahahponabaaGreatDoor
namespace Go.Proofs.YtjcoahahponabaaGreatDoor
open Go.RowKit

/-- What an operation yields: a value; or where a row of one cell lies. -/
inductive Yd where
  | val (v : Value)
  | row (u : Value)
def Yd.ok (y : Yd) (v : Value) (w : World) : Prop :=
  match y with
  | .val u => v = u
  | .row u => ∃ g, v = .slice (some ⟨g, 0, none⟩) 1 1 ∧ w.cell? ⟨g, 0, none⟩ = some u
theorem Yd.below {y : Yd} {v : Value} {w w' : World} (h : y.ok v w) (hb : Below w.heap.size w w') : y.ok v w' := by
  cases y with
  | val u => exact h
  | row u =>
    obtain ⟨g, e, hc⟩ := h
    exact ⟨g, e, (hb.cell (p := ⟨g, 0, none⟩) (World.block_lt_of_cell? _ _ hc)).trans hc⟩

/-- No guards; each has a slot of its own; none waits for a later one. -/
def rgB (ops : Array Oper) (n : Nat) : Bool :=
  (List.range ops.size).all fun i => match ops[i]? with
    | none => true
    | some o => o.guard.isNone && (match o.dst with | none => false | some d => decide (d < n) && (List.range ops.size).all fun j => decide (i = j) || match ops[j]? with | none => true | some o' => o'.dst != some d) && o.after.toList.all fun e => decide (e.on < i)

structure RgOk (ops : Array Oper) (n : Nat) : Prop where
  guard : ∀ (i : Nat) (o : Oper), ops[i]? = some o → o.guard = none
  dst : ∀ (i : Nat) (o : Oper), ops[i]? = some o → ∃ d : Tmp, o.dst = some d ∧ d < n
  apart : ∀ (i j : Nat) (o o' : Oper) (d : Tmp), ops[i]? = some o → ops[j]? = some o' → o.dst = some d → o'.dst = some d → i = j
  after : ∀ (i : Nat) (o : Oper), ops[i]? = some o → ∀ e ∈ o.after, e.on < i
theorem rgB_ok {ops : Array Oper} {n : Nat} (h : rgB ops n = true) : RgOk ops n := by
  have key : ∀ (i : Nat) (o : Oper), ops[i]? = some o → (o.guard.isNone && (match o.dst with | none => false | some d => decide (d < n) && (List.range ops.size).all fun j => decide (i = j) || match ops[j]? with | none => true | some o' => o'.dst != some d) && o.after.toList.all fun e => decide (e.on < i)) = true := fun i o hi => by
    have hlt := (Array.getElem?_eq_some_iff.1 hi).1
    have := List.all_eq_true.1 h i (List.mem_range.2 hlt)
    simp only [hi] at this
    exact this
  refine ⟨fun i o hi => ?_, fun i o hi => ?_, fun i j o o' d hi hj e e' => ?_, fun i o hi e he => ?_⟩
  · have := key i o hi
    simp only [Bool.and_eq_true] at this
    simpa using this.1.1
  · have := key i o hi
    simp only [Bool.and_eq_true] at this
    cases hd : o.dst with
    | none => simp [hd] at this
    | some d =>
      simp only [hd, Bool.and_eq_true] at this
      exact ⟨d, rfl, by simpa using this.1.2.1⟩
  · have := key i o hi
    simp only [Bool.and_eq_true, e] at this
    have hjl := (Array.getElem?_eq_some_iff.1 hj).1
    have h2 := List.all_eq_true.1 this.1.2.2 j (List.mem_range.2 hjl)
    simp only [hj, e', Bool.or_eq_true, decide_eq_true_eq] at h2
    rcases h2 with h2 | h2
    · exact h2
    · simp at h2
  · have := key i o hi
    simp only [Bool.and_eq_true] at this
    have h2 := List.all_eq_true.1 this.2 e (by simpa using he)
    simpa using h2

section
variable {P : Program} {Q : Exit → Act → World → Prop}

/-- The frame and the world, whatever has come up so far. -/
structure RgA (ops : Array Oper) (B : Nat) (w0 : World) (a0 a : Act) (w : World) : Prop where
  below : Below B w0 w
  defers : a.defers = a0.defers
  size : a.tmps.size = a0.tmps.size
  far : ∀ d : Tmp, (∀ o ∈ ops, o.dst ≠ some d) → a.tmps.getD d undef = a0.tmps.getD d undef
structure RgJ (ops : Array Oper) (S : Nat → Yd) (B : Nat) (w0 : World) (a0 : Act) (listed : Array Bool) (a : Act) (w : World) : Prop where
  fr : RgA ops B w0 a0 a w
  len : listed.size = ops.size
  good : ∀ (i : Nat) (o : Oper) (d : Tmp), ops[i]? = some o → o.dst = some d → listed.getD i false = true → (S i).ok (a.tmps.getD d undef) w

/-- What one operation must show. -/
def RgS (P : Program) (Q : Exit → Act → World → Prop) (ops : Array Oper) (S : Nat → Yd) (B : Nat) (w0 : World) (a0 : Act) (i : Nat) : Prop :=
  ∀ o : Oper, ops[i]? = some o → ∀ (a : Act) (w : World), RgA ops B w0 a0 a w → B ≤ w.heap.size → (∀ e ∈ o.after, Region.binds .any e = true → ∀ (oj : Oper) (d : Tmp), ops[e.on]? = some oj → oj.dst = some d → (S e.on).ok (a.tmps.getD d undef) w) →
    o.wp P a w (fun a' w' => ∃ v, a' = a.put o.dst v ∧ (S i).ok v w' ∧ Below w.heap.size w w') Q

theorem count_set : ∀ (l : List Bool) (i : Nat), l[i]? = some false → (l.set i true).count false + 1 = l.count false
  | [], i, h => by simp at h
  | b :: l, 0, h => by
    simp at h
    subst h
    simp
  | b :: l, i + 1, h => by
    have ih := count_set l i (by simpa using h)
    rw [List.set_cons_succ, List.count_cons, List.count_cons]
    omega

theorem rg_any {ops : Array Oper} {S : Nat → Yd} {B : Nat} {w0 : World} {a0 : Act} {n : Nat} (hn : a0.tmps.size = n) (hO : RgOk ops n) (hB0 : B ≤ w0.heap.size) (hS : ∀ i, i < ops.size → RgS P Q ops S B w0 a0 i)
    (hQ : ∀ (a : Act) (w : World), RgA ops B w0 a0 a w → (∀ (i : Nat) (o : Oper) (d : Tmp), ops[i]? = some o → o.dst = some d → (S i).ok (a.tmps.getD d undef) w) → Q .normal a w) :
    ∀ (fuel : Nat) (listed : Array Bool) (a : Act) (w : World), listed.toList.count false ≤ fuel → RgJ ops S B w0 a0 listed a w → wpAny P .any ops Q fuel listed a w := by
  have done : ∀ (listed : Array Bool) (a : Act) (w : World), RgJ ops S B w0 a0 listed a w → Region.ready .any ops listed = [] → Q .normal a w := fun listed a w hJ hr => by
    have all : ∀ i, i < ops.size → listed.getD i false = true := fun i => by
      induction i using Nat.strongRecOn with
      | _ i ih =>
        intro hi
        cases hl : listed.getD i false with
        | true => rfl
        | false =>
          exfalso
          have hm : i ∈ Region.ready .any ops listed := mem_ready.2 ⟨by
              have hil : i < listed.size := by rw [hJ.len]; exact hi
              rw [Array.getD_eq_getD_getElem?, Array.getElem?_eq_getElem hil] at hl ⊢
              exact hl, ops[i], Array.getElem?_eq_getElem hi, fun e he _ => ih e.on (hO.after i _ (Array.getElem?_eq_getElem hi) e he) (by have := hO.after i _ (Array.getElem?_eq_getElem hi) e he; omega)⟩
          rw [hr] at hm
          simp at hm
    exact hQ a w hJ.fr (fun i o d hi hd => hJ.good i o d hi hd (all i (Array.getElem?_eq_some_iff.1 hi).1))
  intro fuel
  induction fuel with
  | zero =>
    intro listed a w hc hJ
    have h0 : Region.ready .any ops listed = [] := by
      rw [List.eq_nil_iff_forall_not_mem]
      intro i hi
      obtain ⟨h1, o, ho, _⟩ := mem_ready.1 hi
      have hil : i < listed.size := by rw [hJ.len]; exact (Array.getElem?_eq_some_iff.1 ho).1
      rw [Array.getD_eq_getD_getElem?, Array.getElem?_eq_getElem hil] at h1
      have h1 : listed[i] = false := h1
      have : false ∈ listed.toList := by rw [← h1]; exact Array.getElem_mem_toList hil
      have := List.count_pos_iff.2 this
      omega
    exact ⟨h0, done listed a w hJ h0⟩
  | succ fuel ih =>
    intro listed a w hc hJ
    refine ⟨done listed a w hJ, fun i hi => ?_⟩
    obtain ⟨h1, o, ho, hall⟩ := mem_ready.1 hi
    have hil : i < listed.size := by rw [hJ.len]; exact (Array.getElem?_eq_some_iff.1 ho).1
    have h1' : listed.toList[i]? = some false := by
      rw [Array.getD_eq_getD_getElem?, Array.getElem?_eq_getElem hil] at h1
      rw [Array.getElem?_toList, Array.getElem?_eq_getElem hil]
      exact congrArg some h1
    unfold wpOp
    simp only [ho]
    have hw : Region.wanted o (yielded ops a.tmps) = true := by simp [Region.wanted, hO.guard i o ho]
    rw [if_pos hw]
    refine .inl (Oper.wp_mono ?_ (hS i (Array.getElem?_eq_some_iff.1 ho).1 o ho a w hJ.fr (Nat.le_trans hB0 hJ.fr.below.size) (fun e he hb oj d hoj hd => hJ.good e.on oj d hoj hd (hall e he hb))))
    rintro a' w' ⟨v, rfl, hy, hb⟩
    obtain ⟨d, hd, hdn⟩ := hO.dst i o ho
    have hput : (a.put o.dst v).tmps = a.tmps.setIfInBounds d v := by rw [hd]; rfl
    have hdl : d < a.tmps.size := by rw [hJ.fr.size, hn]; exact hdn
    refine ih _ _ _ ?_ ⟨⟨hJ.fr.below.trans (hb.mono (Nat.le_trans hB0 hJ.fr.below.size)), ?_, ?_, fun k hk => ?_⟩, by simpa using hJ.len, fun j o' d' hj hd' hlj => ?_⟩
    · rw [Array.toList_setIfInBounds]
      have := count_set _ i h1'
      omega
    · rw [hd]; exact hJ.fr.defers
    · rw [hput]; simpa using hJ.fr.size
    · have hne : d ≠ k := fun e => hk o (Array.mem_of_getElem? ho) (by rw [hd, e])
      rw [hput, Array.getD_eq_getD_getElem?, Array.getElem?_setIfInBounds_ne hne, ← Array.getD_eq_getD_getElem?]
      exact hJ.fr.far k hk
    · by_cases e : i = j
      · subst e
        rw [ho] at hj
        injection hj with hj
        subst hj
        rw [hd] at hd'
        injection hd' with hd'
        subst hd'
        rw [hput, Array.getD_eq_getD_getElem?, Array.getElem?_setIfInBounds_self_of_lt hdl]
        exact hy
      · have hne : d ≠ d' := fun q => e (hO.apart i j o o' d ho hj hd (by rw [hd', q]))
        rw [hput, Array.getD_eq_getD_getElem?, Array.getElem?_setIfInBounds_ne hne, ← Array.getD_eq_getD_getElem?]
        rw [getD_set_ne false e] at hlj
        exact Yd.below (hJ.good j o' d' hj hd' hlj) hb

/-- The whole region. -/
theorem region_yields {id : Nat} {a0 : Act} {w : World} {ops : Array Oper} (S : Nat → Yd) (B : Nat) (w0 : World) (n : Nat) (hm : P.follows .mixedOrders = true) (hn : a0.tmps.size = n) (hO : rgB ops n = true) (hw : Below B w0 w) (hB0 : B ≤ w0.heap.size) (hS : ∀ i, i < ops.size → RgS P Q ops S B w0 a0 i)
    (hQ : ∀ (a : Act) (w : World), RgA ops B w0 a0 a w → (∀ (i : Nat) (o : Oper) (d : Tmp), ops[i]? = some o → o.dst = some d → (S i).ok (a.tmps.getD d undef) w) → Q .normal a w) : (Code.region id ops true).wp P Q a0 w := by
  refine wp_region_any hm (rg_any hn (rgB_ok hO) hB0 hS hQ ops.size _ a0 _ ?_ ⟨⟨hw.drew, rfl, rfl, fun _ _ => rfl⟩, by simp, fun i o d hi hd hl => ?_⟩)
  · have h2 := List.count_le_length (a := false) (l := (Array.replicate ops.size false).toList)
    rw [Array.length_toList, Array.size_replicate] at h2
    exact h2
  · have hlt := (Array.getElem?_eq_some_iff.1 hi).1
    simp [hlt] at hl

theorem st_val {o : Oper} {a : Act} {w w' : World} {y : Yd} (v : Value) (h : (execOp a.eval o).run P w = .ok (.value v) w') (hy : y.ok v w') (hb : Below w.heap.size w w') : o.wp P a w (fun a' w' => ∃ v, a' = a.put o.dst v ∧ y.ok v w' ∧ Below w.heap.size w w') Q := by
  unfold Oper.wp
  rw [h]
  exact ⟨v, rfl, hy, hb⟩
theorem st_call {o : Oper} {a : Act} {w : World} {y : Yd} (f : FuncId) (us : Array Value) (v : Value) (h : (execOp a.eval o).run P w = .ok (.enter f us) w) (hc : Calls P f us w fun e w' => e = .returned v ∧ Below w.heap.size w w') (hy : ∀ w', y.ok v w') : o.wp P a w (fun a' w' => ∃ v, a' = a.put o.dst v ∧ y.ok v w' ∧ Below w.heap.size w w') Q := by
  unfold Oper.wp
  rw [h, Oper.upon_enter]
  refine hc.mono ?_
  rintro e w' ⟨rfl, hb⟩
  exact ⟨v, rfl, hy w', hb⟩
end
end Go.Proofs.YtjcoahahponabaaGreatDoor
namespace Go.Proofs.YtjcoahahponabaaGreatDoor
open Go.RowKit Lz Ps

theorem packC_len (W : Nat) (hW : W ≤ 8) : ∀ (r : List UInt8) (P : List (Nat × Nat)) (S c : Nat), S ≤ 12 → len (packC W P S c r) ≤ 24 * r.length + 24 := by
  intro r
  induction r with
  | nil =>
    intro P S c hS
    have := (size'_le S (2 ^ W + 2 + P.length) hS).2
    simp only [packC, len, List.length_nil]
    omega
  | cons b r ih =>
    intro P S c hS
    have h1 := (size'_le S (2 ^ W + 2 + P.length) hS).2
    have h2 := (size'_le S 4095 hS).2
    unfold packC
    cases Lz.look W P c b.toNat with
    | some c' =>
      have := ih P S c' hS
      simp only [List.length_cons]
      omega
    | none =>
      simp only [List.length_cons]
      by_cases hf : 2 ^ W + 2 + P.length = 4095
      · rw [if_pos hf]
        have := ih [] (W + 1) b.toNat (by omega)
        simp only [len]
        omega
      · rw [if_neg hf]
        have := ih (P ++ [(c, b.toNat)]) (size' S (2 ^ W + 2 + P.length)) b.toNat h1
        simp only [len]
        omega

theorem packAll_len (W : Nat) (hW : W ≤ 8) (l : List UInt8) : len (packAll W l) ≤ 24 * l.length + 24 := by
  cases l with
  | nil => simp only [packAll, len, List.length_nil]; omega
  | cons b r =>
    have := packC_len W hW r [] (W + 1) b.toNat (by omega)
    simp only [packAll, len, List.length_cons]
    omega

theorem packAll_fit (W : Nat) (hW2 : 2 ≤ W) (hW : W ≤ 8) (b : UInt8) (r : List UInt8) (hb : ∀ x ∈ b :: r, x.toNat < 2 ^ W) : Fit (packAll W (b :: r)) := by
  have hp4 : 4 ≤ 2 ^ W := Nat.pow_le_pow_right (n := 2) (i := 2) (by omega) hW2
  have hp := pow2 W hW
  have h0 : ∀ c n c', Lz.look W [] c n = some c' → isCode W 0 c' := fun c n c' q => by simp [Lz.look] at q
  refine Fit.cons (show 2 ^ W < 2 ^ (W + 1) by rw [Nat.pow_succ]; omega) (packC_fit W hW2 hW r [] (W + 1) b.toNat (.inl (hb b (List.mem_cons_self ..))) (fun x hx => hb x (List.mem_cons_of_mem _ hx)) (fun n c' q => h0 _ n c' q) h0 ?_ (by omega) (by simp only [List.length_nil]; omega) (Nat.le_refl _))
  simp only [List.length_nil]
  rw [Nat.pow_succ]
  omega

theorem dec_packAll {V nb W most : Nat} (hW2 : 2 ≤ W) (hW : W ≤ 8) (b : UInt8) (r : List UInt8) (hb : ∀ x ∈ b :: r, x.toNat < 2 ^ W) (hat : At V nb 0 (packAll W (b :: r))) (hm : (b :: r).length ≤ most) :
    dec V nb W most (nb + 1) (Lz.start W) = .ok (b :: r) (len (packAll W (b :: r))) := by
  have hp4 : 4 ≤ 2 ^ W := Nat.pow_le_pow_right (n := 2) (i := 2) (by omega) hW2
  have hp := pow2 W hW
  have hb0 := hb b (List.mem_cons_self ..)
  have hlt : 2 ^ W < 2 ^ (W + 1) := by rw [Nat.pow_succ]; omega
  unfold packAll at hat ⊢
  obtain ⟨a1, a2⟩ := At.cons (p := (2 ^ W, W + 1)) hlt hat
  obtain ⟨b1, b2⟩ := a1.one
  simp only at b1 b2 a2
  have hs := Lz.step_clear (V := V) (nb := nb) (W := W) (most := most) (st := Lz.start W) (n := 2 ^ W) b1 b2.symm rfl
  rw [dec_go rfl hs]
  have hofb : UInt8.ofNat b.toNat = b := by simp
  have := dec_packC (V := V) (nb := nb) (W := W) (most := most) hW2 hW r [] [] (W + 1) b.toNat [b] ⟨0 + (W + 1), W + 1, [], [], []⟩ nb (Trie.nil W hW) (.inl hb0) (fun x hx => hb x (List.mem_cons_of_mem _ hx)) (by simp only [List.length_nil]; rw [Nat.pow_succ]; omega) (by omega) (Nat.le_refl _) (by rw [textOf, if_pos hb0, hofb]) (.inl ⟨rfl, rfl, rfl⟩) rfl a2 (by simp only [List.length_cons, List.length_nil] at hm ⊢; omega) (by show nb < 0 + (W + 1) + nb; omega)
  rw [show (Lz.start W).k + (Lz.start W).S = 0 + (W + 1) from rfl, show (Lz.start W).out = [] from rfl, this]
  simp only [len, List.nil_append, List.cons_append, List.nil_append]
  congr 1
  omega

theorem unS_packed (W : Nat) (hW2 : 2 ≤ W) (hW : W ≤ 8) (l : List UInt8) (h0 : l ≠ []) (hl : l.length ≤ 24000) (hb : ∀ x ∈ l, x.toNat < 2 ^ W) (more : ByteArray) (hm : more.size ≤ 100) :
    unS (textP (packAll W l) ++ more) (W : Int) (l.length : Int) = .ok l (len (packAll W l)) ∧ (len (packAll W l) + 7) / 8 = (textP (packAll W l)).size ∧ (textP (packAll W l)).size ≤ 100000 := by
  have hln := packAll_len W hW l
  have hts := textP_size (packAll W l)
  have hsz : (textP (packAll W l) ++ more).size ≤ 300000 := by rw [ByteArray.size_append, hts]; omega
  refine ⟨?_, hts.symm, by rw [hts]; omega⟩
  unfold unS
  rw [if_pos ⟨by omega, by omega, by omega, by omega, hsz⟩]
  cases l with
  | nil => exact absurd rfl h0
  | cons b r =>
    have hat := at_text (packAll_fit W hW2 hW b r hb) more
    exact dec_packAll hW2 hW b r hb hat (Nat.le_refl _)
end Go.Proofs.YtjcoahahponabaaGreatDoor
