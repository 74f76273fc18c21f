/- Moving pictures: the text of a frame. -/
import Derived.Test.YtjcoahahponabaaGreatDoorMg18
import Derived.Lib.MinMax
namespace Go.Proofs.YtjcoahahponabaaGreatDoor
open Go.RowKit Lz

set_option maxHeartbeats 4000000 in
set_option maxRecDepth 100000 in
theorem sides_any (W H d : Nat) (a1 a2 : Option Addr) (K c1 n c2 : Nat) (w : World) (hW : W ≤ 256) (hH : H ≤ 256) :
    Calls Tryz.prog 92 #[.agg #[.int .i64 (W : Int), .int .i64 (H : Int), .int .i64 (d : Int), .slice a1 K c1, .slice a2 n c2]] w fun e w' => e = .returned (.string ⟨(pairL W ++ pairL H).toArray⟩) ∧ Below w.heap.size w w' := by
  have H1 := hide (fun w => gpair_any W w (by omega))
  have H2 := hide (fun w => gpair_any H w (by omega))
  obtain ⟨p1, hp1⟩ : ∃ p : ByteArray, p = ⟨(pairL W).toArray⟩ := ⟨_, rfl⟩
  obtain ⟨p2, hp2⟩ : ∃ p : ByteArray, p = ⟨(pairL H).toArray⟩ := ⟨_, rfl⟩
  have HE : Hid (⟨(pairL W ++ pairL H).toArray⟩ = p1 ++ p2) := by show _ = _; apply text_ext; rw [hp1, hp2, ByteArray.data_append]; simp
  have s1 : p1.size = 2 := by rw [hp1]; rfl
  have s2 : p2.size = 2 := by rw [hp2]; rfl
  have n1 : ¬ (9223372036854775807 < p1.size + p2.size) := by omega
  rw [← hp1] at H1
  rw [← hp2] at H2
  rw [unhide HE]
  clear hp1 hp2 hW hH
  obtain ⟨x, hx⟩ : ∃ x : Int, x = (W : Int) := ⟨_, rfl⟩
  obtain ⟨y, hy⟩ : ∃ y : Int, y = (H : Int) := ⟨_, rfl⟩
  rw [← hx] at H1 ⊢
  rw [← hy] at H2 ⊢
  clear hx hy HE
  have hHA := hide (al1 w (.cells #[.int .i64 x, .int .i64 y, .int .i64 (d : Int), .slice a1 K c1, .slice a2 n c2] 98))
  obtain ⟨B, hB⟩ : ∃ B, B = w.heap.size := ⟨_, rfl⟩
  go_enter Tryz.func92, Tryz.ntmps92
  go_wp2_with fail
  generalize w.alloc (.cells #[.int .i64 x, .int .i64 y, .int .i64 (d : Int), .slice a1 K c1, .slice a2 n c2] 98) = w1 at *
  rw [← hB] at hHA ⊢
  obtain ⟨hs0, kB, hb0⟩ := unhide hHA
  have HBE := hide hB
  have hc0 : w1.cell? ⟨B, 0, none⟩ = some (.int .i64 x) := blk_cell kB 0
  have hc1 : w1.cell? ⟨B, 1, none⟩ = some (.int .i64 y) := blk_cell kB 1
  have hbl : B < w1.heap.size := by omega
  have f0 : ∀ P : BelowOf (B + 1) w1, P.wld.cell? ⟨B, 0, none⟩ = some (.int .i64 x) := fun P => (P.prf.cell (p := ⟨B, 0, none⟩) (by show B < B + 1; omega)).trans hc0
  have f1 : ∀ P : BelowOf (B + 1) w1, P.wld.cell? ⟨B, 1, none⟩ = some (.int .i64 y) := fun P => (P.prf.cell (p := ⟨B, 1, none⟩) (by show B < B + 1; omega)).trans hc1
  have hs1 : B + 1 ≤ w1.heap.size := by omega
  have HB := hide hb0
  haveI : Nonempty (BelowOf (B + 1) w1) := ⟨⟨w1, Below.refl _ _⟩⟩
  clear hHA kB hs0 hc0 hc1 hB hb0
  refine region_below (B + 1) w1 (Below.refl _ _) (by kernel_rfl) ?_
  repeat (quiet_step (first | (go_at_call_of 93 x; with_reducible exact Calls.below_of hs1 (unhide H1 _)) | (go_at_call_of 93 y; with_reducible exact Calls.below_of hs1 (unhide H2 _))))
  refine wpQuiet_nil ?_
  intro _ hw'
  obtain ⟨⟨wq, hwq⟩, rfl⟩ := hw'
  go_wp2
  go_ret
  exact ⟨rfl, bel_atG (unhide HBE) ((unhide HB).trans (hwq.mono (by omega)))⟩

theorem row1_text (w : World) (g x : Nat) (hx : x < 256) (hc : w.cell? ⟨g, 0, none⟩ = some (.int .u8 (x : Int))) : (convert 107 9 (.slice (some ⟨g, 0, none⟩) 1 1)).run Tryz.prog w = .ok (.string ⟨#[UInt8.ofNat x]⟩) w := by
  refine run_convert_bytes_back w 107 9 5 _ 1 [UInt8.ofNat x] Tryz.underlying107 Tryz.underlying5 Tryz.underlying9 (fun j hj => ?_)
  simp only [List.length_cons, List.length_nil] at hj
  obtain rfl : j = 0 := by omega
  rw [addr_add, Nat.zero_add, hc]
  simp only [List.getElem_cons_zero]
  rw [u8_nat x hx]
/-- A statement of thirty-seven operations. -/
theorem all37 {p : Nat → Prop} (h0 : p 0) (h1 : p 1) (h2 : p 2) (h3 : p 3) (h4 : p 4) (h5 : p 5) (h6 : p 6) (h7 : p 7) (h8 : p 8) (h9 : p 9) (h10 : p 10) (h11 : p 11) (h12 : p 12) (h13 : p 13) (h14 : p 14) (h15 : p 15) (h16 : p 16) (h17 : p 17) (h18 : p 18) (h19 : p 19) (h20 : p 20) (h21 : p 21) (h22 : p 22) (h23 : p 23) (h24 : p 24) (h25 : p 25) (h26 : p 26) (h27 : p 27) (h28 : p 28) (h29 : p 29) (h30 : p 30) (h31 : p 31) (h32 : p 32) (h33 : p 33) (h34 : p 34) (h35 : p 35) (h36 : p 36) : ∀ i, i < 37 → p i
  | 0, _ => h0
  | 1, _ => h1
  | 2, _ => h2
  | 3, _ => h3
  | 4, _ => h4
  | 5, _ => h5
  | 6, _ => h6
  | 7, _ => h7
  | 8, _ => h8
  | 9, _ => h9
  | 10, _ => h10
  | 11, _ => h11
  | 12, _ => h12
  | 13, _ => h13
  | 14, _ => h14
  | 15, _ => h15
  | 16, _ => h16
  | 17, _ => h17
  | 18, _ => h18
  | 19, _ => h19
  | 20, _ => h20
  | 21, _ => h21
  | 22, _ => h22
  | 23, _ => h23
  | 24, _ => h24
  | 25, _ => h25
  | 26, _ => h26
  | 27, _ => h27
  | 28, _ => h28
  | 29, _ => h29
  | 30, _ => h30
  | 31, _ => h31
  | 32, _ => h32
  | 33, _ => h33
  | 34, _ => h34
  | 35, _ => h35
  | 36, _ => h36
  | n + 37, h => absurd h (by omega)

theorem numL_lt {N : List Nat} {K : Nat} (hN : ∀ x, x ∈ N → x < K) (hK : K ≤ 256) : ∀ x ∈ numL N, x.toNat < 2 ^ wdN K := fun x hx => by
  obtain ⟨m, hm, rfl⟩ := List.mem_map.1 hx
  have h := hN m hm
  have hs := (szOf_le hK).2
  rw [u8_nat m (by omega)]
  have h2 : 2 * 2 ^ szOf K ≤ 2 ^ wdN K := by
    have : 2 * 2 ^ szOf K = 2 ^ (szOf K + 1) := by rw [Nat.pow_succ]; omega
    rw [this]
    exact Nat.pow_le_pow_right (by omega) (by unfold wdN; omega)
  omega

set_option maxHeartbeats 16000000 in
set_option maxRecDepth 100000 in
theorem ftext_any (T : Tf) (a1 a2 : Option Addr) (c1 c2 : Nat) (w : World) (hT : TfOk T) (hU : IsPx w a1 T.U.length (fun i => T.U.getD i default)) (hN : IsNm w a2 T.N) :
    Calls Tryz.prog 94 #[.agg #[.int .i64 (T.W : Int), .int .i64 (T.H : Int), .int .i64 (T.d : Int), .slice a1 T.U.length c1, .slice a2 T.N.length c2]] w fun e w' => e = .returned (.tuple #[.string ⟨(frL T).toArray⟩, .nilIface]) ∧ Below w.heap.size w w' := by
  obtain ⟨W, H, d, U, N⟩ := T
  obtain ⟨hW, hH, hd, hK, hK1, hn, hNK⟩ := hT
  simp only at hW hH hd hK hK1 hn hNK hU hN ⊢
  obtain ⟨hs7, hsK⟩ := szOf_le hK
  have hwd : wdN U.length = max (szOf U.length + 1) 2 := rfl
  have HLT := hide (numL_lt hNK hK)
  have HPS : Hid ((pakT U.length N).size ≤ 200000) := by
    show _ ≤ _
    unfold pakT
    rw [textP_size]
    have := packAll_len (wdN U.length) (by unfold wdN; omega) (numL N)
    have e : (numL N).length = N.length := by unfold numL; rw [List.length_map]
    omega
  obtain ⟨n, hnl⟩ : ∃ n, n = N.length := ⟨_, rfl⟩
  obtain ⟨K, hKl⟩ : ∃ K, K = U.length := ⟨_, rfl⟩
  have HI := hide (fun wr (hb : Below w.heap.size w wr) => gindex_any a1 U.length c1 U wr (hU.below hb) rfl hK)
  have HNT := hide (fun wr (hb : Below w.heap.size w wr) => numbersText_any W H d a1 a2 U.length c1 N.length c2 N wr (hN.below hb) rfl (by omega) hK hNK)
  have HCT := hide (fun wr (hb : Below w.heap.size w wr) => colorsText_any W H d a1 a2 U.length c1 N.length c2 U wr (hU.below hb) rfl hK)
  have HSD := hide (fun wr => sides_any W H d a1 a2 U.length c1 N.length c2 wr (by omega) (by omega))
  have HSZ := hide (fun wr => gsize_any W H d a1 a2 U.length c1 N.length c2 wr hK)
  have HPD := hide (fun wr => gpair_any d wr (by omega))
  have HPK := hide (fun (wr : World) => pack_in (wdN U.length) ⟨(numL N).toArray⟩ wr (by unfold wdN; omega) (by unfold wdN; omega) (by show (numL N).length ≤ _; unfold numL; rw [List.length_map]; omega) (unhide HLT))
  have HBK := hide (fun (wr : World) => blocks_any (pakT U.length N) wr (unhide HPS))
  obtain ⟨wd, hwdl⟩ : ∃ q, q = wdN U.length := ⟨_, rfl⟩
  obtain ⟨S, hS⟩ : ∃ q, q = szOf U.length := ⟨_, rfl⟩
  obtain ⟨nt, hnt⟩ : ∃ q : ByteArray, q = ⟨(numL N).toArray⟩ := ⟨_, rfl⟩
  obtain ⟨pk, hpk⟩ : ∃ q : ByteArray, q = pakT U.length N := ⟨_, rfl⟩
  obtain ⟨bk, hbk⟩ : ∃ q : ByteArray, q = ⟨(blkL (pakT U.length N)).toArray⟩ := ⟨_, rfl⟩
  obtain ⟨ct, hct⟩ : ∃ q : ByteArray, q = ⟨(colT U (2 * 2 ^ szOf U.length)).toArray⟩ := ⟨_, rfl⟩
  obtain ⟨sd, hsd⟩ : ∃ q : ByteArray, q = ⟨(pairL W ++ pairL H).toArray⟩ := ⟨_, rfl⟩
  obtain ⟨pd, hpd⟩ : ∃ q : ByteArray, q = ⟨(pairL d).toArray⟩ := ⟨_, rfl⟩
  have HPS2 : Hid ((blkL (pakT U.length N)).length ≤ 1000000) := by
    show _ ≤ _
    unfold blkL
    have := blocksL_length (pakT U.length N).size (pakT U.length N).data.toList
    have := unhide HPS
    rw [size_list] at *
    omega
  have lct : ct.size ≤ 768 := by
    rw [hct]
    show (colT U (2 * 2 ^ szOf U.length)).length ≤ _
    rw [colT_len]
    have := Nat.pow_le_pow_right (n := 2) (by omega) hs7
    omega
  have lsd : sd.size = 4 := by rw [hsd]; rfl
  have lpd : pd.size = 2 := by rw [hpd]; rfl
  have lbk : bk.size ≤ 1000000 := by rw [hbk]; exact unhide HPS2
  have HBK : Hid (∀ wr, Calls Tryz.prog 126 #[.string pk] wr fun e w' => e = .returned (.string bk) ∧ Below wr.heap.size wr w') := by rw [hpk, hbk]; exact HBK
  have HPK : Hid (∀ wr, Calls Tryz.prog 123 #[.string nt, .int .i64 (wd : Int)] wr fun e w' => e = .returned (.tuple #[.string pk, .nilIface]) ∧ Below wr.heap.size wr w') := by
    rw [hnt, hpk, hwdl]; exact HPK
  rw [← hnt] at HNT
  rw [← hct] at HCT
  rw [← hsd] at HSD
  rw [← hpd] at HPD
  rw [← hS] at HSZ hwd hs7
  rw [← hwdl] at hwd
  have HFR : Hid (∀ cov clr : Nat, cov = flgN U → clr = clrN U → (⟨(frL ⟨W, H, d, U, N⟩).toArray⟩ : ByteArray) = ((((((((((⟨#[33, 249, 4]⟩ ++ ⟨#[UInt8.ofNat cov]⟩) ++ pd) ++ ⟨#[UInt8.ofNat clr]⟩) ++ ⟨#[0, 44, 0, 0, 0, 0]⟩) ++ sd) ++ ⟨#[UInt8.ofNat (128 + S)]⟩) ++ ct) ++ ⟨#[UInt8.ofNat wd]⟩) ++ bk))) := fun cov clr e1 e2 => by
    apply text_ext
    rw [e1, e2, hpd, hsd, hct, hbk, hS, hwdl]
    simp only [ByteArray.data_append, Array.toList_append]
    simp [frL, hdL]
  have hmaxw : max ((S : Int) + 1) 2 = (wd : Int) := by omega
  have hwd8 : wd ≤ 8 := by omega
  generalize hG : (⟨(frL ⟨W, H, d, U, N⟩).toArray⟩ : ByteArray) = G at *
  clear hG HPS HPS2 hnt hpk hbk hct hsd hpd hwdl hS HLT hNK hU hN hsK hwd
  have HKn : Hid (U.length = K) := hKl.symm
  rw [← hKl] at HI HNT HCT HSD HSZ hK hK1 ⊢
  rw [← hnl] at HNT HCT HSD HSZ hn ⊢
  have HCZ : Hid ((pz ∈ U ∧ clrZ U = (clrN U : Int) ∧ flgN U = 9 ∧ clrN U < 256) ∨ (clrZ U = -1 ∧ clrN U = 0 ∧ flgN U = 8)) := by
    by_cases h : pz ∈ U
    · left
      have := List.idxOf_lt_length_of_mem h
      unfold clrZ clrN flgN
      rw [if_pos h, if_pos h, if_pos h]
      exact ⟨h, rfl, rfl, by omega⟩
    · right
      unfold clrZ clrN flgN
      rw [if_neg h, if_neg h, if_neg h]
      exact ⟨rfl, rfl, rfl⟩
  clear hKl hnl
  generalize clrZ U = z at *
  have hHA := hide (al1 w (.cells #[.int .i64 (W : Int), .int .i64 (H : Int), .int .i64 (d : Int), .slice a1 K c1, .slice a2 n c2] 98))
  obtain ⟨B, hB⟩ : ∃ B, B = w.heap.size := ⟨_, rfl⟩
  go_enter Tryz.func94, Tryz.ntmps94
  go_wp2_with fail
  generalize w.alloc (.cells #[.int .i64 (W : Int), .int .i64 (H : Int), .int .i64 (d : Int), .slice a1 K c1, .slice a2 n c2] 98) = w1 at *
  rw [← hB] at hHA HI HNT HCT ⊢
  obtain ⟨hs0, kB, hb0⟩ := unhide hHA
  have HB1 := hide hb0
  have HBE := hide hB
  have HK1 := hide kB
  have hz1 : B + 1 ≤ w1.heap.size := by omega
  clear hHA hb0 hs0 hB kB
  refine (unhide HI _ (unhide HB1)).mono ?_
  rintro e w2 ⟨rfl, hb2⟩
  have hz2 := hb2.size
  have HB2 := hide ((unhide HB1).trans (hb2.mono (by omega)))
  have HK2 := hide (blk_below (unhide HK1) hb2 (blk_lt (unhide HK1)))
  have q0 : w2.cell? ⟨B, 0, none⟩ = some (.int .i64 (W : Int)) := blk_cell (unhide HK2) 0
  have q1 : w2.cell? ⟨B, 1, none⟩ = some (.int .i64 (H : Int)) := blk_cell (unhide HK2) 1
  have q2 : w2.cell? ⟨B, 2, none⟩ = some (.int .i64 (d : Int)) := blk_cell (unhide HK2) 2
  have q3 : w2.cell? ⟨B, 3, none⟩ = some (.slice a1 K c1) := blk_cell (unhide HK2) 3
  have q4 : w2.cell? ⟨B, 4, none⟩ = some (.slice a2 n c2) := blk_cell (unhide HK2) 4
  clear HB1 HK1 hb2 HI hz1
  have hz2 : B + 1 ≤ w2.heap.size := blk_lt (unhide HK2)
  rcases unhide HCZ with ⟨_, rfl, hf, hcl⟩ | ⟨rfl, hcl, hf⟩
  · have HFR := hide (unhide HFR 9 (clrN U) hf.symm rfl)
    clear HCZ hf
    obtain ⟨clr, hclr⟩ : ∃ q, q = clrN U := ⟨_, rfl⟩
    rw [← hclr] at HFR hcl ⊢
    clear hclr
    have g0 : decide ((clr : Int) ≥ 0) = true := by simp
    have g0' : decide ((0 : Int) ≤ (clr : Int)) = true := by simp
    have hmc : (clr : Int) % 256 = (clr : Int) := by omega
    go_wp2_with fail
    refine (unhide HSZ _).mono ?_
    rintro e w3 ⟨rfl, hb3⟩
    have HB3 := hide ((unhide HB2).trans (hb3.mono (Nat.le_of_lt (blk_lt (unhide HK2)))))
    have HK3 := hide (blk_below (unhide HK2) hb3 (blk_lt (unhide HK2)))
    have q0 : w3.cell? ⟨B, 0, none⟩ = some (.int .i64 (W : Int)) := blk_cell (unhide HK3) 0
    have q1 : w3.cell? ⟨B, 1, none⟩ = some (.int .i64 (H : Int)) := blk_cell (unhide HK3) 1
    have q2 : w3.cell? ⟨B, 2, none⟩ = some (.int .i64 (d : Int)) := blk_cell (unhide HK3) 2
    have q3 : w3.cell? ⟨B, 3, none⟩ = some (.slice a1 K c1) := blk_cell (unhide HK3) 3
    have q4 : w3.cell? ⟨B, 4, none⟩ = some (.slice a2 n c2) := blk_cell (unhide HK3) 4
    clear HB2 HK2 hb3
    go_wp2_with fail
    refine (unhide HNT _ (unhide HB3)).mono ?_
    rintro e w4 ⟨rfl, hb4⟩
    have HB4 := hide ((unhide HB3).trans (hb4.mono (Nat.le_of_lt (blk_lt (unhide HK3)))))
    have HK4 := hide (blk_below (unhide HK3) hb4 (blk_lt (unhide HK3)))
    clear HB3 HK3 hb4 q0 q1 q2 q3 q4
    go_wp2_with fail
    refine (unhide HPK _).mono ?_
    rintro e w5 ⟨rfl, hb5⟩
    have HB5 := hide ((unhide HB4).trans (hb5.mono (Nat.le_of_lt (blk_lt (unhide HK4)))))
    have HK5 := hide (blk_below (unhide HK4) hb5 (blk_lt (unhide HK4)))
    clear HB4 HK4 hb5
    go_wp2_with fail
    have hz5 : B + 1 ≤ w5.heap.size := blk_lt (unhide HK5)
    clear HNT
    obtain ⟨x2, hx2⟩ : ∃ q : ByteArray, q = ⟨#[UInt8.ofNat 9]⟩ := ⟨_, rfl⟩
    obtain ⟨x3, hx3⟩ : ∃ q : ByteArray, q = ⟨#[33, 249, 4]⟩ ++ x2 := ⟨_, rfl⟩
    obtain ⟨x7, hx7⟩ : ∃ q : ByteArray, q = x3 ++ pd := ⟨_, rfl⟩
    obtain ⟨x11, hx11⟩ : ∃ q : ByteArray, q = ⟨#[UInt8.ofNat clr]⟩ := ⟨_, rfl⟩
    obtain ⟨x12, hx12⟩ : ∃ q : ByteArray, q = x7 ++ x11 := ⟨_, rfl⟩
    obtain ⟨x13, hx13⟩ : ∃ q : ByteArray, q = x12 ++ ⟨#[0, 44, 0, 0, 0, 0]⟩ := ⟨_, rfl⟩
    obtain ⟨x16, hx16⟩ : ∃ q : ByteArray, q = x13 ++ sd := ⟨_, rfl⟩
    obtain ⟨x22, hx22⟩ : ∃ q : ByteArray, q = ⟨#[UInt8.ofNat (128 + S)]⟩ := ⟨_, rfl⟩
    obtain ⟨x23, hx23⟩ : ∃ q : ByteArray, q = x16 ++ x22 := ⟨_, rfl⟩
    obtain ⟨x26, hx26⟩ : ∃ q : ByteArray, q = x23 ++ ct := ⟨_, rfl⟩
    obtain ⟨x30, hx30⟩ : ∃ q : ByteArray, q = ⟨#[UInt8.ofNat wd]⟩ := ⟨_, rfl⟩
    obtain ⟨x31, hx31⟩ : ∃ q : ByteArray, q = x26 ++ x30 := ⟨_, rfl⟩
    obtain ⟨x34, hx34⟩ : ∃ q : ByteArray, q = x31 ++ bk := ⟨_, rfl⟩
    rw [← hx2, ← hx3, ← hx7, ← hx11, ← hx12, ← hx13, ← hx16, ← hx22, ← hx23, ← hx26, ← hx30, ← hx31, ← hx34] at HFR
    have l2 : x2.size = 1 := by rw [hx2]; rfl
    have l3 : x3.size = 4 := by rw [hx3, ByteArray.size_append, l2]; rfl
    have l7 : x7.size = 6 := by rw [hx7, ByteArray.size_append, l3, lpd]
    have l11 : x11.size = 1 := by rw [hx11]; rfl
    have l12 : x12.size = 7 := by rw [hx12, ByteArray.size_append, l7, l11]
    have l13 : x13.size = 13 := by rw [hx13, ByteArray.size_append, l12]; rfl
    have l16 : x16.size = 17 := by rw [hx16, ByteArray.size_append, l13, lsd]
    have l22 : x22.size = 1 := by rw [hx22]; rfl
    have l23 : x23.size = 18 := by rw [hx23, ByteArray.size_append, l16, l22]
    have l26 : x26.size ≤ 1000 := by rw [hx26, ByteArray.size_append, l23]; omega
    have l30 : x30.size = 1 := by rw [hx30]; rfl
    have l31 : x31.size ≤ 1001 := by rw [hx31, ByteArray.size_append, l30]; omega
    have HCT5 := hide (fun wr (hb : Below (B + 1) w5 wr) => unhide HCT wr ((unhide HB5).trans (hb.mono (by omega))))
    clear HCT HPK
    refine region_yields (fun i => [.val (.int .u8 9), .row (.int .u8 9), .val (.string x2), .val (.string x3), .val (.pointer (some ⟨B, 2, none⟩)), .val (.int .i64 (d : Int)), .val (.string pd), .val (.string x7), .val (.int .i64 (clr : Int)), .val (.int .u8 (clr : Int)), .row (.int .u8 (clr : Int)), .val (.string x11), .val (.string x12), .val (.string x13), .val (.agg #[.int .i64 (W : Int), .int .i64 (H : Int), .int .i64 (d : Int), .slice a1 K c1, .slice a2 n c2]), .val (.string sd), .val (.string x16), .val (.agg #[.int .i64 (W : Int), .int .i64 (H : Int), .int .i64 (d : Int), .slice a1 K c1, .slice a2 n c2]), .val (.int .i64 (S : Int)), .val (.int .u8 (S : Int)), .val (.int .u8 ((128 + S : Nat) : Int)), .row (.int .u8 ((128 + S : Nat) : Int)), .val (.string x22), .val (.string x23), .val (.agg #[.int .i64 (W : Int), .int .i64 (H : Int), .int .i64 (d : Int), .slice a1 K c1, .slice a2 n c2]), .val (.string ct), .val (.string x26), .val (.int .i64 (wd : Int)), .val (.int .u8 (wd : Int)), .row (.int .u8 (wd : Int)), .val (.string x30), .val (.string x31), .val (.string pk), .val (.string bk), .val (.string x34), .val (.string x34), .val .nilIface].getD i (.val undef)) (B + 1) w5 66 (by kernel_rfl) rfl (by kernel_rfl) (Below.refl _ _) hz5 (all37 ?_ ?_ ?_ ?_ ?_ ?_ ?_ ?_ ?_ ?_ ?_ ?_ ?_ ?_ ?_ ?_ ?_ ?_ ?_ ?_ ?_ ?_ ?_ ?_ ?_ ?_ ?_ ?_ ?_ ?_ ?_ ?_ ?_ ?_ ?_ ?_ ?_) ?_
    · intro o ho a w hA hBw hd
      simp only [List.getElem?_toArray, List.getElem?_cons_zero, Option.some.injEq] at ho
      subst ho
      have e0 : a.tmps.getD 4 undef = .int .u8 9 := hA.far 4 (by simp)
      exact st_val (.int .u8 9) (by simp [execOp, Act.eval, go_sem, e0]) rfl (Below.refl _ _)
    · intro o ho a w hA hBw hd
      simp only [List.getElem?_toArray, List.getElem?_cons_succ, List.getElem?_cons_zero, Option.some.injEq] at ho
      subst ho
      have e0 : a.tmps.getD 31 undef = (.int .u8 9) := hd ⟨0, .data⟩ (by simp) rfl _ 31 rfl rfl
      rw [Array.getD_eq_getD_getElem?] at e0
      exact st_val (w' := w.alloc (.cells #[(.int .u8 9)] 5)) (.slice (some ⟨w.heap.size, 0, none⟩) 1 1) (by simp [execOp, Act.eval, go_sem, e0]) ⟨w.heap.size, rfl, (World.cell?_alloc_mark w #[(.int .u8 9)] 5 (0, 0) 0).trans rfl⟩ ((Below.refl _ _).alloc (Nat.le_refl _) _)
    · intro o ho a w hA hBw hd
      simp only [List.getElem?_toArray, List.getElem?_cons_succ, List.getElem?_cons_zero, Option.some.injEq] at ho
      subst ho
      obtain ⟨g, e1, hc⟩ : ∃ g, a.tmps.getD 32 undef = .slice (some ⟨g, 0, none⟩) 1 1 ∧ w.cell? ⟨g, 0, none⟩ = some ((.int .u8 9)) := hd ⟨1, .data⟩ (by simp) rfl _ 32 rfl rfl
      have hv := row1_text w g 9 (by omega) hc
      exact st_val ((.string x2)) (by simp [execOp, Act.eval, go_sem, e1, hv, hx2]) rfl (Below.refl _ _)
    · intro o ho a w hA hBw hd
      simp only [List.getElem?_toArray, List.getElem?_cons_succ, List.getElem?_cons_zero, Option.some.injEq] at ho
      subst ho
      have e2 : a.tmps.getD 33 undef = (.string x2) := hd ⟨2, .data⟩ (by simp) rfl _ 33 rfl rfl
      exact st_val ((.string x3)) (by simp [execOp, Act.eval, go_sem, e2, hx3]; omega) rfl (Below.refl _ _)
    · intro o ho a w hA hBw hd
      simp only [List.getElem?_toArray, List.getElem?_cons_succ, List.getElem?_cons_zero, Option.some.injEq] at ho
      subst ho
      have e0 : a.tmps.getD 1 undef = .pointer (some ⟨B, 0, none⟩) := hA.far 1 (by simp)
      exact st_val ((.pointer (some ⟨B, 2, none⟩))) (by simp [execOp, Act.eval, go_sem, e0]) rfl (Below.refl _ _)
    · intro o ho a w hA hBw hd
      simp only [List.getElem?_toArray, List.getElem?_cons_succ, List.getElem?_cons_zero, Option.some.injEq] at ho
      subst ho
      have e4 : a.tmps.getD 35 undef = (.pointer (some ⟨B, 2, none⟩)) := hd ⟨4, .data⟩ (by simp) rfl _ 35 rfl rfl
      have hk : w.heap[B]? = some (.cells #[.int .i64 (W : Int), .int .i64 (H : Int), .int .i64 (d : Int), .slice a1 K c1, .slice a2 n c2] 98) := blk_below (unhide HK5) hA.below (by omega)
      have q2 : w.cell? ⟨B, 2, none⟩ = some (.int .i64 (d : Int)) := blk_cell hk 2
      exact st_val ((.int .i64 (d : Int))) (by simp [execOp, Act.eval, go_sem, e4, q2]) rfl (Below.refl _ _)
    · intro o ho a w hA hBw hd
      simp only [List.getElem?_toArray, List.getElem?_cons_succ, List.getElem?_cons_zero, Option.some.injEq] at ho
      subst ho
      have e5 : a.tmps.getD 36 undef = (.int .i64 (d : Int)) := hd ⟨5, .data⟩ (by simp) rfl _ 36 rfl rfl
      exact st_call 93 #[(.int .i64 (d : Int))] (.string pd) (by simp [Act.eval, go_sem, e5]) (unhide HPD w) (fun _ => rfl)
    · intro o ho a w hA hBw hd
      simp only [List.getElem?_toArray, List.getElem?_cons_succ, List.getElem?_cons_zero, Option.some.injEq] at ho
      subst ho
      have e3 : a.tmps.getD 34 undef = (.string x3) := hd ⟨3, .data⟩ (by simp) rfl _ 34 rfl rfl
      have e6 : a.tmps.getD 37 undef = (.string pd) := hd ⟨6, .data⟩ (by simp) rfl _ 37 rfl rfl
      exact st_val ((.string x7)) (by simp [execOp, Act.eval, go_sem, e3, e6, hx7]; omega) rfl (Below.refl _ _)
    · intro o ho a w hA hBw hd
      simp only [List.getElem?_toArray, List.getElem?_cons_succ, List.getElem?_cons_zero, Option.some.injEq] at ho
      subst ho
      have e0 : a.tmps.getD 5 undef = .int .i64 (clr : Int) := hA.far 5 (by simp)
      exact st_val (.int .i64 (clr : Int)) (by simp [execOp, Act.eval, go_sem, e0]) rfl (Below.refl _ _)
    · intro o ho a w hA hBw hd
      simp only [List.getElem?_toArray, List.getElem?_cons_succ, List.getElem?_cons_zero, Option.some.injEq] at ho
      subst ho
      have e8 : a.tmps.getD 39 undef = (.int .i64 (clr : Int)) := hd ⟨8, .data⟩ (by simp) rfl _ 39 rfl rfl
      exact st_val ((.int .u8 (clr : Int))) (by simp [execOp, Act.eval, go_sem, e8]; rw [IntKind.wrap_u8]; omega) rfl (Below.refl _ _)
    · intro o ho a w hA hBw hd
      simp only [List.getElem?_toArray, List.getElem?_cons_succ, List.getElem?_cons_zero, Option.some.injEq] at ho
      subst ho
      have e9 : a.tmps.getD 40 undef = (.int .u8 (clr : Int)) := hd ⟨9, .data⟩ (by simp) rfl _ 40 rfl rfl
      rw [Array.getD_eq_getD_getElem?] at e9
      exact st_val (w' := w.alloc (.cells #[(.int .u8 (clr : Int))] 5)) (.slice (some ⟨w.heap.size, 0, none⟩) 1 1) (by simp [execOp, Act.eval, go_sem, e9]) ⟨w.heap.size, rfl, (World.cell?_alloc_mark w #[(.int .u8 (clr : Int))] 5 (0, 0) 0).trans rfl⟩ ((Below.refl _ _).alloc (Nat.le_refl _) _)
    · intro o ho a w hA hBw hd
      simp only [List.getElem?_toArray, List.getElem?_cons_succ, List.getElem?_cons_zero, Option.some.injEq] at ho
      subst ho
      obtain ⟨g, e10, hc⟩ : ∃ g, a.tmps.getD 41 undef = .slice (some ⟨g, 0, none⟩) 1 1 ∧ w.cell? ⟨g, 0, none⟩ = some ((.int .u8 (clr : Int))) := hd ⟨10, .data⟩ (by simp) rfl _ 41 rfl rfl
      have hv := row1_text w g clr (by omega) hc
      exact st_val ((.string x11)) (by simp [execOp, Act.eval, go_sem, e10, hv, hx11]) rfl (Below.refl _ _)
    · intro o ho a w hA hBw hd
      simp only [List.getElem?_toArray, List.getElem?_cons_succ, List.getElem?_cons_zero, Option.some.injEq] at ho
      subst ho
      have e7 : a.tmps.getD 38 undef = (.string x7) := hd ⟨7, .data⟩ (by simp) rfl _ 38 rfl rfl
      have e11 : a.tmps.getD 42 undef = (.string x11) := hd ⟨11, .data⟩ (by simp) rfl _ 42 rfl rfl
      exact st_val ((.string x12)) (by simp [execOp, Act.eval, go_sem, e7, e11, hx12]; omega) rfl (Below.refl _ _)
    · intro o ho a w hA hBw hd
      simp only [List.getElem?_toArray, List.getElem?_cons_succ, List.getElem?_cons_zero, Option.some.injEq] at ho
      subst ho
      have e12 : a.tmps.getD 43 undef = (.string x12) := hd ⟨12, .data⟩ (by simp) rfl _ 43 rfl rfl
      exact st_val ((.string x13)) (by simp [execOp, Act.eval, go_sem, e12, hx13]; omega) rfl (Below.refl _ _)
    · intro o ho a w hA hBw hd
      simp only [List.getElem?_toArray, List.getElem?_cons_succ, List.getElem?_cons_zero, Option.some.injEq] at ho
      subst ho
      have e0 : a.tmps.getD 1 undef = .pointer (some ⟨B, 0, none⟩) := hA.far 1 (by simp)
      have hk : w.heap[B]? = some (.cells #[.int .i64 (W : Int), .int .i64 (H : Int), .int .i64 (d : Int), .slice a1 K c1, .slice a2 n c2] 98) := blk_below (unhide HK5) hA.below (by omega)
      have q0 : w.cell? ⟨B, 0, none⟩ = some (.int .i64 (W : Int)) := blk_cell hk 0
      have q1 : w.cell? ⟨B, 1, none⟩ = some (.int .i64 (H : Int)) := blk_cell hk 1
      have q2 : w.cell? ⟨B, 2, none⟩ = some (.int .i64 (d : Int)) := blk_cell hk 2
      have q3 : w.cell? ⟨B, 3, none⟩ = some (.slice a1 K c1) := blk_cell hk 3
      have q4 : w.cell? ⟨B, 4, none⟩ = some (.slice a2 n c2) := blk_cell hk 4
      exact st_val ((.agg #[.int .i64 (W : Int), .int .i64 (H : Int), .int .i64 (d : Int), .slice a1 K c1, .slice a2 n c2])) (by simp [execOp, Act.eval, go_sem, e0, q0, q1, q2, q3, q4]) rfl (Below.refl _ _)
    · intro o ho a w hA hBw hd
      simp only [List.getElem?_toArray, List.getElem?_cons_succ, List.getElem?_cons_zero, Option.some.injEq] at ho
      subst ho
      have e14 : a.tmps.getD 45 undef = (.agg #[.int .i64 (W : Int), .int .i64 (H : Int), .int .i64 (d : Int), .slice a1 K c1, .slice a2 n c2]) := hd ⟨14, .data⟩ (by simp) rfl _ 45 rfl rfl
      exact st_call 92 #[(.agg #[.int .i64 (W : Int), .int .i64 (H : Int), .int .i64 (d : Int), .slice a1 K c1, .slice a2 n c2])] (.string sd) (by simp [Act.eval, go_sem, e14]) (unhide HSD w) (fun _ => rfl)
    · intro o ho a w hA hBw hd
      simp only [List.getElem?_toArray, List.getElem?_cons_succ, List.getElem?_cons_zero, Option.some.injEq] at ho
      subst ho
      have e13 : a.tmps.getD 44 undef = (.string x13) := hd ⟨13, .data⟩ (by simp) rfl _ 44 rfl rfl
      have e15 : a.tmps.getD 46 undef = (.string sd) := hd ⟨15, .data⟩ (by simp) rfl _ 46 rfl rfl
      exact st_val ((.string x16)) (by simp [execOp, Act.eval, go_sem, e13, e15, hx16]; omega) rfl (Below.refl _ _)
    · intro o ho a w hA hBw hd
      simp only [List.getElem?_toArray, List.getElem?_cons_succ, List.getElem?_cons_zero, Option.some.injEq] at ho
      subst ho
      have e0 : a.tmps.getD 1 undef = .pointer (some ⟨B, 0, none⟩) := hA.far 1 (by simp)
      have hk : w.heap[B]? = some (.cells #[.int .i64 (W : Int), .int .i64 (H : Int), .int .i64 (d : Int), .slice a1 K c1, .slice a2 n c2] 98) := blk_below (unhide HK5) hA.below (by omega)
      have q0 : w.cell? ⟨B, 0, none⟩ = some (.int .i64 (W : Int)) := blk_cell hk 0
      have q1 : w.cell? ⟨B, 1, none⟩ = some (.int .i64 (H : Int)) := blk_cell hk 1
      have q2 : w.cell? ⟨B, 2, none⟩ = some (.int .i64 (d : Int)) := blk_cell hk 2
      have q3 : w.cell? ⟨B, 3, none⟩ = some (.slice a1 K c1) := blk_cell hk 3
      have q4 : w.cell? ⟨B, 4, none⟩ = some (.slice a2 n c2) := blk_cell hk 4
      exact st_val ((.agg #[.int .i64 (W : Int), .int .i64 (H : Int), .int .i64 (d : Int), .slice a1 K c1, .slice a2 n c2])) (by simp [execOp, Act.eval, go_sem, e0, q0, q1, q2, q3, q4]) rfl (Below.refl _ _)
    · intro o ho a w hA hBw hd
      simp only [List.getElem?_toArray, List.getElem?_cons_succ, List.getElem?_cons_zero, Option.some.injEq] at ho
      subst ho
      have e17 : a.tmps.getD 48 undef = (.agg #[.int .i64 (W : Int), .int .i64 (H : Int), .int .i64 (d : Int), .slice a1 K c1, .slice a2 n c2]) := hd ⟨17, .data⟩ (by simp) rfl _ 48 rfl rfl
      exact st_call 122 #[(.agg #[.int .i64 (W : Int), .int .i64 (H : Int), .int .i64 (d : Int), .slice a1 K c1, .slice a2 n c2])] (.int .i64 (S : Int)) (by simp [Act.eval, go_sem, e17]) (unhide HSZ w) (fun _ => rfl)
    · intro o ho a w hA hBw hd
      simp only [List.getElem?_toArray, List.getElem?_cons_succ, List.getElem?_cons_zero, Option.some.injEq] at ho
      subst ho
      have e18 : a.tmps.getD 49 undef = (.int .i64 (S : Int)) := hd ⟨18, .data⟩ (by simp) rfl _ 49 rfl rfl
      exact st_val ((.int .u8 (S : Int))) (by simp [execOp, Act.eval, go_sem, e18]; rw [IntKind.wrap_u8]; omega) rfl (Below.refl _ _)
    · intro o ho a w hA hBw hd
      simp only [List.getElem?_toArray, List.getElem?_cons_succ, List.getElem?_cons_zero, Option.some.injEq] at ho
      subst ho
      have e19 : a.tmps.getD 50 undef = (.int .u8 (S : Int)) := hd ⟨19, .data⟩ (by simp) rfl _ 50 rfl rfl
      exact st_val ((.int .u8 ((128 + S : Nat) : Int))) (by simp [execOp, Act.eval, go_sem, e19]; rw [IntKind.wrap_u8]; omega) rfl (Below.refl _ _)
    · intro o ho a w hA hBw hd
      simp only [List.getElem?_toArray, List.getElem?_cons_succ, List.getElem?_cons_zero, Option.some.injEq] at ho
      subst ho
      have e20 : a.tmps.getD 51 undef = (.int .u8 ((128 + S : Nat) : Int)) := hd ⟨20, .data⟩ (by simp) rfl _ 51 rfl rfl
      rw [Array.getD_eq_getD_getElem?] at e20
      exact st_val (w' := w.alloc (.cells #[(.int .u8 ((128 + S : Nat) : Int))] 5)) (.slice (some ⟨w.heap.size, 0, none⟩) 1 1) (by simp [execOp, Act.eval, go_sem, e20]) ⟨w.heap.size, rfl, (World.cell?_alloc_mark w #[(.int .u8 ((128 + S : Nat) : Int))] 5 (0, 0) 0).trans rfl⟩ ((Below.refl _ _).alloc (Nat.le_refl _) _)
    · intro o ho a w hA hBw hd
      simp only [List.getElem?_toArray, List.getElem?_cons_succ, List.getElem?_cons_zero, Option.some.injEq] at ho
      subst ho
      obtain ⟨g, e21, hc⟩ : ∃ g, a.tmps.getD 52 undef = .slice (some ⟨g, 0, none⟩) 1 1 ∧ w.cell? ⟨g, 0, none⟩ = some ((.int .u8 ((128 + S : Nat) : Int))) := hd ⟨21, .data⟩ (by simp) rfl _ 52 rfl rfl
      have hv := row1_text w g (128 + S) (by omega) hc
      exact st_val ((.string x22)) (by simp [execOp, Act.eval, go_sem, e21, hv, hx22]) rfl (Below.refl _ _)
    · intro o ho a w hA hBw hd
      simp only [List.getElem?_toArray, List.getElem?_cons_succ, List.getElem?_cons_zero, Option.some.injEq] at ho
      subst ho
      have e16 : a.tmps.getD 47 undef = (.string x16) := hd ⟨16, .data⟩ (by simp) rfl _ 47 rfl rfl
      have e22 : a.tmps.getD 53 undef = (.string x22) := hd ⟨22, .data⟩ (by simp) rfl _ 53 rfl rfl
      exact st_val ((.string x23)) (by simp [execOp, Act.eval, go_sem, e16, e22, hx23]; omega) rfl (Below.refl _ _)
    · intro o ho a w hA hBw hd
      simp only [List.getElem?_toArray, List.getElem?_cons_succ, List.getElem?_cons_zero, Option.some.injEq] at ho
      subst ho
      have e0 : a.tmps.getD 1 undef = .pointer (some ⟨B, 0, none⟩) := hA.far 1 (by simp)
      have hk : w.heap[B]? = some (.cells #[.int .i64 (W : Int), .int .i64 (H : Int), .int .i64 (d : Int), .slice a1 K c1, .slice a2 n c2] 98) := blk_below (unhide HK5) hA.below (by omega)
      have q0 : w.cell? ⟨B, 0, none⟩ = some (.int .i64 (W : Int)) := blk_cell hk 0
      have q1 : w.cell? ⟨B, 1, none⟩ = some (.int .i64 (H : Int)) := blk_cell hk 1
      have q2 : w.cell? ⟨B, 2, none⟩ = some (.int .i64 (d : Int)) := blk_cell hk 2
      have q3 : w.cell? ⟨B, 3, none⟩ = some (.slice a1 K c1) := blk_cell hk 3
      have q4 : w.cell? ⟨B, 4, none⟩ = some (.slice a2 n c2) := blk_cell hk 4
      exact st_val ((.agg #[.int .i64 (W : Int), .int .i64 (H : Int), .int .i64 (d : Int), .slice a1 K c1, .slice a2 n c2])) (by simp [execOp, Act.eval, go_sem, e0, q0, q1, q2, q3, q4]) rfl (Below.refl _ _)
    · intro o ho a w hA hBw hd
      simp only [List.getElem?_toArray, List.getElem?_cons_succ, List.getElem?_cons_zero, Option.some.injEq] at ho
      subst ho
      have e24 : a.tmps.getD 55 undef = (.agg #[.int .i64 (W : Int), .int .i64 (H : Int), .int .i64 (d : Int), .slice a1 K c1, .slice a2 n c2]) := hd ⟨24, .data⟩ (by simp) rfl _ 55 rfl rfl
      exact st_call 125 #[(.agg #[.int .i64 (W : Int), .int .i64 (H : Int), .int .i64 (d : Int), .slice a1 K c1, .slice a2 n c2])] (.string ct) (by simp [Act.eval, go_sem, e24]) (unhide HCT5 w hA.below) (fun _ => rfl)
    · intro o ho a w hA hBw hd
      simp only [List.getElem?_toArray, List.getElem?_cons_succ, List.getElem?_cons_zero, Option.some.injEq] at ho
      subst ho
      have e23 : a.tmps.getD 54 undef = (.string x23) := hd ⟨23, .data⟩ (by simp) rfl _ 54 rfl rfl
      have e25 : a.tmps.getD 56 undef = (.string ct) := hd ⟨25, .data⟩ (by simp) rfl _ 56 rfl rfl
      exact st_val ((.string x26)) (by simp [execOp, Act.eval, go_sem, e23, e25, hx26]; omega) rfl (Below.refl _ _)
    · intro o ho a w hA hBw hd
      simp only [List.getElem?_toArray, List.getElem?_cons_succ, List.getElem?_cons_zero, Option.some.injEq] at ho
      subst ho
      have e0 : a.tmps.getD 7 undef = .int .i64 (wd : Int) := hA.far 7 (by simp)
      exact st_val (.int .i64 (wd : Int)) (by simp [execOp, Act.eval, go_sem, e0]) rfl (Below.refl _ _)
    · intro o ho a w hA hBw hd
      simp only [List.getElem?_toArray, List.getElem?_cons_succ, List.getElem?_cons_zero, Option.some.injEq] at ho
      subst ho
      have e27 : a.tmps.getD 58 undef = (.int .i64 (wd : Int)) := hd ⟨27, .data⟩ (by simp) rfl _ 58 rfl rfl
      exact st_val ((.int .u8 (wd : Int))) (by simp [execOp, Act.eval, go_sem, e27]; rw [IntKind.wrap_u8]; omega) rfl (Below.refl _ _)
    · intro o ho a w hA hBw hd
      simp only [List.getElem?_toArray, List.getElem?_cons_succ, List.getElem?_cons_zero, Option.some.injEq] at ho
      subst ho
      have e28 : a.tmps.getD 59 undef = (.int .u8 (wd : Int)) := hd ⟨28, .data⟩ (by simp) rfl _ 59 rfl rfl
      rw [Array.getD_eq_getD_getElem?] at e28
      exact st_val (w' := w.alloc (.cells #[(.int .u8 (wd : Int))] 5)) (.slice (some ⟨w.heap.size, 0, none⟩) 1 1) (by simp [execOp, Act.eval, go_sem, e28]) ⟨w.heap.size, rfl, (World.cell?_alloc_mark w #[(.int .u8 (wd : Int))] 5 (0, 0) 0).trans rfl⟩ ((Below.refl _ _).alloc (Nat.le_refl _) _)
    · intro o ho a w hA hBw hd
      simp only [List.getElem?_toArray, List.getElem?_cons_succ, List.getElem?_cons_zero, Option.some.injEq] at ho
      subst ho
      obtain ⟨g, e29, hc⟩ : ∃ g, a.tmps.getD 60 undef = .slice (some ⟨g, 0, none⟩) 1 1 ∧ w.cell? ⟨g, 0, none⟩ = some ((.int .u8 (wd : Int))) := hd ⟨29, .data⟩ (by simp) rfl _ 60 rfl rfl
      have hv := row1_text w g wd (by omega) hc
      exact st_val ((.string x30)) (by simp [execOp, Act.eval, go_sem, e29, hv, hx30]) rfl (Below.refl _ _)
    · intro o ho a w hA hBw hd
      simp only [List.getElem?_toArray, List.getElem?_cons_succ, List.getElem?_cons_zero, Option.some.injEq] at ho
      subst ho
      have e26 : a.tmps.getD 57 undef = (.string x26) := hd ⟨26, .data⟩ (by simp) rfl _ 57 rfl rfl
      have e30 : a.tmps.getD 61 undef = (.string x30) := hd ⟨30, .data⟩ (by simp) rfl _ 61 rfl rfl
      exact st_val ((.string x31)) (by simp [execOp, Act.eval, go_sem, e26, e30, hx31]; omega) rfl (Below.refl _ _)
    · intro o ho a w hA hBw hd
      simp only [List.getElem?_toArray, List.getElem?_cons_succ, List.getElem?_cons_zero, Option.some.injEq] at ho
      subst ho
      have e0 : a.tmps.getD 8 undef = .string pk := hA.far 8 (by simp)
      exact st_val (.string pk) (by simp [execOp, Act.eval, go_sem, e0]) rfl (Below.refl _ _)
    · intro o ho a w hA hBw hd
      simp only [List.getElem?_toArray, List.getElem?_cons_succ, List.getElem?_cons_zero, Option.some.injEq] at ho
      subst ho
      have e32 : a.tmps.getD 63 undef = (.string pk) := hd ⟨32, .data⟩ (by simp) rfl _ 63 rfl rfl
      exact st_call 126 #[(.string pk)] (.string bk) (by simp [Act.eval, go_sem, e32]) (unhide HBK w) (fun _ => rfl)
    · intro o ho a w hA hBw hd
      simp only [List.getElem?_toArray, List.getElem?_cons_succ, List.getElem?_cons_zero, Option.some.injEq] at ho
      subst ho
      have e31 : a.tmps.getD 62 undef = (.string x31) := hd ⟨31, .data⟩ (by simp) rfl _ 62 rfl rfl
      have e33 : a.tmps.getD 64 undef = (.string bk) := hd ⟨33, .data⟩ (by simp) rfl _ 64 rfl rfl
      exact st_val ((.string x34)) (by simp [execOp, Act.eval, go_sem, e31, e33, hx34]; omega) rfl (Below.refl _ _)
    · intro o ho a w hA hBw hd
      simp only [List.getElem?_toArray, List.getElem?_cons_succ, List.getElem?_cons_zero, Option.some.injEq] at ho
      subst ho
      have e34 : a.tmps.getD 65 undef = (.string x34) := hd ⟨34, .data⟩ (by simp) rfl _ 65 rfl rfl
      exact st_val ((.string x34)) (by simp [execOp, Act.eval, go_sem, e34]) rfl (Below.refl _ _)
    · intro o ho a w hA hBw hd
      simp only [List.getElem?_toArray, List.getElem?_cons_succ, List.getElem?_cons_zero, Option.some.injEq] at ho
      subst ho
      exact st_val .nilIface (by simp [execOp, Act.eval, go_sem]) rfl (Below.refl _ _)
    · intro a w6 hA hgood
      have e2 : a.tmps.getD 2 undef = .string x34 := hgood 35 _ 2 rfl rfl
      have e3 : a.tmps.getD 3 undef = .nilIface := hgood 36 _ 3 rfl rfl
      have hdf : a.defers = [] := hA.defers
      have HB6 := hide ((unhide HB5).trans (hA.below.mono (by omega)))
      clear hgood hA
      obtain ⟨tm, df⟩ := a
      simp only at e2 e3 hdf
      subst hdf
      go_wp2
      go_ret2
      exact ⟨by rw [e2, e3, unhide HFR], bel_atG (unhide HBE) (unhide HB6)⟩
  · have HFR := hide (unhide HFR 8 0 hf.symm hcl.symm)
    clear HCZ hf
    clear hcl
    go_wp2_with fail
    refine (unhide HSZ _).mono ?_
    rintro e w3 ⟨rfl, hb3⟩
    have HB3 := hide ((unhide HB2).trans (hb3.mono (Nat.le_of_lt (blk_lt (unhide HK2)))))
    have HK3 := hide (blk_below (unhide HK2) hb3 (blk_lt (unhide HK2)))
    have q0 : w3.cell? ⟨B, 0, none⟩ = some (.int .i64 (W : Int)) := blk_cell (unhide HK3) 0
    have q1 : w3.cell? ⟨B, 1, none⟩ = some (.int .i64 (H : Int)) := blk_cell (unhide HK3) 1
    have q2 : w3.cell? ⟨B, 2, none⟩ = some (.int .i64 (d : Int)) := blk_cell (unhide HK3) 2
    have q3 : w3.cell? ⟨B, 3, none⟩ = some (.slice a1 K c1) := blk_cell (unhide HK3) 3
    have q4 : w3.cell? ⟨B, 4, none⟩ = some (.slice a2 n c2) := blk_cell (unhide HK3) 4
    clear HB2 HK2 hb3
    go_wp2_with fail
    refine (unhide HNT _ (unhide HB3)).mono ?_
    rintro e w4 ⟨rfl, hb4⟩
    have HB4 := hide ((unhide HB3).trans (hb4.mono (Nat.le_of_lt (blk_lt (unhide HK3)))))
    have HK4 := hide (blk_below (unhide HK3) hb4 (blk_lt (unhide HK3)))
    clear HB3 HK3 hb4 q0 q1 q2 q3 q4
    go_wp2_with fail
    refine (unhide HPK _).mono ?_
    rintro e w5 ⟨rfl, hb5⟩
    have HB5 := hide ((unhide HB4).trans (hb5.mono (Nat.le_of_lt (blk_lt (unhide HK4)))))
    have HK5 := hide (blk_below (unhide HK4) hb5 (blk_lt (unhide HK4)))
    clear HB4 HK4 hb5
    go_wp2_with fail
    have hz5 : B + 1 ≤ w5.heap.size := blk_lt (unhide HK5)
    clear HNT
    obtain ⟨x2, hx2⟩ : ∃ q : ByteArray, q = ⟨#[UInt8.ofNat 8]⟩ := ⟨_, rfl⟩
    obtain ⟨x3, hx3⟩ : ∃ q : ByteArray, q = ⟨#[33, 249, 4]⟩ ++ x2 := ⟨_, rfl⟩
    obtain ⟨x7, hx7⟩ : ∃ q : ByteArray, q = x3 ++ pd := ⟨_, rfl⟩
    obtain ⟨x11, hx11⟩ : ∃ q : ByteArray, q = ⟨#[UInt8.ofNat 0]⟩ := ⟨_, rfl⟩
    obtain ⟨x12, hx12⟩ : ∃ q : ByteArray, q = x7 ++ x11 := ⟨_, rfl⟩
    obtain ⟨x13, hx13⟩ : ∃ q : ByteArray, q = x12 ++ ⟨#[0, 44, 0, 0, 0, 0]⟩ := ⟨_, rfl⟩
    obtain ⟨x16, hx16⟩ : ∃ q : ByteArray, q = x13 ++ sd := ⟨_, rfl⟩
    obtain ⟨x22, hx22⟩ : ∃ q : ByteArray, q = ⟨#[UInt8.ofNat (128 + S)]⟩ := ⟨_, rfl⟩
    obtain ⟨x23, hx23⟩ : ∃ q : ByteArray, q = x16 ++ x22 := ⟨_, rfl⟩
    obtain ⟨x26, hx26⟩ : ∃ q : ByteArray, q = x23 ++ ct := ⟨_, rfl⟩
    obtain ⟨x30, hx30⟩ : ∃ q : ByteArray, q = ⟨#[UInt8.ofNat wd]⟩ := ⟨_, rfl⟩
    obtain ⟨x31, hx31⟩ : ∃ q : ByteArray, q = x26 ++ x30 := ⟨_, rfl⟩
    obtain ⟨x34, hx34⟩ : ∃ q : ByteArray, q = x31 ++ bk := ⟨_, rfl⟩
    rw [← hx2, ← hx3, ← hx7, ← hx11, ← hx12, ← hx13, ← hx16, ← hx22, ← hx23, ← hx26, ← hx30, ← hx31, ← hx34] at HFR
    have l2 : x2.size = 1 := by rw [hx2]; rfl
    have l3 : x3.size = 4 := by rw [hx3, ByteArray.size_append, l2]; rfl
    have l7 : x7.size = 6 := by rw [hx7, ByteArray.size_append, l3, lpd]
    have l11 : x11.size = 1 := by rw [hx11]; rfl
    have l12 : x12.size = 7 := by rw [hx12, ByteArray.size_append, l7, l11]
    have l13 : x13.size = 13 := by rw [hx13, ByteArray.size_append, l12]; rfl
    have l16 : x16.size = 17 := by rw [hx16, ByteArray.size_append, l13, lsd]
    have l22 : x22.size = 1 := by rw [hx22]; rfl
    have l23 : x23.size = 18 := by rw [hx23, ByteArray.size_append, l16, l22]
    have l26 : x26.size ≤ 1000 := by rw [hx26, ByteArray.size_append, l23]; omega
    have l30 : x30.size = 1 := by rw [hx30]; rfl
    have l31 : x31.size ≤ 1001 := by rw [hx31, ByteArray.size_append, l30]; omega
    have HCT5 := hide (fun wr (hb : Below (B + 1) w5 wr) => unhide HCT wr ((unhide HB5).trans (hb.mono (by omega))))
    clear HCT HPK
    refine region_yields (fun i => [.val (.int .u8 8), .row (.int .u8 8), .val (.string x2), .val (.string x3), .val (.pointer (some ⟨B, 2, none⟩)), .val (.int .i64 (d : Int)), .val (.string pd), .val (.string x7), .val (.int .i64 0), .val (.int .u8 0), .row (.int .u8 0), .val (.string x11), .val (.string x12), .val (.string x13), .val (.agg #[.int .i64 (W : Int), .int .i64 (H : Int), .int .i64 (d : Int), .slice a1 K c1, .slice a2 n c2]), .val (.string sd), .val (.string x16), .val (.agg #[.int .i64 (W : Int), .int .i64 (H : Int), .int .i64 (d : Int), .slice a1 K c1, .slice a2 n c2]), .val (.int .i64 (S : Int)), .val (.int .u8 (S : Int)), .val (.int .u8 ((128 + S : Nat) : Int)), .row (.int .u8 ((128 + S : Nat) : Int)), .val (.string x22), .val (.string x23), .val (.agg #[.int .i64 (W : Int), .int .i64 (H : Int), .int .i64 (d : Int), .slice a1 K c1, .slice a2 n c2]), .val (.string ct), .val (.string x26), .val (.int .i64 (wd : Int)), .val (.int .u8 (wd : Int)), .row (.int .u8 (wd : Int)), .val (.string x30), .val (.string x31), .val (.string pk), .val (.string bk), .val (.string x34), .val (.string x34), .val .nilIface].getD i (.val undef)) (B + 1) w5 66 (by kernel_rfl) rfl (by kernel_rfl) (Below.refl _ _) hz5 (all37 ?_ ?_ ?_ ?_ ?_ ?_ ?_ ?_ ?_ ?_ ?_ ?_ ?_ ?_ ?_ ?_ ?_ ?_ ?_ ?_ ?_ ?_ ?_ ?_ ?_ ?_ ?_ ?_ ?_ ?_ ?_ ?_ ?_ ?_ ?_ ?_ ?_) ?_
    · intro o ho a w hA hBw hd
      simp only [List.getElem?_toArray, List.getElem?_cons_zero, Option.some.injEq] at ho
      subst ho
      have e0 : a.tmps.getD 4 undef = .int .u8 8 := hA.far 4 (by simp)
      exact st_val (.int .u8 8) (by simp [execOp, Act.eval, go_sem, e0]) rfl (Below.refl _ _)
    · intro o ho a w hA hBw hd
      simp only [List.getElem?_toArray, List.getElem?_cons_succ, List.getElem?_cons_zero, Option.some.injEq] at ho
      subst ho
      have e0 : a.tmps.getD 31 undef = (.int .u8 8) := hd ⟨0, .data⟩ (by simp) rfl _ 31 rfl rfl
      rw [Array.getD_eq_getD_getElem?] at e0
      exact st_val (w' := w.alloc (.cells #[(.int .u8 8)] 5)) (.slice (some ⟨w.heap.size, 0, none⟩) 1 1) (by simp [execOp, Act.eval, go_sem, e0]) ⟨w.heap.size, rfl, (World.cell?_alloc_mark w #[(.int .u8 8)] 5 (0, 0) 0).trans rfl⟩ ((Below.refl _ _).alloc (Nat.le_refl _) _)
    · intro o ho a w hA hBw hd
      simp only [List.getElem?_toArray, List.getElem?_cons_succ, List.getElem?_cons_zero, Option.some.injEq] at ho
      subst ho
      obtain ⟨g, e1, hc⟩ : ∃ g, a.tmps.getD 32 undef = .slice (some ⟨g, 0, none⟩) 1 1 ∧ w.cell? ⟨g, 0, none⟩ = some ((.int .u8 8)) := hd ⟨1, .data⟩ (by simp) rfl _ 32 rfl rfl
      have hv := row1_text w g 8 (by omega) hc
      exact st_val ((.string x2)) (by simp [execOp, Act.eval, go_sem, e1, hv, hx2]) rfl (Below.refl _ _)
    · intro o ho a w hA hBw hd
      simp only [List.getElem?_toArray, List.getElem?_cons_succ, List.getElem?_cons_zero, Option.some.injEq] at ho
      subst ho
      have e2 : a.tmps.getD 33 undef = (.string x2) := hd ⟨2, .data⟩ (by simp) rfl _ 33 rfl rfl
      exact st_val ((.string x3)) (by simp [execOp, Act.eval, go_sem, e2, hx3]; omega) rfl (Below.refl _ _)
    · intro o ho a w hA hBw hd
      simp only [List.getElem?_toArray, List.getElem?_cons_succ, List.getElem?_cons_zero, Option.some.injEq] at ho
      subst ho
      have e0 : a.tmps.getD 1 undef = .pointer (some ⟨B, 0, none⟩) := hA.far 1 (by simp)
      exact st_val ((.pointer (some ⟨B, 2, none⟩))) (by simp [execOp, Act.eval, go_sem, e0]) rfl (Below.refl _ _)
    · intro o ho a w hA hBw hd
      simp only [List.getElem?_toArray, List.getElem?_cons_succ, List.getElem?_cons_zero, Option.some.injEq] at ho
      subst ho
      have e4 : a.tmps.getD 35 undef = (.pointer (some ⟨B, 2, none⟩)) := hd ⟨4, .data⟩ (by simp) rfl _ 35 rfl rfl
      have hk : w.heap[B]? = some (.cells #[.int .i64 (W : Int), .int .i64 (H : Int), .int .i64 (d : Int), .slice a1 K c1, .slice a2 n c2] 98) := blk_below (unhide HK5) hA.below (by omega)
      have q2 : w.cell? ⟨B, 2, none⟩ = some (.int .i64 (d : Int)) := blk_cell hk 2
      exact st_val ((.int .i64 (d : Int))) (by simp [execOp, Act.eval, go_sem, e4, q2]) rfl (Below.refl _ _)
    · intro o ho a w hA hBw hd
      simp only [List.getElem?_toArray, List.getElem?_cons_succ, List.getElem?_cons_zero, Option.some.injEq] at ho
      subst ho
      have e5 : a.tmps.getD 36 undef = (.int .i64 (d : Int)) := hd ⟨5, .data⟩ (by simp) rfl _ 36 rfl rfl
      exact st_call 93 #[(.int .i64 (d : Int))] (.string pd) (by simp [Act.eval, go_sem, e5]) (unhide HPD w) (fun _ => rfl)
    · intro o ho a w hA hBw hd
      simp only [List.getElem?_toArray, List.getElem?_cons_succ, List.getElem?_cons_zero, Option.some.injEq] at ho
      subst ho
      have e3 : a.tmps.getD 34 undef = (.string x3) := hd ⟨3, .data⟩ (by simp) rfl _ 34 rfl rfl
      have e6 : a.tmps.getD 37 undef = (.string pd) := hd ⟨6, .data⟩ (by simp) rfl _ 37 rfl rfl
      exact st_val ((.string x7)) (by simp [execOp, Act.eval, go_sem, e3, e6, hx7]; omega) rfl (Below.refl _ _)
    · intro o ho a w hA hBw hd
      simp only [List.getElem?_toArray, List.getElem?_cons_succ, List.getElem?_cons_zero, Option.some.injEq] at ho
      subst ho
      have e0 : a.tmps.getD 5 undef = .int .i64 0 := hA.far 5 (by simp)
      exact st_val (.int .i64 0) (by simp [execOp, Act.eval, go_sem, e0]) rfl (Below.refl _ _)
    · intro o ho a w hA hBw hd
      simp only [List.getElem?_toArray, List.getElem?_cons_succ, List.getElem?_cons_zero, Option.some.injEq] at ho
      subst ho
      have e8 : a.tmps.getD 39 undef = (.int .i64 0) := hd ⟨8, .data⟩ (by simp) rfl _ 39 rfl rfl
      exact st_val ((.int .u8 0)) (by simp [execOp, Act.eval, go_sem, e8]; rfl) rfl (Below.refl _ _)
    · intro o ho a w hA hBw hd
      simp only [List.getElem?_toArray, List.getElem?_cons_succ, List.getElem?_cons_zero, Option.some.injEq] at ho
      subst ho
      have e9 : a.tmps.getD 40 undef = (.int .u8 0) := hd ⟨9, .data⟩ (by simp) rfl _ 40 rfl rfl
      rw [Array.getD_eq_getD_getElem?] at e9
      exact st_val (w' := w.alloc (.cells #[(.int .u8 0)] 5)) (.slice (some ⟨w.heap.size, 0, none⟩) 1 1) (by simp [execOp, Act.eval, go_sem, e9]) ⟨w.heap.size, rfl, (World.cell?_alloc_mark w #[(.int .u8 0)] 5 (0, 0) 0).trans rfl⟩ ((Below.refl _ _).alloc (Nat.le_refl _) _)
    · intro o ho a w hA hBw hd
      simp only [List.getElem?_toArray, List.getElem?_cons_succ, List.getElem?_cons_zero, Option.some.injEq] at ho
      subst ho
      obtain ⟨g, e10, hc⟩ : ∃ g, a.tmps.getD 41 undef = .slice (some ⟨g, 0, none⟩) 1 1 ∧ w.cell? ⟨g, 0, none⟩ = some ((.int .u8 0)) := hd ⟨10, .data⟩ (by simp) rfl _ 41 rfl rfl
      have hv := row1_text w g 0 (by omega) hc
      exact st_val ((.string x11)) (by simp [execOp, Act.eval, go_sem, e10, hv, hx11]) rfl (Below.refl _ _)
    · intro o ho a w hA hBw hd
      simp only [List.getElem?_toArray, List.getElem?_cons_succ, List.getElem?_cons_zero, Option.some.injEq] at ho
      subst ho
      have e7 : a.tmps.getD 38 undef = (.string x7) := hd ⟨7, .data⟩ (by simp) rfl _ 38 rfl rfl
      have e11 : a.tmps.getD 42 undef = (.string x11) := hd ⟨11, .data⟩ (by simp) rfl _ 42 rfl rfl
      exact st_val ((.string x12)) (by simp [execOp, Act.eval, go_sem, e7, e11, hx12]; omega) rfl (Below.refl _ _)
    · intro o ho a w hA hBw hd
      simp only [List.getElem?_toArray, List.getElem?_cons_succ, List.getElem?_cons_zero, Option.some.injEq] at ho
      subst ho
      have e12 : a.tmps.getD 43 undef = (.string x12) := hd ⟨12, .data⟩ (by simp) rfl _ 43 rfl rfl
      exact st_val ((.string x13)) (by simp [execOp, Act.eval, go_sem, e12, hx13]; omega) rfl (Below.refl _ _)
    · intro o ho a w hA hBw hd
      simp only [List.getElem?_toArray, List.getElem?_cons_succ, List.getElem?_cons_zero, Option.some.injEq] at ho
      subst ho
      have e0 : a.tmps.getD 1 undef = .pointer (some ⟨B, 0, none⟩) := hA.far 1 (by simp)
      have hk : w.heap[B]? = some (.cells #[.int .i64 (W : Int), .int .i64 (H : Int), .int .i64 (d : Int), .slice a1 K c1, .slice a2 n c2] 98) := blk_below (unhide HK5) hA.below (by omega)
      have q0 : w.cell? ⟨B, 0, none⟩ = some (.int .i64 (W : Int)) := blk_cell hk 0
      have q1 : w.cell? ⟨B, 1, none⟩ = some (.int .i64 (H : Int)) := blk_cell hk 1
      have q2 : w.cell? ⟨B, 2, none⟩ = some (.int .i64 (d : Int)) := blk_cell hk 2
      have q3 : w.cell? ⟨B, 3, none⟩ = some (.slice a1 K c1) := blk_cell hk 3
      have q4 : w.cell? ⟨B, 4, none⟩ = some (.slice a2 n c2) := blk_cell hk 4
      exact st_val ((.agg #[.int .i64 (W : Int), .int .i64 (H : Int), .int .i64 (d : Int), .slice a1 K c1, .slice a2 n c2])) (by simp [execOp, Act.eval, go_sem, e0, q0, q1, q2, q3, q4]) rfl (Below.refl _ _)
    · intro o ho a w hA hBw hd
      simp only [List.getElem?_toArray, List.getElem?_cons_succ, List.getElem?_cons_zero, Option.some.injEq] at ho
      subst ho
      have e14 : a.tmps.getD 45 undef = (.agg #[.int .i64 (W : Int), .int .i64 (H : Int), .int .i64 (d : Int), .slice a1 K c1, .slice a2 n c2]) := hd ⟨14, .data⟩ (by simp) rfl _ 45 rfl rfl
      exact st_call 92 #[(.agg #[.int .i64 (W : Int), .int .i64 (H : Int), .int .i64 (d : Int), .slice a1 K c1, .slice a2 n c2])] (.string sd) (by simp [Act.eval, go_sem, e14]) (unhide HSD w) (fun _ => rfl)
    · intro o ho a w hA hBw hd
      simp only [List.getElem?_toArray, List.getElem?_cons_succ, List.getElem?_cons_zero, Option.some.injEq] at ho
      subst ho
      have e13 : a.tmps.getD 44 undef = (.string x13) := hd ⟨13, .data⟩ (by simp) rfl _ 44 rfl rfl
      have e15 : a.tmps.getD 46 undef = (.string sd) := hd ⟨15, .data⟩ (by simp) rfl _ 46 rfl rfl
      exact st_val ((.string x16)) (by simp [execOp, Act.eval, go_sem, e13, e15, hx16]; omega) rfl (Below.refl _ _)
    · intro o ho a w hA hBw hd
      simp only [List.getElem?_toArray, List.getElem?_cons_succ, List.getElem?_cons_zero, Option.some.injEq] at ho
      subst ho
      have e0 : a.tmps.getD 1 undef = .pointer (some ⟨B, 0, none⟩) := hA.far 1 (by simp)
      have hk : w.heap[B]? = some (.cells #[.int .i64 (W : Int), .int .i64 (H : Int), .int .i64 (d : Int), .slice a1 K c1, .slice a2 n c2] 98) := blk_below (unhide HK5) hA.below (by omega)
      have q0 : w.cell? ⟨B, 0, none⟩ = some (.int .i64 (W : Int)) := blk_cell hk 0
      have q1 : w.cell? ⟨B, 1, none⟩ = some (.int .i64 (H : Int)) := blk_cell hk 1
      have q2 : w.cell? ⟨B, 2, none⟩ = some (.int .i64 (d : Int)) := blk_cell hk 2
      have q3 : w.cell? ⟨B, 3, none⟩ = some (.slice a1 K c1) := blk_cell hk 3
      have q4 : w.cell? ⟨B, 4, none⟩ = some (.slice a2 n c2) := blk_cell hk 4
      exact st_val ((.agg #[.int .i64 (W : Int), .int .i64 (H : Int), .int .i64 (d : Int), .slice a1 K c1, .slice a2 n c2])) (by simp [execOp, Act.eval, go_sem, e0, q0, q1, q2, q3, q4]) rfl (Below.refl _ _)
    · intro o ho a w hA hBw hd
      simp only [List.getElem?_toArray, List.getElem?_cons_succ, List.getElem?_cons_zero, Option.some.injEq] at ho
      subst ho
      have e17 : a.tmps.getD 48 undef = (.agg #[.int .i64 (W : Int), .int .i64 (H : Int), .int .i64 (d : Int), .slice a1 K c1, .slice a2 n c2]) := hd ⟨17, .data⟩ (by simp) rfl _ 48 rfl rfl
      exact st_call 122 #[(.agg #[.int .i64 (W : Int), .int .i64 (H : Int), .int .i64 (d : Int), .slice a1 K c1, .slice a2 n c2])] (.int .i64 (S : Int)) (by simp [Act.eval, go_sem, e17]) (unhide HSZ w) (fun _ => rfl)
    · intro o ho a w hA hBw hd
      simp only [List.getElem?_toArray, List.getElem?_cons_succ, List.getElem?_cons_zero, Option.some.injEq] at ho
      subst ho
      have e18 : a.tmps.getD 49 undef = (.int .i64 (S : Int)) := hd ⟨18, .data⟩ (by simp) rfl _ 49 rfl rfl
      exact st_val ((.int .u8 (S : Int))) (by simp [execOp, Act.eval, go_sem, e18]; rw [IntKind.wrap_u8]; omega) rfl (Below.refl _ _)
    · intro o ho a w hA hBw hd
      simp only [List.getElem?_toArray, List.getElem?_cons_succ, List.getElem?_cons_zero, Option.some.injEq] at ho
      subst ho
      have e19 : a.tmps.getD 50 undef = (.int .u8 (S : Int)) := hd ⟨19, .data⟩ (by simp) rfl _ 50 rfl rfl
      exact st_val ((.int .u8 ((128 + S : Nat) : Int))) (by simp [execOp, Act.eval, go_sem, e19]; rw [IntKind.wrap_u8]; omega) rfl (Below.refl _ _)
    · intro o ho a w hA hBw hd
      simp only [List.getElem?_toArray, List.getElem?_cons_succ, List.getElem?_cons_zero, Option.some.injEq] at ho
      subst ho
      have e20 : a.tmps.getD 51 undef = (.int .u8 ((128 + S : Nat) : Int)) := hd ⟨20, .data⟩ (by simp) rfl _ 51 rfl rfl
      rw [Array.getD_eq_getD_getElem?] at e20
      exact st_val (w' := w.alloc (.cells #[(.int .u8 ((128 + S : Nat) : Int))] 5)) (.slice (some ⟨w.heap.size, 0, none⟩) 1 1) (by simp [execOp, Act.eval, go_sem, e20]) ⟨w.heap.size, rfl, (World.cell?_alloc_mark w #[(.int .u8 ((128 + S : Nat) : Int))] 5 (0, 0) 0).trans rfl⟩ ((Below.refl _ _).alloc (Nat.le_refl _) _)
    · intro o ho a w hA hBw hd
      simp only [List.getElem?_toArray, List.getElem?_cons_succ, List.getElem?_cons_zero, Option.some.injEq] at ho
      subst ho
      obtain ⟨g, e21, hc⟩ : ∃ g, a.tmps.getD 52 undef = .slice (some ⟨g, 0, none⟩) 1 1 ∧ w.cell? ⟨g, 0, none⟩ = some ((.int .u8 ((128 + S : Nat) : Int))) := hd ⟨21, .data⟩ (by simp) rfl _ 52 rfl rfl
      have hv := row1_text w g (128 + S) (by omega) hc
      exact st_val ((.string x22)) (by simp [execOp, Act.eval, go_sem, e21, hv, hx22]) rfl (Below.refl _ _)
    · intro o ho a w hA hBw hd
      simp only [List.getElem?_toArray, List.getElem?_cons_succ, List.getElem?_cons_zero, Option.some.injEq] at ho
      subst ho
      have e16 : a.tmps.getD 47 undef = (.string x16) := hd ⟨16, .data⟩ (by simp) rfl _ 47 rfl rfl
      have e22 : a.tmps.getD 53 undef = (.string x22) := hd ⟨22, .data⟩ (by simp) rfl _ 53 rfl rfl
      exact st_val ((.string x23)) (by simp [execOp, Act.eval, go_sem, e16, e22, hx23]; omega) rfl (Below.refl _ _)
    · intro o ho a w hA hBw hd
      simp only [List.getElem?_toArray, List.getElem?_cons_succ, List.getElem?_cons_zero, Option.some.injEq] at ho
      subst ho
      have e0 : a.tmps.getD 1 undef = .pointer (some ⟨B, 0, none⟩) := hA.far 1 (by simp)
      have hk : w.heap[B]? = some (.cells #[.int .i64 (W : Int), .int .i64 (H : Int), .int .i64 (d : Int), .slice a1 K c1, .slice a2 n c2] 98) := blk_below (unhide HK5) hA.below (by omega)
      have q0 : w.cell? ⟨B, 0, none⟩ = some (.int .i64 (W : Int)) := blk_cell hk 0
      have q1 : w.cell? ⟨B, 1, none⟩ = some (.int .i64 (H : Int)) := blk_cell hk 1
      have q2 : w.cell? ⟨B, 2, none⟩ = some (.int .i64 (d : Int)) := blk_cell hk 2
      have q3 : w.cell? ⟨B, 3, none⟩ = some (.slice a1 K c1) := blk_cell hk 3
      have q4 : w.cell? ⟨B, 4, none⟩ = some (.slice a2 n c2) := blk_cell hk 4
      exact st_val ((.agg #[.int .i64 (W : Int), .int .i64 (H : Int), .int .i64 (d : Int), .slice a1 K c1, .slice a2 n c2])) (by simp [execOp, Act.eval, go_sem, e0, q0, q1, q2, q3, q4]) rfl (Below.refl _ _)
    · intro o ho a w hA hBw hd
      simp only [List.getElem?_toArray, List.getElem?_cons_succ, List.getElem?_cons_zero, Option.some.injEq] at ho
      subst ho
      have e24 : a.tmps.getD 55 undef = (.agg #[.int .i64 (W : Int), .int .i64 (H : Int), .int .i64 (d : Int), .slice a1 K c1, .slice a2 n c2]) := hd ⟨24, .data⟩ (by simp) rfl _ 55 rfl rfl
      exact st_call 125 #[(.agg #[.int .i64 (W : Int), .int .i64 (H : Int), .int .i64 (d : Int), .slice a1 K c1, .slice a2 n c2])] (.string ct) (by simp [Act.eval, go_sem, e24]) (unhide HCT5 w hA.below) (fun _ => rfl)
    · intro o ho a w hA hBw hd
      simp only [List.getElem?_toArray, List.getElem?_cons_succ, List.getElem?_cons_zero, Option.some.injEq] at ho
      subst ho
      have e23 : a.tmps.getD 54 undef = (.string x23) := hd ⟨23, .data⟩ (by simp) rfl _ 54 rfl rfl
      have e25 : a.tmps.getD 56 undef = (.string ct) := hd ⟨25, .data⟩ (by simp) rfl _ 56 rfl rfl
      exact st_val ((.string x26)) (by simp [execOp, Act.eval, go_sem, e23, e25, hx26]; omega) rfl (Below.refl _ _)
    · intro o ho a w hA hBw hd
      simp only [List.getElem?_toArray, List.getElem?_cons_succ, List.getElem?_cons_zero, Option.some.injEq] at ho
      subst ho
      have e0 : a.tmps.getD 7 undef = .int .i64 (wd : Int) := hA.far 7 (by simp)
      exact st_val (.int .i64 (wd : Int)) (by simp [execOp, Act.eval, go_sem, e0]) rfl (Below.refl _ _)
    · intro o ho a w hA hBw hd
      simp only [List.getElem?_toArray, List.getElem?_cons_succ, List.getElem?_cons_zero, Option.some.injEq] at ho
      subst ho
      have e27 : a.tmps.getD 58 undef = (.int .i64 (wd : Int)) := hd ⟨27, .data⟩ (by simp) rfl _ 58 rfl rfl
      exact st_val ((.int .u8 (wd : Int))) (by simp [execOp, Act.eval, go_sem, e27]; rw [IntKind.wrap_u8]; omega) rfl (Below.refl _ _)
    · intro o ho a w hA hBw hd
      simp only [List.getElem?_toArray, List.getElem?_cons_succ, List.getElem?_cons_zero, Option.some.injEq] at ho
      subst ho
      have e28 : a.tmps.getD 59 undef = (.int .u8 (wd : Int)) := hd ⟨28, .data⟩ (by simp) rfl _ 59 rfl rfl
      rw [Array.getD_eq_getD_getElem?] at e28
      exact st_val (w' := w.alloc (.cells #[(.int .u8 (wd : Int))] 5)) (.slice (some ⟨w.heap.size, 0, none⟩) 1 1) (by simp [execOp, Act.eval, go_sem, e28]) ⟨w.heap.size, rfl, (World.cell?_alloc_mark w #[(.int .u8 (wd : Int))] 5 (0, 0) 0).trans rfl⟩ ((Below.refl _ _).alloc (Nat.le_refl _) _)
    · intro o ho a w hA hBw hd
      simp only [List.getElem?_toArray, List.getElem?_cons_succ, List.getElem?_cons_zero, Option.some.injEq] at ho
      subst ho
      obtain ⟨g, e29, hc⟩ : ∃ g, a.tmps.getD 60 undef = .slice (some ⟨g, 0, none⟩) 1 1 ∧ w.cell? ⟨g, 0, none⟩ = some ((.int .u8 (wd : Int))) := hd ⟨29, .data⟩ (by simp) rfl _ 60 rfl rfl
      have hv := row1_text w g wd (by omega) hc
      exact st_val ((.string x30)) (by simp [execOp, Act.eval, go_sem, e29, hv, hx30]) rfl (Below.refl _ _)
    · intro o ho a w hA hBw hd
      simp only [List.getElem?_toArray, List.getElem?_cons_succ, List.getElem?_cons_zero, Option.some.injEq] at ho
      subst ho
      have e26 : a.tmps.getD 57 undef = (.string x26) := hd ⟨26, .data⟩ (by simp) rfl _ 57 rfl rfl
      have e30 : a.tmps.getD 61 undef = (.string x30) := hd ⟨30, .data⟩ (by simp) rfl _ 61 rfl rfl
      exact st_val ((.string x31)) (by simp [execOp, Act.eval, go_sem, e26, e30, hx31]; omega) rfl (Below.refl _ _)
    · intro o ho a w hA hBw hd
      simp only [List.getElem?_toArray, List.getElem?_cons_succ, List.getElem?_cons_zero, Option.some.injEq] at ho
      subst ho
      have e0 : a.tmps.getD 8 undef = .string pk := hA.far 8 (by simp)
      exact st_val (.string pk) (by simp [execOp, Act.eval, go_sem, e0]) rfl (Below.refl _ _)
    · intro o ho a w hA hBw hd
      simp only [List.getElem?_toArray, List.getElem?_cons_succ, List.getElem?_cons_zero, Option.some.injEq] at ho
      subst ho
      have e32 : a.tmps.getD 63 undef = (.string pk) := hd ⟨32, .data⟩ (by simp) rfl _ 63 rfl rfl
      exact st_call 126 #[(.string pk)] (.string bk) (by simp [Act.eval, go_sem, e32]) (unhide HBK w) (fun _ => rfl)
    · intro o ho a w hA hBw hd
      simp only [List.getElem?_toArray, List.getElem?_cons_succ, List.getElem?_cons_zero, Option.some.injEq] at ho
      subst ho
      have e31 : a.tmps.getD 62 undef = (.string x31) := hd ⟨31, .data⟩ (by simp) rfl _ 62 rfl rfl
      have e33 : a.tmps.getD 64 undef = (.string bk) := hd ⟨33, .data⟩ (by simp) rfl _ 64 rfl rfl
      exact st_val ((.string x34)) (by simp [execOp, Act.eval, go_sem, e31, e33, hx34]; omega) rfl (Below.refl _ _)
    · intro o ho a w hA hBw hd
      simp only [List.getElem?_toArray, List.getElem?_cons_succ, List.getElem?_cons_zero, Option.some.injEq] at ho
      subst ho
      have e34 : a.tmps.getD 65 undef = (.string x34) := hd ⟨34, .data⟩ (by simp) rfl _ 65 rfl rfl
      exact st_val ((.string x34)) (by simp [execOp, Act.eval, go_sem, e34]) rfl (Below.refl _ _)
    · intro o ho a w hA hBw hd
      simp only [List.getElem?_toArray, List.getElem?_cons_succ, List.getElem?_cons_zero, Option.some.injEq] at ho
      subst ho
      exact st_val .nilIface (by simp [execOp, Act.eval, go_sem]) rfl (Below.refl _ _)
    · intro a w6 hA hgood
      have e2 : a.tmps.getD 2 undef = .string x34 := hgood 35 _ 2 rfl rfl
      have e3 : a.tmps.getD 3 undef = .nilIface := hgood 36 _ 3 rfl rfl
      have hdf : a.defers = [] := hA.defers
      have HB6 := hide ((unhide HB5).trans (hA.below.mono (by omega)))
      clear hgood hA
      obtain ⟨tm, df⟩ := a
      simp only at e2 e3 hdf
      subst hdf
      go_wp2
      go_ret2
      exact ⟨by rw [e2, e3, unhide HFR], bel_atG (unhide HBE) (unhide HB6)⟩
end Go.Proofs.YtjcoahahponabaaGreatDoor
