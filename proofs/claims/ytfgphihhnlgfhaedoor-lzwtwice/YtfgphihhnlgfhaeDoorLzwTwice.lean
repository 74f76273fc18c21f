/- The statement that what is packed is unpacked: the walk. -/
import Derived.Test.YtfgphihhnlgfhaeDoorLzq
import Derived.Test.YtfgphihhnlgfhaeDoorLzt
import Derived.Test.YtfgphihhnlgfhaeDoorTold
import Derived.Test.YtfgphihhnlgfhaeDoorBG
namespace Go.Proofs.YtfgphihhnlgfhaeDoor
open Go.RowKit Lz Ps

theorem same_bytes (l : List UInt8) : (l == l) = true := by simp
theorem snoc_lt {l : List UInt8} {b : UInt8} {X : Nat} (h : ∀ x ∈ l, x.toNat < X) (hb : b.toNat < X) : ∀ x ∈ l ++ [b], x.toNat < X := fun x hx => by
  rcases List.mem_append.1 hx with q | q
  · exact h x q
  · simp only [List.mem_singleton] at q
    subst q
    exact hb
theorem wrap_pow (W : Nat) (h : W ≤ 12) : wrap64 ((2 : Int) ^ W) = ((2 ^ W : Nat) : Int) := by
  have := shl_one W h
  rw [Int.one_mul, IntWalk.i64_left] at this
  exact this

theorem grow_below {w0 w wa w1 : World} {B size n : Nat} {e : TypeId} {v : Value} {xs : List Value} (h : Below B w0 w) (hB : B ≤ w.heap.size) (hown : w.ownsRow B e size v n xs) (h0 : Below w.heap.size w wa) (hg : wa.grownBy w1 v.ownBlock) : Below B w0 w1 ∧ B ≤ w1.heap.size := by
  have hz := h0.size
  have hz1 := hg.size
  refine ⟨⟨(hg.os.trans h0.os).trans h.os, (hg.tape.trans h0.tape).trans h.tape, (hg.output.trans h0.output).trans h.output, by have := h.size; omega, fun i hi => ?_⟩, by omega⟩
  rw [hg.block i (by omega) (fun q => by have := (hown.lt i q.symm).1; omega), h0.block i (by omega), h.block i hi]

theorem arith (n b W X : Nat) (σ : Int) (hb : b < 256) (hX : wrap64 ((2 : Int) ^ W) = (X : Int)) (hX4 : 4 ≤ X) (hX256 : X ≤ 256) :
    ∃ (r : Int) (n2 q16 y : Nat), ((n : Int) * 5 + σ + 7 + (b : Int)).tmod 65536 = r ∧ -65536 < r ∧ r < 65536 ∧ ((r < 0 ∧ r + 65536 = (n2 : Int)) ∨ (¬ r < 0 ∧ r = (n2 : Int))) ∧ n2 < 65536 ∧ (n2 : Int) / 16 = (q16 : Int) ∧ (n2 : Int).tdiv 16 = (q16 : Int) ∧ q16 < 4096 ∧
      ((q16 : Int) + (b : Int)) % wrap64 ((2 : Int) ^ W) = (y : Int) ∧ ((q16 : Int) + (b : Int)).tmod (wrap64 ((2 : Int) ^ W)) = (y : Int) ∧ y < X ∧
      (wrap64 ((2 : Int) ^ W) == 0) = false ∧ ¬ wrap64 ((2 : Int) ^ W) = 0 ∧ (wrap64 ((2 : Int) ^ W) == -1) = false ∧ y < 256 ∧ IntKind.u8.wrap (y : Int) = (y : Int) ∧ IntKind.i64.wrap (b : Int) = (b : Int) ∧ IntKind.i64.wrap (q16 : Int) = (q16 : Int) ∧ IntKind.i64.wrap ((q16 : Int) + (b : Int)) = (q16 : Int) + (b : Int) ∧ IntKind.i64.wrap (y : Int) = (y : Int) ∧ ∃ c : UInt8, (c.toNat : Int) = (y : Int) ∧ c.toNat < X := by
  generalize hr : ((n : Int) * 5 + σ + 7 + (b : Int)).tmod 65536 = r
  have hr1 : -65536 < r := by rw [← hr]; exact Int.lt_tmod_of_pos _ (by omega)
  have hr2 : r < 65536 := by rw [← hr]; exact Int.tmod_lt_of_pos _ (by omega)
  clear hr
  obtain ⟨n2, hn2, hn2l⟩ : ∃ n2 : Nat, ((r < 0 ∧ r + 65536 = (n2 : Int)) ∨ (¬ r < 0 ∧ r = (n2 : Int))) ∧ n2 < 65536 := by
    by_cases q : r < 0
    · exact ⟨(r + 65536).toNat, .inl ⟨q, by omega⟩, by omega⟩
    · exact ⟨r.toNat, .inr ⟨q, by omega⟩, by omega⟩
  have z16 : (n2 : Int) / 16 = ((n2 / 16 : Nat) : Int) := by omega
  have zy : (((n2 / 16 : Nat) : Int) + (b : Int)) % wrap64 ((2 : Int) ^ W) = (((n2 / 16 + b) % X : Nat) : Int) := by rw [hX]; simp
  have z16t : (n2 : Int).tdiv 16 = ((n2 / 16 : Nat) : Int) := by rw [Int.tdiv_eq_ediv_of_nonneg (by omega)]; exact z16
  have zyt : (((n2 / 16 : Nat) : Int) + (b : Int)).tmod (wrap64 ((2 : Int) ^ W)) = (((n2 / 16 + b) % X : Nat) : Int) := by rw [Int.tmod_eq_emod_of_nonneg (by omega)]; exact zy
  have hyX : (n2 / 16 + b) % X < X := Nat.mod_lt _ (by omega)
  have hq : n2 / 16 < 4096 := by omega
  rw [hX] at zy zyt ⊢
  refine ⟨r, n2, n2 / 16, (n2 / 16 + b) % X, rfl, hr1, hr2, hn2, hn2l, z16, z16t, hq, zy, zyt, hyX, ?_⟩
  clear zy zyt z16 z16t hn2 hr1 hr2
  generalize n2 / 16 = q at *
  generalize (q + b) % X = y at *
  refine ⟨by rw [beq_eq_false_iff_ne]; omega, by omega, by rw [beq_eq_false_iff_ne]; omega, by omega, by rw [IntKind.wrap_u8]; omega, by rw [IntKind.wrap_i64]; omega, by rw [IntKind.wrap_i64]; omega, by rw [IntKind.wrap_i64]; omega, by rw [IntKind.wrap_i64]; omega, UInt8.ofNat y, ?_, ?_⟩
  · rw [toNat_len y (by omega)]
  · rw [toNat_len y (by omega)]; exact hyX

set_option maxHeartbeats 8000000 in
set_option maxRecDepth 100000 in
theorem twice_in (a : ByteArray) (T W : Nat) (step : Int) (w : World) (ad : Nat → Addr) (hS : Told w [0, 1, 2] ad) (ha1 : 1 ≤ a.size) (ha : a.size ≤ 60) (hT1 : 1 ≤ T) (hT : T ≤ 400) (hW2 : 2 ≤ W) (hW : W ≤ 8) :
    Calls Tryd.prog 5 #[.string a, .int .i64 (T : Int), .int .i64 step, .int .i64 (W : Int)] w fun e w' => e = .returned (.bool true) ∧ Below w.heap.size w w' := by
  have HE := hide (end_any w)
  have HS := hide hS
  have g1 : decide ((a.size : Int) < 1) = false := decide_eq_false (by omega)
  have g1n : decide (a.size < 1) = false := decide_eq_false (by omega)
  have g2 : decide ((a.size : Int) > 60) = false := by simp; omega
  have g2' : decide ((60 : Int) < (a.size : Int)) = false := g2
  have g2n : decide (60 < a.size) = false := by simp; omega
  have g3 : decide ((T : Int) < 1) = false := by simp; omega
  have g4 : decide ((T : Int) > 400) = false := by simp; omega
  have g4' : decide ((400 : Int) < (T : Int)) = false := g4
  have g5 : decide ((W : Int) < 2) = false := by simp; omega
  have g6 : decide ((W : Int) > 8) = false := by simp; omega
  have g6' : decide ((8 : Int) < (W : Int)) = false := g6
  obtain ⟨C, hC⟩ : ∃ C, C = a.size * T := ⟨_, rfl⟩
  have zC : (a.size : Int) * (T : Int) = (C : Int) := by rw [hC]; simp
  have hCl : C ≤ 24000 := by rw [hC]; exact Nat.mul_le_mul ha hT
  have hmk := make_room C (by omega)
  obtain ⟨σ, hσ⟩ : ∃ σ, σ = step.tmod 1000 := ⟨_, rfl⟩
  have hσ1 : -999 ≤ σ ∧ σ ≤ 999 := by
    have h1 := Int.tmod_lt_of_pos step (b := 1000) (by omega)
    have h2 := Int.lt_tmod_of_pos step (b := 1000) (by omega)
    omega
  have hσl := hσ1.1
  have hσu := hσ1.2
  have zσ : step.tmod 1000 = σ := hσ.symm
  obtain ⟨X, hX⟩ : ∃ X, X = 2 ^ W := ⟨_, rfl⟩
  have hX4 : 4 ≤ X := by rw [hX]; exact Nat.pow_le_pow_right (n := 2) (i := 2) (by omega) hW2
  have hX256 : X ≤ 256 := by rw [hX]; exact pow2 W hW
  have HXW : Hid (wrap64 ((2 : Int) ^ W) = (X : Int)) := by show _ = _; rw [hX]; exact wrap_pow W (by omega)
  have HX := hide hX
  have HC := hide hC
  have hW64 : decide ((W : Int) < 64) = true := by simp; omega
  clear hS hC hσ hσ1 hX
  go_enter Tryd.func5, Tryd.ntmps5
  go_wp2_with fail
  refine (unhide HE).mono ?_; rintro e w1 ⟨rfl, hb1⟩
  have HB1 := hide hb1
  have hown0 : (w1.alloc (.cells (madeCells #[.int .u8 0] C) 5)).ownsRow w.heap.size 5 1 (.slice (some ⟨w1.heap.size, 0, none⟩) 0 C) ([] : List UInt8).length (byteVals []) :=
    World.ownsRow_made w1 (madeCells #[.int .u8 0] C) C hb1.size (by unfold maxLen; omega) (by rw [size_madeCells, Nat.mul_one])
  have HO0 := hide hown0
  have HB0 := hide (hb1.alloc hb1.size (.cells (madeCells #[.int .u8 0] C) 5))
  have hz0 : w.heap.size ≤ (w1.alloc (.cells (madeCells #[.int .u8 0] C) 5)).heap.size := by have := hb1.size; simp; omega
  clear HE hb1 hown0
  go_wp2
  clear hmk
  generalize w1.alloc (.cells (madeCells #[.int .u8 0] C) 5) = w2 at *
  go_loopw [10, 11, 12] (fun ov nv iv wr => ∃ (i n : Nat) (l : List UInt8) (aB : Option Addr) (cB : Nat), iv = .int .i64 (i : Int) ∧ nv = .int .i64 (n : Int) ∧ ov = .slice aB l.length cB ∧ i ≤ T ∧ n < 65536 ∧ Hid (wr.ownsRow w.heap.size 5 1 (.slice aB l.length cB) l.length (byteVals l)) ∧ Hid (l.length = a.size * i) ∧ Hid (∀ x ∈ l, x.toNat < X) ∧ Hid (Below w.heap.size w wr) ∧ w.heap.size ≤ wr.heap.size) (fun _ _ iv _ => T - (intOf iv).toNat)
  case atStart => exact ⟨0, 0, [], some ⟨w1.heap.size, 0, none⟩, C, rfl, rfl, rfl, by omega, by omega, HO0, by show 0 = _; simp, (fun x hx => by cases hx), HB0, hz0⟩
  case round =>
    clear HO0 HB0 hz0
    obtain ⟨i, n, l, aB, cB, rfl, rfl, rfl, hi, hn, HO, HL, HA, HB, hwz⟩ := hrel
    by_cases hlt : i < T
    · have q1 : decide ((i : Int) < (T : Int)) = true := by simp; omega
      go_wp2
      go_loopw [10, 11, 13] (fun ov nv kv wr => ∃ (k n : Nat) (l : List UInt8) (aB : Option Addr) (cB : Nat), kv = .int .i64 (k : Int) ∧ nv = .int .i64 (n : Int) ∧ ov = .slice aB l.length cB ∧ k ≤ a.size ∧ n < 65536 ∧ Hid (wr.ownsRow w.heap.size 5 1 (.slice aB l.length cB) l.length (byteVals l)) ∧ Hid (l.length = a.size * i + k) ∧ Hid (∀ x ∈ l, x.toNat < X) ∧ Hid (Below w.heap.size w wr) ∧ w.heap.size ≤ wr.heap.size) (fun _ _ kv _ => a.size - (intOf kv).toNat)
      case atStart => exact ⟨0, n, l, aB, cB, rfl, rfl, rfl, by omega, hn, HO, by have := unhide HL; show _ = _; omega, HA, HB, hwz⟩
      case round =>
        clear HO HL HA HB hwz hn
        obtain ⟨k, n, l, aB, cB, rfl, rfl, rfl, hk, hn, HO, HL, HA, HB, hwz⟩ := hrel
        by_cases hkt : k < a.size
        · have q2 : decide ((k : Int) < (a.size : Int)) = true := by simp; omega
          have q2n : decide (k < a.size) = true := by simp; omega
          have hki : (k : Int) < (a.size : Int) := by omega
          obtain ⟨b, hb⟩ : ∃ b, b = a[k].toNat := ⟨_, rfl⟩
          have zb : (a[k].toNat : Int) = (b : Int) := by rw [hb]
          have hb256 : b < 256 := by rw [hb]; exact a[k].toNat_lt
          have hll : l.length ≤ 24060 := by
            have h1 := unhide HL
            have h2 := Nat.mul_le_mul ha (show i ≤ 400 by omega)
            generalize a.size * i = m at *
            omega
          clear hb
          obtain ⟨r, n2, q16, y, zr, hr1, hr2, hn2, hn2l, z16, z16t, hq16l, zy, zyt, hyX, zne, zne2, zne3, hy256, wy, wb, w16, w16b, wyi, c, hcy, hcX⟩ := arith n b W X σ hb256 (unhide HXW) hX4 hX256
          have zneI : ¬ IntKind.i64.wrap ((2 : Int) ^ W) = 0 := by rw [IntWalk.i64_left]; exact zne2
          have zytI : ((q16 : Int) + (b : Int)).tmod (IntKind.i64.wrap ((2 : Int) ^ W)) = (y : Int) := by rw [IntWalk.i64_left]; exact zyt
          have zyI : ((q16 : Int) + (b : Int)) % (IntKind.i64.wrap ((2 : Int) ^ W)) = (y : Int) := by rw [IntWalk.i64_left]; exact zy
          have Hcy := hide hcy
          have HcX := hide hcX
          have HOa := hide ((unhide HO).drew.alloc (.cells #[.int .u8 (y : Int)] 5))
          have cq : (wr.drew.alloc (.cells #[.int .u8 (y : Int)] 5)).cell? ⟨wr.heap.size, 0, none⟩ = some (.int .u8 (c.toNat : Int)) := by rw [hcy]; exact one_new0 wr.drew _ _
          have hza : (wr.drew.alloc (.cells #[.int .u8 (y : Int)] 5)).heap.size = wr.heap.size + 1 := by show (wr.drew.alloc _).heap.size = wr.drew.heap.size + 1; simp
          clear hcy hcX
          rcases hn2 with ⟨hneg, z2⟩ | ⟨hneg, z2⟩
          · have q3 : decide (r < 0) = true := decide_eq_true hneg
            go_wp2_with fail
            go_region_law (first | (refine step_appB rfl (.tmp 80) (.tmp 92) rfl w.heap.size wr.heap.size (.slice aB l.length cB) l c (by simp [Act.eval]) (by simp [Act.eval]) (unhide HOa) cq (by omega) (by show w.heap.size ≤ (wr.drew.alloc _).heap.size; rw [hza]; omega) ?_; intro v2 w3 hown2 hgr2 hat2; obtain ⟨a2, c2, rfl, _⟩ := shape2 hown2))
            all_goals (
              have hfin := hide (grow_below (unhide HB) hwz (unhide HO) ((Below.refl _ _).drew.alloc (Nat.le_refl _) _) hgr2)
              have HO2 := hide hown2
              have HA2 := hide (snoc_lt (unhide HA) (unhide HcX))
              have HL2 : Hid ((l ++ [c]).length = a.size * i + (k + 1)) := by
                have := unhide HL
                show _ = _
                rw [List.length_append]
                simp only [List.length_cons, List.length_nil]
                omega
              clear hown2 hgr2 hat2 zr zy zyt zytI zyI zneI z16 z16t zne zne2 zne3 wy wb w16 w16b wyi
              go_wp2
              go_roundw
              case rel => exact ⟨k + 1, n2, l ++ [c], a2, c2, by go_num, rfl, by simp, by omega, hn2l, by first | exact HO2 | (show World.ownsRow _ _ _ _ (.slice _ (l ++ [c]).length _) _ _; exact unhide HO2), HL2, HA2, (unhide hfin).1, (unhide hfin).2⟩
              case measure => simp [intOf]; omega)
          · subst z2
            have q3 : decide ((n2 : Int) < 0) = false := decide_eq_false hneg
            go_wp2_with fail
            go_region_law (first | (refine step_appB rfl (.tmp 80) (.tmp 92) rfl w.heap.size wr.heap.size (.slice aB l.length cB) l c (by simp [Act.eval]) (by simp [Act.eval]) (unhide HOa) cq (by omega) (by show w.heap.size ≤ (wr.drew.alloc _).heap.size; rw [hza]; omega) ?_; intro v2 w3 hown2 hgr2 hat2; obtain ⟨a2, c2, rfl, _⟩ := shape2 hown2))
            all_goals (
              have hfin := hide (grow_below (unhide HB) hwz (unhide HO) ((Below.refl _ _).drew.alloc (Nat.le_refl _) _) hgr2)
              have HO2 := hide hown2
              have HA2 := hide (snoc_lt (unhide HA) (unhide HcX))
              have HL2 : Hid ((l ++ [c]).length = a.size * i + (k + 1)) := by
                have := unhide HL
                show _ = _
                rw [List.length_append]
                simp only [List.length_cons, List.length_nil]
                omega
              clear hown2 hgr2 hat2 zr zy zyt zytI zyI zneI z16 z16t zne zne2 zne3 wy wb w16 w16b wyi
              go_wp2
              go_roundw
              case rel => exact ⟨k + 1, n2, l ++ [c], a2, c2, by go_num, rfl, by simp, by omega, hn2l, by first | exact HO2 | (show World.ownsRow _ _ _ _ (.slice _ (l ++ [c]).length _) _ _; exact unhide HO2), HL2, HA2, (unhide hfin).1, (unhide hfin).2⟩
              case measure => simp [intOf]; omega)
        · have q2 : decide ((k : Int) < (a.size : Int)) = false := by simp; omega
          have q2n : decide (k < a.size) = false := by simp; omega
          have HL3 : Hid (l.length = a.size * (i + 1)) := by
            have h1 := unhide HL
            have h2 : k = a.size := by omega
            show _ = _
            rw [h1, Nat.mul_succ, h2]
          go_wp2
          go_roundw
          case rel => exact ⟨i + 1, n, l, aB, cB, by go_num, rfl, rfl, by omega, hn, HO, HL3, HA, HB, hwz⟩
          case measure => simp [intOf]; omega
    · have q1 : decide ((i : Int) < (T : Int)) = false := by simp; omega
      have hiT : i = T := by omega
      have hlC : l.length = C := by rw [unhide HC, unhide HL, hiT]
      have hl24 : l.length ≤ 24000 := by omega
      have hl0 : l ≠ [] := by
        intro q
        rw [q] at hlC
        have h1 := Nat.mul_le_mul ha1 hT1
        rw [← unhide HC, ← hlC] at h1
        simp at h1
      have hbX : ∀ x ∈ l, x.toNat < 2 ^ W := by rw [← unhide HX]; exact unhide HA
      obtain ⟨e1, e2, e3⟩ := unS_packed W hW2 hW l hl0 hl24 hbX ⟨#[114, 101, 115, 116]⟩ (by decide)
      have ht := own_text wr _ _ _ _ (unhide HO)
      have HPK := hide (pack_in W ⟨l.toArray⟩ wr hW2 hW (by rw [show (⟨l.toArray⟩ : ByteArray).size = l.length by show l.toArray.size = _; simp]; omega) hbX)
      rw [show (⟨l.toArray⟩ : ByteArray).data.toList = l by simp] at HPK
      obtain ⟨t, ht2⟩ : ∃ t, t = textP (packAll W l) := ⟨_, rfl⟩
      rw [← ht2] at HPK e1 e2 e3
      obtain ⟨R, hR⟩ : ∃ R, R = t ++ (⟨#[114, 101, 115, 116]⟩ : ByteArray) := ⟨_, rfl⟩
      have hcatR : t ++ (⟨#[114, 101, 115, 116]⟩ : ByteArray) = R := hR.symm
      rw [← hR] at e1
      have HUN : Hid (∀ w' : World, Below w.heap.size w w' → Calls Tryd.prog 13 #[.string R, .int .i64 (W : Int), .int .i64 (l.length : Int)] w' fun e w'' => e = .returned (.tuple #[.string ⟨l.toArray⟩, .int .i64 (t.size : Int), .nilIface]) ∧ Below w'.heap.size w' w'') := fun w' hb => by
        have hT := (unhide HS).below hb
        have := unpackU_any R (W : Int) (l.length : Int) _ _ _ _ w' (hT 0 (by simp)) (hT 1 (by simp))
        rw [e1, unV, e2] at this
        exact this
      obtain ⟨TX, hTX⟩ : ∃ TX, TX = (⟨l.toArray⟩ : ByteArray) := ⟨_, rfl⟩
      rw [← hTX] at HPK HUN ht
      have r1 := same_bytes TX.toList
      have HTX := hide hTX
      have n1 : ¬ (9223372036854775807 < t.size + 4) := by omega
      clear e1 e2 hR ht2 hTX hbX hl0 hlC
      go_wp2_with fail
      refine (unhide HPK).mono ?_; rintro e w4 ⟨rfl, hb4⟩
      have HB4 := hide ((unhide HB).trans (hb4.mono hwz))
      have HY := hide (unhide HUN w4 (unhide HB4))
      have HO4 := hide (own_move (unhide HO) (fun g q => hb4.block g ((unhide HO).lt g q).2))
      clear HPK hb4 HUN ht
      go_wp2_with fail
      refine (unhide HY).mono ?_; rintro e w5 ⟨rfl, hb5⟩
      have HB5 := hide ((unhide HB4).trans (hb5.mono (unhide HB4).size))
      have ht5 := own_text w5 _ _ _ _ (own_move (unhide HO4) (fun g q => hb5.block g ((unhide HO4).lt g q).2))
      rw [← unhide HTX] at ht5
      clear HY hb5
      go_wp2
      go_ret
      exact ⟨rfl, unhide HB5⟩

set_option maxHeartbeats 2000000 in
set_option maxRecDepth 100000 in
theorem lzwTwice_any (a : ByteArray) (times step width : Int) (w : World) (ad : Nat → Addr) (hS : Told w [0, 1, 2] ad) (_ha : a.size ≤ maxLen) :
    Calls Tryd.prog 5 #[.string a, .int .i64 times, .int .i64 step, .int .i64 width] w fun e w' => e = .returned (.bool true) ∧ Below w.heap.size w w' := by
  have HE := hide (end_any w)
  by_cases h1 : a.size < 1
  · have g1 : decide ((a.size : Int) < 1) = true := decide_eq_true (by omega)
    have g1n : decide (a.size < 1) = true := decide_eq_true h1
    have h0 : a.size = 0 := by omega
    go_enter Tryd.func5, Tryd.ntmps5
    go_wp2_with fail
    refine (unhide HE).mono ?_; rintro e w1 ⟨rfl, hb1⟩
    go_wp2
    go_ret
    exact ⟨rfl, hb1⟩
  have g1 : decide ((a.size : Int) < 1) = false := decide_eq_false (by omega)
  have g1n : decide (a.size < 1) = false := decide_eq_false h1
  by_cases h2 : 60 < a.size
  · have g2 : decide ((a.size : Int) > 60) = true := decide_eq_true (by omega)
    have g2' : decide ((60 : Int) < (a.size : Int)) = true := g2
    have g2n : decide (60 < a.size) = true := decide_eq_true h2
    go_enter Tryd.func5, Tryd.ntmps5
    go_wp2_with fail
    refine (unhide HE).mono ?_; rintro e w1 ⟨rfl, hb1⟩
    go_wp2
    go_ret
    exact ⟨rfl, hb1⟩
  have g2 : decide ((a.size : Int) > 60) = false := decide_eq_false (by omega)
  have g2' : decide ((60 : Int) < (a.size : Int)) = false := g2
  have g2n : decide (60 < a.size) = false := decide_eq_false h2
  by_cases h3 : times < 1
  · have g3 : decide (times < 1) = true := decide_eq_true h3
    go_enter Tryd.func5, Tryd.ntmps5
    go_wp2_with fail
    refine (unhide HE).mono ?_; rintro e w1 ⟨rfl, hb1⟩
    go_wp2
    go_ret
    exact ⟨rfl, hb1⟩
  have g3 : decide (times < 1) = false := decide_eq_false h3
  by_cases h4 : 400 < times
  · have g4 : decide (times > 400) = true := decide_eq_true h4
    have g4' : decide ((400 : Int) < times) = true := g4
    go_enter Tryd.func5, Tryd.ntmps5
    go_wp2_with fail
    refine (unhide HE).mono ?_; rintro e w1 ⟨rfl, hb1⟩
    go_wp2
    go_ret
    exact ⟨rfl, hb1⟩
  have g4 : decide (times > 400) = false := decide_eq_false h4
  have g4' : decide ((400 : Int) < times) = false := g4
  by_cases h5 : width < 2
  · have g5 : decide (width < 2) = true := decide_eq_true h5
    go_enter Tryd.func5, Tryd.ntmps5
    go_wp2_with fail
    refine (unhide HE).mono ?_; rintro e w1 ⟨rfl, hb1⟩
    go_wp2
    go_ret
    exact ⟨rfl, hb1⟩
  have g5 : decide (width < 2) = false := decide_eq_false h5
  by_cases h6 : 8 < width
  · have g6 : decide (width > 8) = true := decide_eq_true h6
    have g6' : decide ((8 : Int) < width) = true := g6
    go_enter Tryd.func5, Tryd.ntmps5
    go_wp2_with fail
    refine (unhide HE).mono ?_; rintro e w1 ⟨rfl, hb1⟩
    go_wp2
    go_ret
    exact ⟨rfl, hb1⟩
  obtain ⟨T, rfl⟩ := Int.eq_ofNat_of_zero_le (show 0 ≤ times by omega)
  obtain ⟨W, rfl⟩ := Int.eq_ofNat_of_zero_le (show 0 ≤ width by omega)
  exact twice_in a T W step w ad hS (by omega) (by omega) (by omega) (by omega) (by omega) (by omega)
end Go.Proofs.YtfgphihhnlgfhaeDoor
