/- A document flattened: the document's. -/
import Derived.Test.YtjhnneplknhmkajDoorLyE
import Derived.Test.YtjhnneplknhmkajDoorLyA
import Derived.Test.YtjhnneplknhmkajDoorLy9
import Derived.Test.YtjhnneplknhmkajDoorMg10
import Derived.Deep.RegionHeld
namespace Go.Proofs.YtjhnneplknhmkajDoor
open Go.RowKit

/-- The first ones are faded. -/
def fadK (q : Nat → Px) (o k : Nat) : Nat → Px := fun j => if j < k then fadeP (q j) o else q j
theorem fadK_at (q : Nat → Px) (o k : Nat) : fadK q o k k = q k := by unfold fadK; rw [if_neg (Nat.lt_irrefl k)]
theorem fadK_put (q : Nat → Px) (o k : Nat) : updP (fadK q o k) k (fadeP (q k) o) = fadK q o (k + 1) := by
  funext j
  unfold updP fadK
  by_cases h : j = k
  · subst h; rw [if_pos rfl, if_pos (Nat.lt_succ_self j)]
  · rw [if_neg h]
    by_cases h2 : j < k
    · rw [if_pos h2, if_pos (by omega)]
    · rw [if_neg h2, if_neg (by omega)]
theorem px_zero_val : (⟨0, 0, 0, 0⟩ : Px).val = .agg #[.int .u8 0, .int .u8 0, .int .u8 0, .int .u8 0] := rfl
theorem put4_blk {w : World} {g o b : Nat} {v : Px} (h : b ≠ g) : (put4 w g o v).heap[b]? = w.heap[b]? := put4_far w g o b v h

set_option maxHeartbeats 16000000 in
set_option maxRecDepth 100000 in
theorem flatOf_any (W H : Nat) (s : Option Addr) (n c : Nat) (L : Nat → Ly) (a : Nat → Option Addr) (cp : Nat → Nat) (w : World) (hL : IsLy w s n L a cp) (hR : ∀ i, i < n → LyR (L i)) (hW0 : 1 ≤ W) (hW : W ≤ 256) (hH0 : 1 ≤ H) (hH : H ≤ 256) (hn : n ≤ 12) :
    Calls Tryd.prog 15 #[.agg #[.int .i64 (W : Int), .int .i64 (H : Int), .slice s n c]] w fun e w' => ∃ g co, e = .returned (.agg #[.int .i64 (W : Int), .int .i64 (H : Int), .slice (some ⟨g, 0, none⟩) (W * H) co]) ∧ IsPx w' (some ⟨g, 0, none⟩) (W * H) (grid W (seenP L n)) ∧ Below w.heap.size w w' := by
  have HL := hide (fun wr (hb : Below w.heap.size w wr) => hL.below hb)
  have HR := hide hR
  have HBl := hide (fun wr => blankP_any W H ⟨0, 0, 0, 0⟩ wr hW hH)
  rw [px_zero_val] at HBl
  have HSt := hide (fun QW QH mo X Y (a b : Option Addr) c m d p s wr (hP : IsPx wr a (W * H) p) hQW hQH hm (hQ : IsPx wr b m s) hmo hxy => stampOf_any W H QW QH mo X Y a b (W * H) c m d p s wr hW0 hW hH0 hH rfl hP hQW hQH hm hQ hmo hxy)
  have hMb : W * H ≤ 65536 := Nat.mul_le_mul hW hH
  have hM0 : 1 ≤ W * H := Nat.mul_le_mul hW0 hH0
  have HGA := hide (fun (F : Nat → Nat → Px) x y (hx : x < W) => grid_at W F x y hx)
  have HPL := hide (fun x y (hx : x < W) (hy : y < H) => (show y * W + x < W * H by
    have e1 := Nat.mul_le_mul_right W (show y + 1 ≤ H from hy)
    have e2 := Nat.mul_comm W H
    have e3 : (y + 1) * W = y * W + W := Nat.succ_mul _ _
    omega))
  have HGI := hide (fun (P : Nat → Px) (e : ∀ x y, x < W → y < H → P (y * W + x) = seenP L n x y) (j : Nat) (hj : j < W * H) => (show P j = grid W (seenP L n) j by
    have hx : j % W < W := Nat.mod_lt _ (by omega)
    have hy : j / W < H := Nat.div_lt_of_lt_mul hj
    have e1 := e (j % W) (j / W) hx hy
    rw [show j / W * W + j % W = j by rw [Nat.mul_comm]; exact Nat.div_add_mod j W] at e1
    exact e1))
  obtain ⟨M, hM⟩ : ∃ M, M = W * H := ⟨_, rfl⟩
  rw [← hM] at HBl HSt hMb hM0 HPL HGI ⊢
  have hHA := hide (al2 w (.cells #[.int .i64 (W : Int), .int .i64 (H : Int), .slice s n c] 24) (.cells #[.int .i64 0, .int .i64 0, .slice none 0 0] 32))
  obtain ⟨B, hB⟩ : ∃ B, B = w.heap.size := ⟨_, rfl⟩
  clear hL hR hM
  go_enter Tryd.func15, Tryd.ntmps15
  go_wp2_with fail
  generalize (w.alloc (.cells #[.int .i64 (W : Int), .int .i64 (H : Int), .slice s n c] 24)).alloc (.cells #[.int .i64 0, .int .i64 0, .slice none 0 0] 32) = w1 at *
  rw [← hB] at HL hHA ⊢
  obtain ⟨hs1, k0, k1, hb1⟩ := unhide hHA
  have HB := hide hb1
  have HBE := hide hB
  clear hHA hb1 hB
  refine (unhide HBl w1).mono ?_
  rintro e w2 ⟨g0, cg0, rfl, hg0, hp0, hb2⟩
  have hs2 := hb2.size
  have k0 := blk_below k0 hb2 (by omega)
  have k1 := blk_below k1 hb2 (by omega)
  have HB := hide ((unhide HB).trans (hb2.mono (by omega)))
  have hA3 := al1 w2 (.cells #[.int .i64 (W : Int), .int .i64 (H : Int), .slice (some ⟨g0, 0, none⟩) M cg0] 32)
  have HP0 := hide ((hp0.isPx (by omega)).below hA3.below)
  have hHA3 := hide hA3
  clear hA3 hp0 hb2 HBl
  go_wp2
  generalize w2.alloc (.cells #[.int .i64 (W : Int), .int .i64 (H : Int), .slice (some ⟨g0, 0, none⟩) M cg0] 32) = w3 at *
  obtain ⟨hs3, kO, hb3⟩ := unhide hHA3
  obtain ⟨O, hO⟩ : ∃ O, O = w2.heap.size := ⟨_, rfl⟩
  have k0 := blk_below k0 hb3 (by omega)
  have k1 := blk_below k1 hb3 (by omega)
  have HB := hide ((unhide HB).trans (hb3.mono (by omega)))
  rw [← hO] at kO hs3 ⊢
  have hBO : B + 2 ≤ O := by omega
  clear hHA3 hb3 hs1 hs2 hO hg0
  go_loopw [4] (fun iv wr => ∃ (i g co : Nat) (P : Nat → Px), i ≤ n ∧ iv = .int .i64 (i : Int) ∧ Hid (Below B w wr) ∧ Hid (IsPx wr (some ⟨g, 0, none⟩) M P) ∧ Hid (∀ x y, x < W → y < H → P (y * W + x) = seenP L i x y) ∧ wr.heap[B]? = some (.cells #[.int .i64 (W : Int), .int .i64 (H : Int), .slice s n c] 24) ∧ wr.heap[B + 1]? = some (.cells #[.int .i64 0, .int .i64 0, .slice none 0 0] 32) ∧ wr.heap[O]? = some (.cells #[.int .i64 (W : Int), .int .i64 (H : Int), .slice (some ⟨g, 0, none⟩) M co] 32)) (fun iv _ => n - (intOf iv).toNat)
  case atStart => exact ⟨0, g0, cg0, _, by omega, rfl, HB, HP0, fun x y _ _ => rfl, k0, k1, kO⟩
  case round =>
    clear HB HP0 k0 k1 kO hs3
    obtain ⟨i, g, co, P, hi, rfl, HB, HPx, HV, k0, k1, kO⟩ := hrel
    have hlO : O < wr.heap.size := blk_lt kO
    have hlB : B < wr.heap.size := by omega
    have c2 : wr.cell? ⟨B, 2, none⟩ = some (.slice s n c) := blk_cell k0 2
    by_cases hlt : i < n
    · have g1 : decide ((i : Int) < (n : Int)) = true := decide_eq_true (by omega)
      have g1n : decide (i < n) = true := decide_eq_true hlt
      obtain ⟨b, off, rfl, hm, hc⟩ := (unhide HL _ (unhide HB)).row.resolve_left (by omega)
      have HPi := hide (fun wr hb => (unhide HL wr hb).px i hlt)
      obtain ⟨l0, l1, l2, l3, l4, l5, l6, l7, l8⟩ := hc i hlt
      have ha1 : (i : Int) < (n : Int) := by omega
      have hRi := unhide HR i hlt
      obtain ⟨⟨px, py, po, pm⟩, r1, r2, r3⟩ := hRi
      have HLay := hide (lay_stamp (L i) W)
      have HHid := hide (lay_hid (L i))
      have HCln : Hid (∀ x y, x < W → y < H → Cln (P (y * W + x))) := fun x y hx hy => by rw [unhide HV x y hx hy]; exact cln_seen L i x y
      have HSn : Hid (∀ x y, x < W → y < H → seenP L (i + 1) x y = lay (L i) x y (P (y * W + x))) := fun x y hx hy => by rw [unhide HV x y hx hy]; rfl
      clear hc hm HV
      obtain ⟨l, hl⟩ : ∃ l, l = L i := ⟨_, rfl⟩
      rw [← hl] at l0 l1 l2 l3 l4 l5 l6 l7 l8 px py po pm r1 r2 r3 HLay HHid HSn HPi
      clear hl
      obtain ⟨nm, X, Y, hid, op, mo', wd, hg, m, q⟩ := l
      simp only at l0 l1 l2 l3 l4 l5 l6 l7 l8 px py po pm r1 r2 r3 HPi
      obtain ⟨QW, rfl⟩ := Int.eq_ofNat_of_zero_le (show 0 ≤ wd by omega)
      obtain ⟨QH, rfl⟩ := Int.eq_ofNat_of_zero_le (show 0 ≤ hg by omega)
      obtain ⟨o, rfl⟩ := Int.eq_ofNat_of_zero_le po.1
      obtain ⟨mo, rfl⟩ := Int.eq_ofNat_of_zero_le pm.1
      have hmm : m = QW * QH := by
        have : (m : Int) = ((QW * QH : Nat) : Int) := by rw [r3]; simp
        omega
      have hml : m ≤ 65536 := by rw [hmm]; exact Nat.mul_le_mul (show QW ≤ 256 by omega) (show QH ≤ 256 by omega)
      have hm1 : 1 ≤ m := by rw [hmm]; exact Nat.mul_le_mul (show 1 ≤ QW by omega) (show 1 ≤ QH by omega)
      have HMM := hide hmm
      have HNr : Hid (Nr X ∧ Nr Y) := ⟨px, py⟩
      clear px py r3 hmm
      have hA4 := al1 wr (.cells #[.string nm, .int .i64 X, .int .i64 Y, .bool hid, .int .i64 (o : Int), .int .i64 (mo : Int), .int .i64 (QW : Int), .int .i64 (QH : Int), .slice (a i) m (cp i)] 58)
      have hHA4 := hide hA4
      clear hA4
      rcases hid with _ | _
      rotate_left
      · go_wp2
        generalize wr.alloc (.cells #[.string nm, .int .i64 X, .int .i64 Y, .bool true, .int .i64 (o : Int), .int .i64 (mo : Int), .int .i64 (QW : Int), .int .i64 (QH : Int), .slice (a i) m (cp i)] 58) = w4 at *
        obtain ⟨hs4, kL, hb4⟩ := unhide hHA4
        have k0 := blk_below k0 hb4 (by omega)
        have k1 := blk_below k1 hb4 (by omega)
        have kO := blk_below kO hb4 (by omega)
        have HB4 := hide ((unhide HB).trans (hb4.mono (by omega)))
        have HP4 := hide ((unhide HPx).below hb4)
        have HV4 : Hid (∀ x y, x < W → y < H → P (y * W + x) = seenP L (i + 1) x y) := fun x y hx hy => by rw [unhide HSn x y hx hy, unhide HHid x y _ rfl]
        clear hHA4
        go_roundw
        case rel => exact ⟨i + 1, g, co, P, by omega, by go_num, HB4, HP4, HV4, k0, k1, kO⟩
        case measure => simp [intOf]; omega
      go_wp2_with fail
      generalize wr.alloc (.cells #[.string nm, .int .i64 X, .int .i64 Y, .bool false, .int .i64 (o : Int), .int .i64 (mo : Int), .int .i64 (QW : Int), .int .i64 (QH : Int), .slice (a i) m (cp i)] 58) = w4 at *
      obtain ⟨hs4, kL, hb4⟩ := unhide hHA4
      obtain ⟨Q, hQ⟩ : ∃ Q, Q = wr.heap.size := ⟨_, rfl⟩
      have k0 := blk_below k0 hb4 (by omega)
      have k1 := blk_below k1 hb4 (by omega)
      have kO := blk_below kO hb4 (by omega)
      have HB4 := hide ((unhide HB).trans (hb4.mono (by omega)))
      have HP4 := hide ((unhide HPx).below hb4)
      rw [← hQ] at kL hs4 hlO ⊢
      clear hHA4 hb4 HB HPx hQ l0 l1 l2 l3 l4 l5 l6 l7 l8 c2 hlB HHid
      refine (own_rowP (QW : Int) (QH : Int) (a i) m (cp i) q w4 (unhide HPi _ (unhide HB4)) (by omega) hm1).mono ?_
      rintro e w5 ⟨gq, cq, rfl, hgq, hpr, hb5⟩
      have hs5 := hb5.size
      have k0 := blk_below k0 hb5 (by omega)
      have k1 := blk_below k1 hb5 (by omega)
      have kO := blk_below kO hb5 (by omega)
      have kL := blk_below kL hb5 (by omega)
      have HB5 := hide ((unhide HB4).trans (hb5.mono (by omega)))
      have hg4 : g < w4.heap.size := (unhide HP4).lt _ rfl (by omega)
      have HP5 := hide ((unhide HP4).below hb5)
      have hA6 := al1 w5 (.cells #[.int .i64 (QW : Int), .int .i64 (QH : Int), .slice (some ⟨gq, 0, none⟩) m cq] 32)
      have HPR6 := hide (hpr.below hA6.below hpr.lt)
      have hgq5 := hpr.lt
      have hHA6 := hide hA6
      clear hA6 hpr hb5 HB4 HP4 HPi HL
      go_wp2
      generalize w5.alloc (.cells #[.int .i64 (QW : Int), .int .i64 (QH : Int), .slice (some ⟨gq, 0, none⟩) m cq] 32) = w6 at *
      obtain ⟨hs6, kP, hb6⟩ := unhide hHA6
      obtain ⟨T, hT⟩ : ∃ T, T = w5.heap.size := ⟨_, rfl⟩
      have k0 := blk_below k0 hb6 (by omega)
      have k1 := blk_below k1 hb6 (by omega)
      have kO := blk_below kO hb6 (by omega)
      have kL := blk_below kL hb6 (by omega)
      have HB6 := hide ((unhide HB5).trans (hb6.mono (by omega)))
      have HP6 := hide ((unhide HP5).below hb6)
      rw [← hT] at kP hs6 hgq5 ⊢
      have hQT : Q < T := by omega
      have hOQ : O < Q := by omega
      have hggq : g < gq := by omega
      have hQgq : Q < gq := by omega
      clear hHA6 hb6 HB5 HP5 hT hs5 hs4 hgq hg4 hlO
      go_loopw [7] (fun kv wz => ∃ k : Nat, k ≤ m ∧ kv = .int .i64 (k : Int) ∧ Hid (PR wz gq m (fadK q o k)) ∧ Hid (Below B w wz) ∧ Hid (∀ b, b < w6.heap.size → b ≠ gq → wz.heap[b]? = w6.heap[b]?) ∧ w6.heap.size ≤ wz.heap.size) (fun kv _ => m - (intOf kv).toNat)
      case atStart => exact ⟨0, by omega, rfl, (unhide HPR6).congr (fun j hj => by unfold fadK; rw [if_neg (by omega)]), HB6, fun b _ _ => rfl, Nat.le_refl _⟩
      case round =>
        clear HPR6 HB6
        obtain ⟨k, hk, rfl, HPR, HBz, HK, hsz⟩ := hrel
        have kPz := (unhide HK T (by omega) (by omega)).trans kP
        have kLz := (unhide HK Q (by omega) (by omega)).trans kL
        have t0 : wr.cell? ⟨T, 0, none⟩ = some (.int .i64 (QW : Int)) := blk_cell kPz 0
        have t1 : wr.cell? ⟨T, 1, none⟩ = some (.int .i64 (QH : Int)) := blk_cell kPz 1
        have t2 : wr.cell? ⟨T, 2, none⟩ = some (.slice (some ⟨gq, 0, none⟩) m cq) := blk_cell kPz 2
        obtain ⟨⟨l0, l1, l2, l3, l4⟩, l5, l6, l7, l8⟩ := nine kLz
        have hlT : T < wr.heap.size := by omega
        have hlQ : Q < wr.heap.size := by omega
        by_cases hlk : k < m
        · have g2 : decide ((k : Int) < (m : Int)) = true := decide_eq_true (by omega)
          have g2n : decide (k < m) = true := decide_eq_true hlk
          have hkm : (k : Int) < (m : Int) := by omega
          have hvk : fadK q o k k = q k := fadK_at q o k
          have HPU := hide (fadK_put q o k)
          obtain ⟨p0, p1, p2, p3⟩ := (unhide HPR).px k hlk
          rw [hvk] at p0 p1 p2 p3
          have HF := hide (fun wr => fadeOf_any (q k) o wr (by omega))
          have hfr := fun j => (unhide HPR).fr j
          have hlg : gq < wr.heap.size := (unhide HPR).lt
          generalize q k = v at *
          generalize fadeP v o = nv at *
          unfold Px.val at HF
          have hdr := (Below.refl wr.heap.size wr).drew
          have KS := hide (fun (w' : World) (h : Below wr.heap.size wr w') => (⟨(h.cell (p := ⟨T, 2, none⟩) hlT).trans t2, (h.cell (p := ⟨Q, 4, none⟩) hlQ).trans l4⟩ : w'.cell? ⟨T, 2, none⟩ = some (.slice (some ⟨gq, 0, none⟩) m cq) ∧ w'.cell? ⟨Q, 4, none⟩ = some (.int .i64 (o : Int))))
          go_wp2
          refine wp_region_held_drew (S := fun w' => w'.cell? ⟨T, 2, none⟩ = some (.slice (some ⟨gq, 0, none⟩) m cq) ∧ w'.cell? ⟨Q, 4, none⟩ = some (.int .i64 (o : Int))) (by kernel_rfl) (unhide KS _ hdr) (fun hHeld => ?_)
          refine wpAnyH_take (i := 0) (v := .pointer (some ⟨T, 2, none⟩)) rfl (by kernel_rfl) (by kernel_rfl) (by kernel_rfl) (fun _ _ _ h => h) (Or.inl ⟨by rfl, ?_⟩) hHeld ?_
          · intro w' hSw
            try dsimp only at hSw
            go_simp
          simp only [Act.put, List.setIfInBounds_toArray]
          refine wpAnyH_take (i := 1) (v := .slice (some ⟨gq, 0, none⟩) m cq) rfl (by kernel_rfl) (by kernel_rfl) (by kernel_rfl) (fun _ _ _ h => h) (Or.inl ⟨by rfl, ?_⟩) hHeld ?_
          · intro w' hSw
            try dsimp only at hSw
            go_simp
          simp only [Act.put]
          refine wpAnyH_take (i := 2) (v := .int .i64 (k : Int)) rfl (by kernel_rfl) (by kernel_rfl) (by kernel_rfl) (fun _ _ _ h => h) (Or.inl ⟨by rfl, ?_⟩) hHeld ?_
          · intro w' hSw
            try dsimp only at hSw
            go_simp
          simp only [Act.put]
          refine wpAnyH_take (i := 3) (v := .pointer (some ⟨T, 2, none⟩)) rfl (by kernel_rfl) (by kernel_rfl) (by kernel_rfl) (fun _ _ _ h => h) (Or.inl ⟨by rfl, ?_⟩) hHeld ?_
          · intro w' hSw
            try dsimp only at hSw
            go_simp
          simp only [Act.put]
          refine wpAnyH_take (i := 4) (v := .slice (some ⟨gq, 0, none⟩) m cq) rfl (by kernel_rfl) (by kernel_rfl) (by kernel_rfl) (fun _ _ _ h => h) (Or.inl ⟨by rfl, ?_⟩) hHeld ?_
          · intro w' hSw
            try dsimp only at hSw
            go_simp
          simp only [Act.put]
          refine wpAnyH_take (i := 5) (v := .int .i64 (k : Int)) rfl (by kernel_rfl) (by kernel_rfl) (by kernel_rfl) (fun _ _ _ h => h) (Or.inl ⟨by rfl, ?_⟩) hHeld ?_
          · intro w' hSw
            try dsimp only at hSw
            go_simp
          simp only [Act.put]
          refine wpAnyH_take (i := 6) (v := .pointer (some ⟨gq, k * 4, none⟩)) rfl (by kernel_rfl) (by kernel_rfl) (by kernel_rfl) (fun _ _ _ h => h) (Or.inl ⟨by rfl, ?_⟩) hHeld ?_
          · intro w' hSw
            try dsimp only at hSw
            go_simp
          simp only [Act.put]
          refine wpAnyH_take (i := 8) (v := .pointer (some ⟨Q, 4, none⟩)) rfl (by kernel_rfl) (by kernel_rfl) (by kernel_rfl) (fun _ _ _ h => h) (Or.inl ⟨by rfl, ?_⟩) hHeld ?_
          · intro w' hSw
            try dsimp only at hSw
            go_simp
          simp only [Act.put]
          refine wpAnyH_take (i := 9) (v := .int .i64 (o : Int)) rfl (by kernel_rfl) (by kernel_rfl) (by kernel_rfl) (fun _ _ _ h => h) (Or.inl ⟨by rfl, ?_⟩) hHeld ?_
          · intro w' hSw
            try dsimp only at hSw
            go_simp
          simp only [Act.put]
          refine wpAnyH_ready (rs := [7]) (by kernel_rfl) (by simp) ?_
          refine AllReadyH.cons rfl (fun K hK => ?_) AllReadyH.nil
          go_simp
          refine hK.out _ _ (unhide KS _ hdr) (fun hHeld => ?_)
          clear hK K
          try simp only [Act.put, List.setIfInBounds_toArray, List.set_cons_zero, List.set_cons_succ]
          refine wpAnyH_ready (rs := [10]) (by kernel_rfl) (by simp) ?_
          refine AllReadyH.cons rfl (fun K hK => ?_) AllReadyH.nil
          go_simp
          go_wp2_with (first | (go_at_call 36; refine (unhide HF _).mono ?_; rintro e w2 ⟨rfl, hb2⟩; have hq2 := hdr.trans (hb2.mono (by exact Nat.le_refl _))))
          refine hK.out _ _ (unhide KS _ hq2) (fun hHeld => ?_)
          clear hK K
          try simp only [Act.put, List.setIfInBounds_toArray, List.set_cons_zero, List.set_cons_succ]
          refine wpAnyH_take (i := 11) (v := .pointer (some ⟨gq, k * 4, none⟩)) rfl (by kernel_rfl) (by kernel_rfl) (by kernel_rfl) (fun _ _ _ h => h) (Or.inl ⟨by rfl, ?_⟩) hHeld ?_
          · intro w' hSw
            try dsimp only at hSw
            go_simp
          simp only [Act.put, List.setIfInBounds_toArray]
          refine wpAnyH_ready (rs := [12]) (by kernel_rfl) (by simp) ?_
          refine AllReadyH.cons rfl (fun K hK => ?_) AllReadyH.nil
          have HPR2 := hide ((unhide HPR).below hq2 hlg)
          have hlg2 := (unhide HPR2).lt
          obtain ⟨e0, e1, e2, e3⟩ := (unhide HPR2).px k hlk
          have f0 := (unhide HPR2).fr (k * 4)
          have f1 := (unhide HPR2).fr (k * 4 + 1)
          have f2 := (unhide HPR2).fr (k * 4 + 2)
          have f3 := (unhide HPR2).fr (k * 4 + 3)
          have hKS2 := unhide KS _ hq2
          go_simp
          refine hK.out _ _ ⟨(far4g _ _ _ _ _ _ _ _ _ _ _ _ (show gq ≠ T by omega)).trans hKS2.1, (far4g _ _ _ _ _ _ _ _ _ _ _ _ (show gq ≠ Q by omega)).trans hKS2.2⟩ (fun hHeld => ?_)
          clear hK K
          refine wpAnyH_done (by kernel_rfl) ?_ _
          have HPR3 := hide ((unhide HPR2).put hlk nv)
          rw [unhide HPU] at HPR3
          have HB3 := hide (put4_below (o := k * 4) ((unhide HBz).trans (hq2.mono (show B ≤ wr.heap.size by omega))) (show B ≤ gq by omega) nv)
          have HK3 : Hid (∀ b, b < w6.heap.size → b ≠ gq → (put4 w2 gq (k * 4) nv).heap[b]? = w6.heap[b]?) := fun b hb hn => (put4_blk hn).trans ((hq2.block b (by omega)).trans (unhide HK b hb hn))
          have hs3' : w6.heap.size ≤ (put4 w2 gq (k * 4) nv).heap.size := by rw [put4_size]; have := hq2.size; omega
          clear HPR HPR2 HBz HK hq2 hb2 e0 e1 e2 e3 f0 f1 f2 f3 hKS2 KS hdr HF hfr p0 p1 p2 p3 l0 l1 l2 l3 l4 l5 l6 l7 l8 t0 t1 t2 kPz kLz
          unfold put4 at HPR3 HB3 HK3 hs3'
          generalize (((w2.setCell ⟨gq, k * 4, none⟩ (.int .u8 (nv.r.toNat : Int))).setCell ⟨gq, k * 4 + 1, none⟩ (.int .u8 (nv.g.toNat : Int))).setCell ⟨gq, k * 4 + 2, none⟩ (.int .u8 (nv.b.toNat : Int))).setCell ⟨gq, k * 4 + 3, none⟩ (.int .u8 (nv.a.toNat : Int)) = w7 at *
          go_wp2
          go_roundw
          case rel => exact ⟨k + 1, by omega, by go_num, HPR3, HB3, HK3, hs3'⟩
          case measure => simp [intOf]; omega
        · obtain rfl : k = m := by omega
          have g2 : decide ((k : Int) < (k : Int)) = false := by simp
          have hgl : g < w6.heap.size := (unhide HP6).lt _ rfl (by omega)
          have kOz := (unhide HK O (by omega) (by omega)).trans kO
          have k0z := (unhide HK B (by omega) (by omega)).trans k0
          have k1z := (unhide HK (B + 1) (by omega) (by omega)).trans k1
          have HPz := hide (isPx_block (unhide HP6) (fun x e _ => by injection e with e; subst e; exact unhide HK g hgl (by omega)))
          have HQz := hide ((unhide HPR).isPx (by omega))
          have u0 : wr.cell? ⟨O, 0, none⟩ = some (.int .i64 (W : Int)) := blk_cell kOz 0
          have u1 : wr.cell? ⟨O, 1, none⟩ = some (.int .i64 (H : Int)) := blk_cell kOz 1
          have u2 : wr.cell? ⟨O, 2, none⟩ = some (.slice (some ⟨g, 0, none⟩) M co) := blk_cell kOz 2
          have hlO : O < wr.heap.size := by omega
          have HSi := hide (unhide HSt QW QH mo X Y (some ⟨g, 0, none⟩) (some ⟨gq, 0, none⟩) co k cq P (fadK q o k) wr (unhide HPz) (by omega) (by omega) (unhide HMM) (unhide HQz) (by omega) (unhide HNr))
          clear HPR HK HP6 HPz HQz kPz kLz kP kL k0 k1 kO
          go_wp2_with fail
          refine (unhide HSi).mono ?_
          rintro e w7 ⟨g2', c7, rfl, hpr7, hb7⟩
          have hs7 := hb7.size
          have k0z := blk_below k0z hb7 (by omega)
          have k1z := blk_below k1z hb7 (by omega)
          have kOz := blk_below kOz hb7 (by omega)
          have HB7 := hide ((unhide HBz).trans (hb7.mono (by omega)))
          have hPx7 := hpr7.isPx (by omega)
          have hne : g2' ≠ O := px_not_pic kOz (hpr7.px 0 (by omega))
          have HX8 := hide (isPx_block (w' := put3p w7 O (.int .i64 (W : Int)) (.int .i64 (H : Int)) (.slice (some ⟨g2', 0, none⟩) M c7)) hPx7 (fun x e _ => by injection e with e; subst e; exact put3p_far _ _ _ _ _ _ hne))
          have HV8 : Hid (∀ x y, x < W → y < H → grid W (fun x y => stG W QW QH mo X Y P (fadK q o k) x y) (y * W + x) = seenP L (i + 1) x y) := fun x y hx hy => by
            rw [unhide HGA _ x y hx, unhide HSn x y hx hy]
            exact unhide HLay QW QH mo x y P (fadK q o k) (by first | rfl | trivial) ⟨by omega, by omega⟩ (by first | rfl | trivial) (by first | rfl | trivial) (by first | rfl | trivial) (fun j hj => by unfold fadK; rw [if_pos (by rw [unhide HMM]; exact hj)]; rfl) (unhide HCln x y hx hy)
          have kO8 := put3p_at kOz (.int .i64 (W : Int)) (.int .i64 (H : Int)) (.slice (some ⟨g2', 0, none⟩) M c7)
          have k08 := (put3p_far w7 O B (.int .i64 (W : Int)) (.int .i64 (H : Int)) (.slice (some ⟨g2', 0, none⟩) M c7) (by omega)).trans k0z
          have k18 := (put3p_far w7 O (B + 1) (.int .i64 (W : Int)) (.int .i64 (H : Int)) (.slice (some ⟨g2', 0, none⟩) M c7) (by omega)).trans k1z
          have HB8 := hide (put3p_below (unhide HB7) (show B ≤ O by omega) (.int .i64 (W : Int)) (.int .i64 (H : Int)) (.slice (some ⟨g2', 0, none⟩) M c7))
          obtain ⟨⟨v0, v1, v2⟩, f0, f1, f2⟩ := three kOz
          have hlO7 : O < w7.heap.size := by omega
          clear HSi HBz hpr7 hb7 hPx7 k0z k1z kOz HB7 l0 l1 l2 l3 l4 l5 l6 l7 l8 t0 t1 t2 u0 u1 u2 HLay HSn HCln
          unfold put3p at HX8 kO8 k08 k18 HB8
          generalize grid W (fun x y => stG W QW QH mo X Y P (fadK q o k) x y) = P8 at *
          go_wp2
          generalize ((w7.setCell ⟨O, 0, none⟩ (.int .i64 (W : Int))).setCell ⟨O, 1, none⟩ (.int .i64 (H : Int))).setCell ⟨O, 2, none⟩ (.slice (some ⟨g2', 0, none⟩) M c7) = w8 at *
          go_roundw
          case rel => exact ⟨i + 1, g2', c7, P8, by omega, by go_num, HB8, HX8, HV8, k08, k18, kO8⟩
          case measure => simp [intOf]; omega
    · obtain rfl : i = n := by omega
      have g1 : decide ((i : Int) < (i : Int)) = false := by simp
      have u0 : wr.cell? ⟨O, 0, none⟩ = some (.int .i64 (W : Int)) := blk_cell kO 0
      have u1 : wr.cell? ⟨O, 1, none⟩ = some (.int .i64 (H : Int)) := blk_cell kO 1
      have u2 : wr.cell? ⟨O, 2, none⟩ = some (.slice (some ⟨g, 0, none⟩) M co) := blk_cell kO 2
      obtain ⟨⟨v0, v1, v2⟩, f0, f1, f2⟩ := three k1
      have hlB1 : B + 1 < wr.heap.size := by omega
      have hIs := (unhide HPx).congr (fun j hj => unhide HGI P (unhide HV) j hj)
      have hne : g ≠ B + 1 := by
        obtain ⟨b', off', e, _, hc⟩ := hIs.resolve_left (by omega)
        injection e with e
        injection e with e1 e2
        subst e1
        exact px_not_pic k1 (hc 0 (by omega))
      have HX9 := hide (isPx_block (w' := put3p wr (B + 1) (.int .i64 (W : Int)) (.int .i64 (H : Int)) (.slice (some ⟨g, 0, none⟩) M co)) hIs (fun x e _ => by injection e with e; subst e; exact put3p_far _ _ _ _ _ _ hne))
      have HB9 := hide (put3p_below (unhide HB) (show B ≤ B + 1 by omega) (.int .i64 (W : Int)) (.int .i64 (H : Int)) (.slice (some ⟨g, 0, none⟩) M co))
      unfold put3p at HX9 HB9
      clear hIs HPx HB HV HGI HL HR k0 k1 kO
      go_wp2
      refine bodyPost_ret (v := .agg #[.int .i64 (W : Int), .int .i64 (H : Int), .slice (some ⟨g, 0, none⟩) M co]) ?_ rfl ⟨g, co, rfl, unhide HX9, ?_⟩
      · rw [results_c (p := 2) (ty := 32) (by kernel_rfl)]
        go_simp
      · rw [← unhide HBE]
        exact unhide HB9
end Go.Proofs.YtjhnneplknhmkajDoor
