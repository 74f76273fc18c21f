/- The nearest color of each use: the program's. -/
import Derived.Test.YtpfobocdbmiagaaDoorCf2
namespace Go.Proofs.YtpfobocdbmiagaaDoor
open Go.RowKit

/-- The number of the least far color of each use. -/
def nrL (u : Nat → Us) (q : Nat → Px) (m n : Nat) : List Nat := (List.range n).map fun i => lst q (u i).c m
theorem nrL_succ (u : Nat → Us) (q : Nat → Px) (m n : Nat) : nrL u q m (n + 1) = nrL u q m n ++ [lst q (u n).c m] := by unfold nrL; rw [List.range_succ, List.map_append]; rfl
theorem nrL_length (u : Nat → Us) (q : Nat → Px) (m n : Nat) : (nrL u q m n).length = n := by unfold nrL; rw [List.length_map, List.length_range]
theorem nrL_at (u : Nat → Us) (q : Nat → Px) (m n i : Nat) (h : i < n) : (nrL u q m n).getD i 0 = lst q (u i).c m := by
  unfold nrL
  rw [List.getD_eq_getElem?_getD, List.getElem?_map, List.getElem?_range h]
  rfl
/-- How far the uses are, together. -/
def farU (u : Nat → Us) (q : Nat → Px) (m n : Nat) : Nat := sumN (fun i => farP (u i).c (q (lst q (u i).c m)) * (u i).t) n

set_option maxHeartbeats 4000000 in
set_option maxRecDepth 100000 in
theorem nearest_any (a : Option Addr) (n c : Nat) (u : Nat → Us) (b : Option Addr) (m d : Nat) (q : Nat → Px) (w : World) (hU : IsUs w a n u) (hP : IsPx w b (m + 1) q) (hn : n ≤ 70000) (hm : m ≤ 1000) (hS : farU u q m n ≤ 1000000000000) :
    Calls Tryd.prog 33 #[.slice a n c, .slice b (m + 1) d] w fun e w' => ∃ a2 c2, e = .returned (.tuple #[.slice a2 n c2, .int .i64 (farU u q m n : Int)]) ∧ w'.ownsRow w.heap.size 3 1 (.slice a2 n c2) n (nV (nrL u q m n)) ∧ Below w.heap.size w w' := by
  have hmk := make_n0 n (by omega)
  have HU := hide (fun w1 (h : Below w.heap.size w w1) => hU.below h)
  have HP := hide (fun w1 (h : Below w.heap.size w w1) => hP.below h)
  have HC := hide (fun x w' (h : IsPx w' b (m + 1) q) => leastFar_any x b m d q w' h hm)
  have HA := hide (al1 w (.cells (madeCells #[.int .i64 0] n) 3))
  have HN0 : Hid ((w.alloc (.cells (madeCells #[.int .i64 0] n) 3)).ownsRow w.heap.size 3 1 (.slice (some ⟨w.heap.size, 0, none⟩) 0 n) (nrL u q m 0).length (nV (nrL u q m 0))) :=
    World.ownsRow_made w (madeCells #[.int .i64 0] n) n (Nat.le_refl _) (by unfold maxLen; omega) (by simp [madeCells])
  have HSM : Hid (∀ i, i ≤ n → farU u q m i ≤ 1000000000000) := fun i hi => Nat.le_trans (sumN_part _ hi) hS
  obtain ⟨M, hM⟩ : ∃ M, M = m + 1 := ⟨_, rfl⟩
  rw [← hM] at HP HC ⊢
  have hM2 : M ≤ 1001 := by omega
  obtain ⟨B, hB⟩ : ∃ B, B = w.heap.size := ⟨_, rfl⟩
  clear hU hP hS hM
  go_enter Tryd.func33, Tryd.ntmps33
  go_wp2
  generalize w.alloc (.cells (madeCells #[.int .i64 0] n) 3) = w1 at *
  rw [← hB] at HA HU HP HN0 ⊢
  obtain ⟨hs1, _, hb1⟩ := unhide HA
  have HB0 := hide hb1
  have HBE := hide hB
  have hz1 : B ≤ w1.heap.size := by omega
  clear HA hb1 hB hs1 hmk
  go_loopw [4, 5, 15] (fun nv fv iv wr => ∃ i s : Nat, i ≤ n ∧ iv = .int .i64 (i : Int) ∧ fv = .int .i64 (s : Int) ∧ Hid (s = farU u q m i) ∧ Hid (wr.ownsRow B 3 1 nv (nrL u q m i).length (nV (nrL u q m i))) ∧ Hid (Below B w wr) ∧ B ≤ wr.heap.size) (fun _ _ iv _ => n - (intOf iv).toNat)
  case atStart => exact ⟨0, 0, Nat.zero_le _, rfl, rfl, rfl, HN0, HB0, hz1⟩
  case round =>
    clear HN0 HB0 hz1
    obtain ⟨i, s, hi, rfl, rfl, HS, HN, HB, hz⟩ := hrel
    obtain ⟨na, nc, rfl, _⟩ := own_shape (unhide HN)
    by_cases hlt : i < n
    · have d1 : decide ((i : Int) < (n : Int)) = true := decide_eq_true (by omega)
      have d1n : decide (i < n) = true := decide_eq_true hlt
      have hii : (i : Int) < (n : Int) := by omega
      obtain ⟨bP, oP, rfl, _, hcP⟩ := (unhide HU wr (unhide HB)).resolve_left (by omega)
      obtain ⟨⟨x0, x1, x2, x3⟩, x4⟩ := hcP i hlt
      have HNS := hide (nrL_succ u q m i)
      have HSS : Hid (farU u q m (i + 1) = farU u q m i + farP (u i).c (q (lst q (u i).c m)) * (u i).t) := rfl
      have hsb := unhide HSM (i + 1) (by omega)
      rw [unhide HSS, ← unhide HS] at hsb
      have hlb := lst_le q (u i).c m
      have hfb := farP_le (u i).c (q (lst q (u i).c m))
      obtain ⟨ni, hni⟩ : ∃ ni, ni = (nrL u q m i).length := ⟨_, rfl⟩
      rw [← hni] at HN ⊢
      have HNI := hide hni
      have hnib : ni ≤ 70000 := by rw [hni, nrL_length]; omega
      clear hcP hni
      have HCX := hide (unhide HC (u i).c)
      unfold Px.val at HCX
      generalize hx : u i = x at *
      generalize hl : lst q x.c m = k at *
      generalize hf : farP x.c (q k) = f at *
      obtain ⟨z, hz'⟩ : ∃ z, z = f * x.t := ⟨_, rfl⟩
      rw [← hz'] at hsb HSS
      have hzz : (f : Int) * (x.t : Int) = (z : Int) := by rw [hz']; simp
      have hzw : IntKind.i64.wrap (z : Int) = (z : Int) := by rw [IntKind.wrap_i64]; omega
      have hsw : IntKind.i64.wrap ((s : Int) + (z : Int)) = (s : Int) + (z : Int) := by rw [IntKind.wrap_i64]; omega
      clear hz' hx hl hf
      have HA1 := hide (al1 wr (.cells #[.int .u8 (x.c.r.toNat : Int), .int .u8 (x.c.g.toNat : Int), .int .u8 (x.c.b.toNat : Int), .int .u8 (x.c.a.toNat : Int), .int .i64 (x.t : Int)] 42))
      have HN1 := hide ((unhide HN).alloc (.cells #[.int .u8 (x.c.r.toNat : Int), .int .u8 (x.c.g.toNat : Int), .int .u8 (x.c.b.toNat : Int), .int .u8 (x.c.a.toNat : Int), .int .i64 (x.t : Int)] 42))
      go_upto_region 5 with fail
      generalize wr.alloc (.cells #[.int .u8 (x.c.r.toNat : Int), .int .u8 (x.c.g.toNat : Int), .int .u8 (x.c.b.toNat : Int), .int .u8 (x.c.a.toNat : Int), .int .i64 (x.t : Int)] 42) = w2 at *
      obtain ⟨hs2, k2, hb2⟩ := unhide HA1
      have y0 : w2.cell? ⟨wr.heap.size, 0, none⟩ = some (.int .u8 (x.c.r.toNat : Int)) := blk_cell k2 0
      have y1 : w2.cell? ⟨wr.heap.size, 1, none⟩ = some (.int .u8 (x.c.g.toNat : Int)) := blk_cell k2 1
      have y2 : w2.cell? ⟨wr.heap.size, 2, none⟩ = some (.int .u8 (x.c.b.toNat : Int)) := blk_cell k2 2
      have y3 : w2.cell? ⟨wr.heap.size, 3, none⟩ = some (.int .u8 (x.c.a.toNat : Int)) := blk_cell k2 3
      have HB2 := hide ((unhide HB).trans (hb2.mono hz))
      have HK2 := hide k2
      obtain ⟨V, hV⟩ : ∃ V, V = wr.heap.size := ⟨_, rfl⟩
      rw [← hV] at y0 y1 y2 y3 HK2 hs2 ⊢
      have hVB : B ≤ V := by omega
      clear HA1 HN HB hb2 x0 x1 x2 x3 x4 hV k2 hz
      go_wp2_with fail
      refine (unhide HCX _ (unhide HP _ (unhide HB2))).mono ?_
      rintro e w3 ⟨rfl, hb3⟩
      have hz3 := hb3.size
      have HB3 := hide ((unhide HB2).trans (hb3.mono (by omega)))
      have HK3 := hide (blk_below (unhide HK2) hb3 (blk_lt (unhide HK2)))
      have HN3 := hide (own_belowP (unhide HN1) hb3)
      have HA4 := hide (al1 w3 (.cells #[.int .i64 (k : Int)] 3))
      have HQ : Hid ((w3.alloc (.cells #[.int .i64 (k : Int)] 3)).cell? ⟨w3.heap.size, 0, none⟩ = some (.int .i64 (k : Int))) := by
        show _ = _
        rw [World.cell?_alloc_mark]
        rfl
      have HN4 := hide ((unhide HN3).alloc (.cells #[.int .i64 (k : Int)] 3))
      have hVl := blk_lt (unhide HK3)
      clear hb3 HB2 HK2 HN1 HN3 y0 y1 y2 y3 HCX hs2
      go_wp2_with (at_builtin; refine wpList_appN2 _ rfl (.tmp 26) (.tmp 28) rfl B w3.heap.size (.slice na ni nc) (nrL u q m i) k rfl rfl (by rw [← unhide HNI]; exact unhide HN4) (unhide HQ) (by rw [← unhide HNI]; omega) (by have := (unhide HA4).size; omega) ?_)
      intro v6 w6 ho6 hg6 hat6
      obtain ⟨hs4, _, hb4⟩ := unhide HA4
      have hz6 := hg6.size
      have hno : ∀ q, (Value.slice na ni nc).ownBlock = some q → B ≤ q ∧ q ≠ V := fun q e => ⟨((unhide HN4).lt q e).1, fun e2 => by
        subst e2
        rcases (unhide HN4).2 with ⟨hv, _⟩ | ⟨g, c', cur, hv, _, hh, _⟩
        · rw [hv] at e; simp [Value.ownBlock] at e
        · rw [hv] at e
          injection e with e
          subst e
          have hk := blk_alloc (unhide HK3) (.cells #[.int .i64 (k : Int)] 3)
          rw [hh] at hk
          injection hk with hk
          injection hk with _ hk
          exact absurd hk (by decide)⟩
      have HN6 : Hid (w6.ownsRow B 3 1 v6 (nrL u q m (i + 1)).length (nV (nrL u q m (i + 1)))) := by
        show World.ownsRow _ _ _ _ _ _ _
        rw [unhide HNS]
        first | exact ho6 | (rw [List.length_append]; exact ho6)
      have HB6 : Hid (Below B w w6) := ((unhide HB3).trans (hb4.mono (by omega))).grown hg6 (by omega) (fun z e => (hno z e).1)
      have hk6 : w6.heap[V]? = _ := (hg6.block V (by omega) (fun e => (hno V e.symm).2 rfl)).trans (blk_alloc (unhide HK3) (.cells #[.int .i64 (k : Int)] 3))
      have y4 : w6.cell? ⟨V, 4, none⟩ = some (.int .i64 (x.t : Int)) := blk_cell hk6 4
      have hz7 : B ≤ w6.heap.size := by omega
      have HS6 : Hid (s + z = farU u q m (i + 1)) := by show _ = _; rw [unhide HSS, unhide HS]
      clear ho6 hg6 hat6 HN4 HB3 HA4 HQ hno hb4 hs4 hz6 HNS HNI hk6 HK3 HS HSS hz3 hVl
      go_wp2
      go_roundw
      case rel => exact ⟨i + 1, s + z, by omega, by go_num, by go_num, HS6, HN6, HB6, hz7⟩
      case measure => simp [intOf]; omega
    · obtain rfl : i = n := by omega
      have d1 : decide ((i : Int) < (i : Int)) = false := by simp
      have hnl := nrL_length u q m i
      rw [hnl] at HN
      have HF := hide (unhide HN)
      clear HN HSM
      go_wp2
      go_ret2
      rw [← unhide HBE, ← unhide HS]
      exact ⟨na, nc, by first | rfl | (simp only [hnl]; rfl), unhide HF, unhide HB⟩
end Go.Proofs.YtpfobocdbmiagaaDoor
