/- Unlike pixels of a picture, and the number of each: the document's. -/
import Derived.Test.YtjcoahahponabaaGreatDoorMh4
import Derived.Test.YtjcoahahponabaaGreatDoorMh1
namespace Go.Proofs.YtjcoahahponabaaGreatDoor
open Go.RowKit

theorem idx_at {l : List Px} {x : Px} {k : Nat} (h : l[k]? = some x) (hb : ∀ j, j < k → l[j]? ≠ some x) : l.idxOf x = k := by
  induction l generalizing k with
  | nil => simp at h
  | cons y l ih =>
    match k with
    | 0 => simp at h; subst h; simp
    | k + 1 =>
      have h0 := hb 0 (by omega)
      simp at h0
      have hne : (y == x) = false := by simpa using h0
      rw [List.idxOf_cons, hne]
      simp only [cond_false]
      rw [ih (by simpa using h) (fun j hj => by have := hb (j + 1) (by omega); simpa using this)]
theorem not_in {l : List Px} {x : Px} (hb : ∀ j, j < l.length → l[j]? ≠ some x) : x ∉ l := fun h => by
  obtain ⟨j, hj, e⟩ := List.getElem_of_mem h
  exact hb j hj (by rw [List.getElem?_eq_getElem hj, e])
/-- The numbers of the first pixels. -/
def nmL (p : Nat → Px) (n : Nat) : List Nat := (List.range n).map (nmb p)
theorem nmL_succ (p : Nat → Px) (n : Nat) : nmL p (n + 1) = nmL p n ++ [nmb p n] := by unfold nmL; rw [List.range_succ, List.map_append]; rfl
theorem nmL_length (p : Nat → Px) (n : Nat) : (nmL p n).length = n := by unfold nmL; rw [List.length_map, List.length_range]

theorem app_n2 (w : World) (base q : Nat) (v : Value) (l : List Nat) (x : Nat) (t : TypeId) (hown : w.ownsRow base 3 1 v l.length (nV l)) (hq : w.cell? ⟨q, 0, none⟩ = some (.int .i64 (x : Int))) (hl : l.length ≤ 1000000) (hb : base ≤ w.heap.size) :
    ∃ v' w', (Builtin.append_ #[96, 96] t #[v, .slice (some ⟨q, 0, none⟩) 1 1]).run Tryz.prog w = .ok v' w' ∧ w'.ownsRow base 3 1 v' (l ++ [x]).length (nV (l ++ [x])) ∧ w.grownBy w' v.ownBlock ∧ (v'.ownBlock = v.ownBlock ∨ v'.ownBlock = some w.heap.size) := by
  obtain ⟨i0, hi, hz0, hz1, hz2⟩ := info_parts info_int
  obtain ⟨v', w', a1, a2, a3, _, a5⟩ := run_append_own_at (P := Tryz.prog) w base 96 t 3 i0 (.int .i64 0) 1 8 Tryz.underlying96 hi hz0 hz1 hz2 rfl (by omega) v l.length (nV l) hown ⟨q, 0, none⟩ 1 1 [.int .i64 (x : Int)] rfl (fun j u hj => by
    match j, hj with
    | 0, hj => rw [addr_add, Nat.zero_add, hq]; simpa using hj) (fun u hu => by rw [List.mem_singleton] at hu; subst hu; rfl) (by unfold maxLen; omega) (by omega) hb
  refine ⟨v', w', a1, ?_, a3, a5⟩
  rw [nV_append, List.length_append]
  exact a2
theorem wpList_appN2 (w : World) {ops : Array Oper} {rest : List Oper} {o : Oper} {a : Act} {Q : Exit → Act → World → Prop} (hgd : o.guard = none) (s x : Operand)
    (ho : o.op = .call { callee := .builtin .append, args := #[s, x], argTypes := #[96, 96] }) (base q : Nat) (v : Value) (l : List Nat) (y : Nat) (hs : a.eval s = v) (hx : a.eval x = .slice (some ⟨q, 0, none⟩) 1 1)
    (hown : w.ownsRow base 3 1 v l.length (nV l)) (hq : w.cell? ⟨q, 0, none⟩ = some (.int .i64 (y : Int))) (hl : l.length ≤ 1000000) (hb : base ≤ w.heap.size)
    (h : ∀ v' w', w'.ownsRow base 3 1 v' (l ++ [y]).length (nV (l ++ [y])) → w.grownBy w' v.ownBlock → (v'.ownBlock = v.ownBlock ∨ v'.ownBlock = some w.heap.size) → wpList Tryz.prog ops Q rest (a.put o.dst v') w') : wpList Tryz.prog ops Q (o :: rest) a w := by
  obtain ⟨v', w', a1, a2, a3, a4⟩ := app_n2 w base q v l y o.type hown hq hl hb
  refine wpList_plain hgd fun _ hK => ?_
  unfold Oper.wp execOp
  simp only [ho, resolve, invoke, builtin, Sem.run_bind, Sem.run_pure, Result.andThen_ok, List.map_toArray, List.map_cons, List.map_nil, hs, hx, a1]
  exact hK _ _ (h v' w' a2 a3 a4)

set_option maxHeartbeats 4000000 in
set_option maxRecDepth 100000 in
theorem unlike_any (W H : Int) (a : Option Addr) (n c : Nat) (p : Nat → Px) (w : World) (hP : IsPx w a n p) (hn : n ≤ 100000) :
    Calls Tryz.prog 66 #[.agg #[.int .i64 W, .int .i64 H, .slice a n c]] w fun e w' => ∃ a1 c1 a2 c2, e = .returned (.tuple #[.slice a1 (ulk p n).length c1, .slice a2 n c2]) ∧ (w'.ownsRow w.heap.size 78 4 (.slice a1 (ulk p n).length c1) (ulk p n).length (pxL (ulk p n)) ∧ w'.ownsRow w.heap.size 3 1 (.slice a2 n c2) n (nV (nmL p n))) ∧ Below w.heap.size w w' := by
  have HA := hide (al1 w (.cells #[.int .i64 W, .int .i64 H, .slice a n c] 27))
  have HP := hide (fun w1 (h : Below w.heap.size w w1) => hP.below h)
  obtain ⟨B, hB⟩ : ∃ B, B = w.heap.size := ⟨_, rfl⟩
  clear hP
  go_enter Tryz.func66, Tryz.ntmps66
  go_wp2
  generalize w.alloc (.cells #[.int .i64 W, .int .i64 H, .slice a n c] 27) = w1 at *
  rw [← hB] at HA HP ⊢
  obtain ⟨hs1, k0, hb1⟩ := unhide HA
  have HU0 : Hid (w1.ownsRow (B + 1) 78 4 (.slice none 0 0) (ulk p 0).length (pxL (ulk p 0))) := World.ownsRow_nil _ _ _ _
  have HN0 : Hid (w1.ownsRow (B + 1) 3 1 (.slice none 0 0) (nmL p 0).length (nV (nmL p 0))) := World.ownsRow_nil _ _ _ _
  have HAP0 : Hid (∀ g, (Value.slice none 0 0).ownBlock = some g → (Value.slice none 0 0).ownBlock ≠ some g) := fun g e => by simp [Value.ownBlock] at e
  have HK0 := hide k0
  have HB0 := hide hb1
  have HBE := hide hB
  have hz1 : B + 1 ≤ w1.heap.size := by omega
  clear HA k0 hb1 hB hs1
  go_loopw [4, 5, 6] (fun uv nv iv wr => ∃ i : Nat, i ≤ n ∧ iv = .int .i64 (i : Int) ∧ Hid (wr.ownsRow (B + 1) 78 4 uv (ulk p i).length (pxL (ulk p i))) ∧ Hid (wr.ownsRow (B + 1) 3 1 nv (nmL p i).length (nV (nmL p i))) ∧ Hid (∀ g, uv.ownBlock = some g → nv.ownBlock ≠ some g) ∧ Hid (wr.heap[B]? = some (.cells #[.int .i64 W, .int .i64 H, .slice a n c] 27)) ∧ Hid (Below B w wr) ∧ B + 1 ≤ wr.heap.size) (fun _ _ iv _ => n - (intOf iv).toNat)
  case atStart => exact ⟨0, Nat.zero_le _, rfl, HU0, HN0, HAP0, HK0, HB0, hz1⟩
  case round =>
    clear HU0 HN0 HAP0 HK0 HB0 hz1
    obtain ⟨i, hi, rfl, HU, HN, HAP, HK, HB, hz⟩ := hrel
    obtain ⟨ua, uc, rfl⟩ := own_shape4 (unhide HU)
    obtain ⟨na, nc, rfl, _⟩ := own_shape (unhide HN)
    have k2 : wr.cell? ⟨B, 2, none⟩ = some (.slice a n c) := blk_cell (unhide HK) 2
    have hul := ulk_len p i
    by_cases hlt : i < n
    · have d1 : decide ((i : Int) < (n : Int)) = true := decide_eq_true (by omega)
      have d1n : decide (i < n) = true := decide_eq_true hlt
      have hii : (i : Int) < (n : Int) := by omega
      have HUS : Hid (ulk p (i + 1) = addP (ulk p i) (p i)) := rfl
      have HNS := hide (nmL_succ p i)
      have HNM : Hid (nmb p i = (addP (ulk p i) (p i)).idxOf (p i)) := rfl
      obtain ⟨ni, hni⟩ : ∃ ni, ni = (nmL p i).length := ⟨_, rfl⟩
      rw [← hni] at HN HAP ⊢
      have HNI := hide hni
      have hnib : ni ≤ 100000 := by rw [hni, nmL_length]; omega
      clear hni
      obtain ⟨bP, oP, rfl, _, hcP⟩ := (unhide HP wr (unhide HB)).resolve_left (by omega)
      obtain ⟨x0, x1, x2, x3⟩ := hcP i hlt
      have HUX : Hid (∀ j, j < (ulk p i).length → ∃ ub, ua = some ⟨ub, 0, none⟩ ∧ PxAt wr ub (j * 4) ((ulk p i).getD j default)) := fun j hj => by
        have h := unhide HU
        rw [pxL_vals] at h
        rcases own_px h (by unfold maxLen; omega) with e | ⟨b, off, e, _, hc⟩
        · omega
        · rcases h.2 with ⟨_, q⟩ | ⟨g, cap, cur, hv, _⟩
          · omega
          · injection hv with hv _ _
            rw [hv] at e
            injection e with e
            injection e with e1 e2 _
            subst e1 e2
            refine ⟨g, hv, ?_⟩
            have := hc j hj
            rw [Nat.zero_add] at this
            exact this
      clear hcP
      generalize hx : p i = x at *
      generalize hl : ulk p i = l at *
      have hmc : IntKind.i64.wrap (l.length : Int) = (l.length : Int) := by rw [IntKind.wrap_i64]; omega
      go_wp2
      go_loopw [7] (fun kv wq => ∃ k nn : Nat, k ≤ l.length ∧ kv = .int .i64 (k : Int) ∧ Hid (∀ j, j < k → l[j]? ≠ some x) ∧ wq = wr.drewN nn) (fun kv _ => l.length - (intOf kv).toNat)
      case atStart => exact ⟨0, 0, Nat.zero_le _, rfl, fun j hj => absurd hj (Nat.not_lt_zero j), rfl⟩
      case round =>
        obtain ⟨k, nn, hk, rfl, HNK, rfl⟩ := hrel
        by_cases hkl : k < l.length
        · have d2 : decide ((k : Int) < (l.length : Int)) = true := decide_eq_true (by omega)
          have d2n : decide (k < l.length) = true := decide_eq_true hkl
          have hki : (k : Int) < (l.length : Int) := by omega
          obtain ⟨ub, rfl, hpk⟩ := unhide HUX k hkl
          have hlk : l[k]? = some (l.getD k default) := by rw [List.getElem?_eq_getElem hkl, List.getD_eq_getElem?_getD, List.getElem?_eq_getElem hkl]; rfl
          have HLK := hide hlk
          obtain ⟨y0, y1, y2, y3⟩ := hpk
          generalize l.getD k default = y at *
          rcases px_parts y x with rfl | ⟨hne, h⟩
          · have HIX : Hid (nmb p i = k) := by
              show _ = _
              rw [unhide HNM]
              have hin : y ∈ l := List.mem_of_getElem? (unhide HLK)
              unfold addP
              rw [if_pos hin]
              exact idx_at (unhide HLK) (unhide HNK)
            have HAD : Hid (addP l y = l) := by show _ = _; unfold addP; exact if_pos (List.mem_of_getElem? (unhide HLK))
            have hkb : ¬ (k : Int) = (l.length : Int) := by omega
            have hkd := decide_eq_false hkb
            clear hlk
            go_wp2
            go_quiet (fail)
            have hb2 : Below wr.heap.size wr ((wr.drewN nn).drewN nq) := belowD (belowD (Below.refl _ _))
            generalize (wr.drewN nn).drewN nq = w2 at *
            have HU2 := hide (own_belowP (unhide HU) hb2)
            have HN2 := hide (own_belowP (unhide HN) hb2)
            have HK2 := hide (blk_below (unhide HK) hb2 (blk_lt (unhide HK)))
            have HB2 := hide ((unhide HB).trans (hb2.mono (by omega)))
            have hs2 := hb2.size
            have HU3 := HU2
            have HN3 := HN2
            have HK3 := HK2
            have HB3 := HB2
            have HAP3 := HAP
            clear HU HN HK HB hb2 HU2 HN2 HK2 HB2 HAP x0 x1 x2 x3 y0 y1 y2 y3 k2
            have HQ : Hid ((w2.alloc (.cells #[.int .i64 (k : Int)] 3)).cell? ⟨w2.heap.size, 0, none⟩ = some (.int .i64 (k : Int))) := by
              show _ = _
              rw [World.cell?_alloc_mark]
              rfl
            have hzA : (w2.alloc (.cells #[.int .i64 (k : Int)] 3)).heap.size = w2.heap.size + 1 := by simp
            have HZA := hide hzA
            clear hzA
            have HNB := hide ((unhide HN3).alloc (.cells #[.int .i64 (k : Int)] 3))
            have HUB := hide ((unhide HU3).alloc (.cells #[.int .i64 (k : Int)] 3))
            have HKB := hide (blk_alloc (unhide HK3) (.cells #[.int .i64 (k : Int)] 3))
            have HBB := hide ((unhide HB3).alloc (by omega) (.cells #[.int .i64 (k : Int)] 3))
            go_wp2_with (at_builtin; refine wpList_appN2 _ rfl (.tmp 45) (.tmp 47) rfl (B + 1) w2.heap.size (.slice na ni nc) (nmL p i) k rfl rfl (by rw [← unhide HNI]; exact unhide HNB) (unhide HQ) (by rw [← unhide HNI]; omega) (by have := unhide HZA; omega) ?_)
            intro v6 w6 ho6 hg6 hat6
            have hs6 := hg6.size
            have hsA := unhide HZA
            have HN6 : Hid (w6.ownsRow (B + 1) 3 1 v6 (nmL p (i + 1)).length (nV (nmL p (i + 1)))) := by
              rw [unhide HNS, unhide HIX]
              first | exact ho6 | (rw [List.length_append]; exact ho6)
            have HU6 : Hid (w6.ownsRow (B + 1) 78 4 (.slice (some ⟨ub, 0, none⟩) l.length uc) (ulk p (i + 1)).length (pxL (ulk p (i + 1)))) := by
              rw [unhide HUS, unhide HAD]
              exact own_stay (unhide HUB) (fun g e => hg6.block g ((unhide HUB).lt g e).2 (fun e2 => unhide HAP3 g e e2.symm))
            have HAP6 : Hid (∀ g, (.slice (some ⟨ub, 0, none⟩) l.length uc : Value).ownBlock = some g → v6.ownBlock ≠ some g) := fun g e e6 => by
              rcases hat6 with q | q
              · rw [q] at e6; exact unhide HAP3 g e e6
              · rw [q] at e6
                injection e6 with e6
                have := ((unhide HU3).lt g e).2
                omega
            have HK6 := hide ((hg6.block B (by omega) (fun e => by have := ((unhide HNB).lt B e.symm).1; omega)).trans (unhide HKB))
            have HB6 : Hid (Below B w w6) := (unhide HBB).grown hg6 (by omega) (fun z e => by have := ((unhide HNB).lt z e).1; omega)
            have hz6 : B + 1 ≤ w6.heap.size := by omega
            clear ho6 hg6 hat6 HNB HUB HKB HBB HQ HZA hsA hs6 HU3 HN3 HK3 HB3 HAP3 HIX HAD HUS HNS HNM HUX HNK HNI
            go_wp2
            go_roundw
            case rel => exact ⟨i + 1, by omega, by go_num, HU6, HN6, HAP6, HK6, HB6, hz6⟩
            case measure => simp [intOf]; omega
          · have HN1 : Hid (∀ j, j < k + 1 → l[j]? ≠ some x) := fun j hj => by
              rcases Nat.lt_succ_iff_lt_or_eq.1 hj with h2 | rfl
              · exact unhide HNK j h2
              · rw [unhide HLK]; exact fun e => hne (by injection e)
            clear hne hlk
            generalize (x.r.toNat : Int) = q0 at *
            generalize (x.g.toNat : Int) = q1 at *
            generalize (x.b.toNat : Int) = q2 at *
            generalize (x.a.toNat : Int) = q3 at *
            generalize (y.r.toNat : Int) = r0 at *
            generalize (y.g.toNat : Int) = r1 at *
            generalize (y.b.toNat : Int) = r2 at *
            generalize (y.a.toNat : Int) = r3 at *
            rcases h with h | ⟨rfl, h⟩ | ⟨rfl, rfl, h⟩ | ⟨rfl, rfl, rfl, h⟩
            all_goals
              have h' := decide_eq_false h
              go_wp2
              go_quiet (fail)
              go_wp2
              go_roundw
              case rel => exact ⟨k + 1, _, by omega, by go_num, HN1, rfl⟩
              case measure => simp [intOf]; omega
        · obtain rfl : k = l.length := by omega
          have d2 : decide ((l.length : Int) < (l.length : Int)) = false := by simp
          have hni : x ∉ l := not_in (unhide HNK)
          have HIX : Hid (nmb p i = l.length) := by
            show _ = _
            rw [unhide HNM]
            unfold addP
            rw [if_neg hni]
            exact idx_new hni
          have HAD : Hid (addP l x = l ++ [x]) := by show _ = _; unfold addP; exact if_neg hni
          clear hni
          go_wp2
          go_quiet (fail)
          have hb2 : Below wr.heap.size wr ((wr.drewN nn).drewN nq) := belowD (belowD (Below.refl _ _))
          generalize (wr.drewN nn).drewN nq = w2 at *
          have HU2 := hide (own_belowP (unhide HU) hb2)
          have HN2 := hide (own_belowP (unhide HN) hb2)
          have HK2 := hide (blk_below (unhide HK) hb2 (blk_lt (unhide HK)))
          have HB2 := hide ((unhide HB).trans (hb2.mono (by omega)))
          have hs2 := hb2.size
          have k22 : w2.cell? ⟨B, 2, none⟩ = some (.slice (some ⟨bP, oP, none⟩) n c) := blk_cell (unhide HK2) 2
          have hbl := World.block_lt_of_cell? _ _ x0
          simp only at hbl
          have x0 := (hb2.cell (p := ⟨bP, oP + i * 4, none⟩) hbl).trans x0
          have x1 := (hb2.cell (p := ⟨bP, oP + i * 4 + 1, none⟩) hbl).trans x1
          have x2 := (hb2.cell (p := ⟨bP, oP + i * 4 + 2, none⟩) hbl).trans x2
          have x3 := (hb2.cell (p := ⟨bP, oP + i * 4 + 3, none⟩) hbl).trans x3
          have HPX := hide (four_new w2 x 78)
          have hzP : (w2.alloc (.cells #[.int .u8 (x.r.toNat : Int), .int .u8 (x.g.toNat : Int), .int .u8 (x.b.toNat : Int), .int .u8 (x.a.toNat : Int)] 78)).heap.size = w2.heap.size + 1 := by simp
          have HZP := hide hzP
          clear hzP
          have HUB := hide ((unhide HU2).alloc (.cells #[.int .u8 (x.r.toNat : Int), .int .u8 (x.g.toNat : Int), .int .u8 (x.b.toNat : Int), .int .u8 (x.a.toNat : Int)] 78))
          have HNB := hide ((unhide HN2).alloc (.cells #[.int .u8 (x.r.toNat : Int), .int .u8 (x.g.toNat : Int), .int .u8 (x.b.toNat : Int), .int .u8 (x.a.toNat : Int)] 78))
          have HKB := hide (blk_alloc (unhide HK2) (.cells #[.int .u8 (x.r.toNat : Int), .int .u8 (x.g.toNat : Int), .int .u8 (x.b.toNat : Int), .int .u8 (x.a.toNat : Int)] 78))
          have HBB := hide ((unhide HB2).alloc (by omega) (.cells #[.int .u8 (x.r.toNat : Int), .int .u8 (x.g.toNat : Int), .int .u8 (x.b.toNat : Int), .int .u8 (x.a.toNat : Int)] 78))
          go_wp2_with (at_builtin; refine wpList_appPx1 _ rfl (.tmp 37) (.tmp 43) rfl (B + 1) w2.heap.size (.slice ua l.length uc) l x rfl rfl (unhide HUB) (unhide HPX) (by omega) (by have := unhide HZP; omega) ?_)
          intro v5 w5 ho5 hg5 hat5
          have hs5 := hg5.size
          have hsP := unhide HZP
          have HU3 := hide ho5
          have HN3 : Hid (w5.ownsRow (B + 1) 3 1 (.slice na ni nc) ni (nV (nmL p i))) := own_stay (unhide HNB) (fun g e => hg5.block g ((unhide HNB).lt g e).2 (fun e2 => unhide HAP g e2.symm e))
          have HK3 := hide ((hg5.block B (by omega) (fun e => by have := ((unhide HUB).lt B e.symm).1; omega)).trans (unhide HKB))
          have HB3 : Hid (Below B w w5) := (unhide HBB).grown hg5 (by omega) (fun z e => by have := ((unhide HUB).lt z e).1; omega)
          have HAP3 : Hid (∀ g, v5.ownBlock = some g → (Value.slice na ni nc).ownBlock ≠ some g) := fun g e e6 => by
            rcases hat5 with q | q
            · rw [q] at e; exact unhide HAP g e e6
            · rw [q] at e
              injection e with e
              have := ((unhide HN2).lt g e6).2
              omega
          have hs35 : B + 1 ≤ w5.heap.size := by omega
          obtain ⟨ua5, uc5, rfl⟩ := own_shape4 (unhide HU3)
          clear ho5 hg5 hat5 HUB HNB HKB HBB HPX HZP hsP HU HN HK HB hb2 HU2 HN2 HK2 HB2 HAP x0 x1 x2 x3 k2 k22
          have HQ : Hid ((w5.alloc (.cells #[.int .i64 (l.length : Int)] 3)).cell? ⟨w5.heap.size, 0, none⟩ = some (.int .i64 (l.length : Int))) := by
            show _ = _
            rw [World.cell?_alloc_mark]
            rfl
          have hzA : (w5.alloc (.cells #[.int .i64 (l.length : Int)] 3)).heap.size = w5.heap.size + 1 := by simp
          have HZA := hide hzA
          clear hzA
          have HNB := hide ((unhide HN3).alloc (.cells #[.int .i64 (l.length : Int)] 3))
          have HUB := hide ((unhide HU3).alloc (.cells #[.int .i64 (l.length : Int)] 3))
          have HKB := hide (blk_alloc (unhide HK3) (.cells #[.int .i64 (l.length : Int)] 3))
          have HBB := hide ((unhide HB3).alloc (by omega) (.cells #[.int .i64 (l.length : Int)] 3))
          go_wp2_with (at_builtin; refine wpList_appN2 _ rfl (.tmp 45) (.tmp 47) rfl (B + 1) w5.heap.size (.slice na ni nc) (nmL p i) l.length rfl rfl (by rw [← unhide HNI]; exact unhide HNB) (unhide HQ) (by rw [← unhide HNI]; omega) (by have := unhide HZA; omega) ?_)
          intro v6 w6 ho6 hg6 hat6
          have hs6 := hg6.size
          have hsA := unhide HZA
          have HN6 : Hid (w6.ownsRow (B + 1) 3 1 v6 (nmL p (i + 1)).length (nV (nmL p (i + 1)))) := by
            rw [unhide HNS, unhide HIX]
            first | exact ho6 | (rw [List.length_append]; exact ho6)
          have HU6 : Hid (w6.ownsRow (B + 1) 78 4 (.slice ua5 (l.length + 1) uc5) (ulk p (i + 1)).length (pxL (ulk p (i + 1)))) := by
            rw [unhide HUS, unhide HAD, List.length_append]
            exact own_stay (unhide HUB) (fun g e => hg6.block g ((unhide HUB).lt g e).2 (fun e2 => unhide HAP3 g e e2.symm))
          have HAP6 : Hid (∀ g, (.slice ua5 (l.length + 1) uc5 : Value).ownBlock = some g → v6.ownBlock ≠ some g) := fun g e e6 => by
            rcases hat6 with q | q
            · rw [q] at e6; exact unhide HAP3 g e e6
            · rw [q] at e6
              injection e6 with e6
              have := ((unhide HU3).lt g e).2
              omega
          have HK6 := hide ((hg6.block B (by omega) (fun e => by have := ((unhide HNB).lt B e.symm).1; omega)).trans (unhide HKB))
          have HB6 : Hid (Below B w w6) := (unhide HBB).grown hg6 (by omega) (fun z e => by have := ((unhide HNB).lt z e).1; omega)
          have hz6 : B + 1 ≤ w6.heap.size := by omega
          clear ho6 hg6 hat6 HNB HUB HKB HBB HQ HZA hsA hs6 HU3 HN3 HK3 HB3 HAP3 HIX HAD HUS HNS HNM HUX HNK HNI
          go_wp2
          go_roundw
          case rel => exact ⟨i + 1, by omega, by go_num, HU6, HN6, HAP6, HK6, HB6, hz6⟩
          case measure => simp [intOf]; omega
    · obtain rfl : i = n := by omega
      have d1 : decide ((i : Int) < (i : Int)) = false := by simp
      have hnl := nmL_length p i
      rw [hnl] at HN
      have HF := hide (show wr.ownsRow B 78 4 (.slice ua (ulk p i).length uc) (ulk p i).length (pxL (ulk p i)) ∧ wr.ownsRow B 3 1 (.slice na i nc) i (nV (nmL p i)) from ⟨own_rebase (unhide HU) (Nat.le_succ B), own_rebase (unhide HN) (Nat.le_succ B)⟩)
      clear HU HN
      go_wp2
      go_ret2
      rw [← unhide HBE]
      exact ⟨ua, uc, na, nc, by first | rfl | (simp only [hnl]; rfl), unhide HF, unhide HB⟩
end Go.Proofs.YtjcoahahponabaaGreatDoor
