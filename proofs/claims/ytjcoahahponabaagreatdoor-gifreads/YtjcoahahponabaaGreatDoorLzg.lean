/- Walks of the unpacker of codes: the list grows; a piece again. -/
import Derived.Test.YtjcoahahponabaaGreatDoorMh15
import Derived.Deep.RegionLaw
namespace Go.Proofs.YtjcoahahponabaaGreatDoor
open Go.RowKit Lz

theorem info_pc : (Tryz.prog.info? 251).map (fun i => (i.zero, i.size, i.bytes)) = some (some (.agg #[.int .i64 0, .int .i64 0]), 2, 16) := by kernel_rfl
theorem app_pc (w : World) (base q : Nat) (v : Value) (l : List (Nat × Nat)) (x y : Nat) (t : TypeId) (hown : w.ownsRow base 251 2 v l.length (pcVals l)) (h0 : w.cell? ⟨q, 0, none⟩ = some (.int .i64 (x : Int))) (h1 : w.cell? ⟨q, 1, none⟩ = some (.int .i64 (y : Int))) (hl : l.length ≤ 1000000) (hb : base ≤ w.heap.size) :
    ∃ v' w', (Builtin.append_ #[249, 249] t #[v, .slice (some ⟨q, 0, none⟩) 1 1]).run Tryz.prog w = .ok v' w' ∧ w'.ownsRow base 251 2 v' (l ++ [(x, y)]).length (pcVals (l ++ [(x, y)])) ∧ w.grownBy w' v.ownBlock ∧ (v'.ownBlock = v.ownBlock ∨ v'.ownBlock = some w.heap.size) := by
  obtain ⟨i0, hi, hz0, hz1, hz2⟩ := info_parts info_pc
  obtain ⟨v', w', a1, a2, a3, _, a5⟩ := run_append_own_at (P := Tryz.prog) w base 249 t 251 i0 (.agg #[.int .i64 0, .int .i64 0]) 2 16 Tryz.underlying249 hi hz0 hz1 hz2 rfl (by omega) v l.length (pcVals l) hown ⟨q, 0, none⟩ 1 1 [.int .i64 (x : Int), .int .i64 (y : Int)] rfl (fun j u hj => by
    rw [addr_add, Nat.zero_add]
    match j, hj with
    | 0, hj => rw [h0]; simpa using hj
    | 1, hj => rw [h1]; simpa using hj
    | j + 2, hj => simp at hj) (fun u hu => by
    simp only [List.mem_cons, List.not_mem_nil, or_false] at hu
    rcases hu with rfl | rfl <;> rfl) (by unfold maxLen; omega) (by omega) hb
  refine ⟨v', w', a1, ?_, a3, a5⟩
  rw [pcVals_append, List.length_append]
  exact a2

theorem step_appC {w : World} {ops : Array Oper} {o : Oper} {a : Act} {K : Act → World → Prop} {Q : Exit → Act → World → Prop} {E : Prop} (hgd : o.guard = none) (s x : Operand)
    (ho : o.op = .call { callee := .builtin .append, args := #[s, x], argTypes := #[249, 249] }) (base q : Nat) (v : Value) (l : List (Nat × Nat)) (y z : Nat) (hs : a.eval s = v) (hx : a.eval x = .slice (some ⟨q, 0, none⟩) 1 1)
    (hown : w.ownsRow base 251 2 v l.length (pcVals l)) (h0 : w.cell? ⟨q, 0, none⟩ = some (.int .i64 (y : Int))) (h1 : w.cell? ⟨q, 1, none⟩ = some (.int .i64 (z : Int))) (hl : l.length ≤ 1000000) (hb : base ≤ w.heap.size)
    (h : ∀ v' w', w'.ownsRow base 251 2 v' (l ++ [(y, z)]).length (pcVals (l ++ [(y, z)])) → w.grownBy w' v.ownBlock → (v'.ownBlock = v.ownBlock ∨ v'.ownBlock = some w.heap.size) → K (a.put o.dst v') w') : if Region.wanted o (yielded ops a.tmps) = true then Oper.wp Tryz.prog o a w K Q else E := by
  have hw : Region.wanted o (yielded ops a.tmps) = true := by simp [Region.wanted, hgd]
  rw [if_pos hw]
  obtain ⟨v', w', a1, a2, a3, a5⟩ := app_pc w base q v l y z o.type hown h0 h1 hl hb
  unfold Oper.wp execOp
  simp only [ho, resolve, invoke, builtin, Sem.run_bind, Sem.run_pure, Result.andThen_ok, List.map_toArray, List.map_cons, List.map_nil, hs, hx, a1]
  exact h v' w' a2 a3 a5

theorem two_new0 (w : World) (v0 v1 : Value) (t : TypeId) : (w.alloc (.cells #[v0, v1] t)).cell? ⟨w.heap.size, 0, none⟩ = some v0 := by simp
theorem two_new1 (w : World) (v0 v1 : Value) (t : TypeId) : (w.alloc (.cells #[v0, v1] t)).cell? ⟨w.heap.size, 1, none⟩ = some v1 := by simp
theorem one_new0 (w : World) (v : Value) (t : TypeId) : (w.alloc (.cells #[v] t)).cell? ⟨w.heap.size, 0, none⟩ = some v := by simp
theorem grown_far {w w' : World} {v : Value} (p : Nat) (hg : w.grownBy w' v.ownBlock) (hp : p < w.heap.size) (hn : ∀ g, v.ownBlock = some g → g ≠ p) : w'.heap[p]? = w.heap[p]? := hg.block p hp (fun e => hn p e.symm rfl)
theorem shape2 {w : World} {base size n : Nat} {e : TypeId} {v : Value} {xs : List Value} (h : w.ownsRow base e size v n xs) : ∃ a c, v = .slice a n c ∧ (0 < n → ∃ g, a = some ⟨g, 0, none⟩ ∧ base ≤ g) := by
  rcases h.2 with ⟨rfl, rfl⟩ | ⟨g, c, cur, rfl, hb, _⟩
  · exact ⟨none, 0, rfl, fun h => by omega⟩
  · exact ⟨_, c, rfl, fun _ => ⟨g, rfl, hb⟩⟩

section
variable {p r : Nat} {s : ByteArray} {k W S N most : Nat} {vL : Value} {pcs : List (Nat × Nat)} {la ll : Nat} {vT : Value} {out : List UInt8}

theorem grow_no (w : World) (h : UN w p r s k W S N most vL pcs la ll vT out) (hn : ll = 0 ∨ N = 4096) :
    Calls Tryz.prog 188 #[.pointer (some ⟨p, 0, none⟩)] w fun e w' => e = .returned (.tuple #[]) ∧ w' = w := by
  have h1 := h.l1
  have h2 : w.cell? ⟨p, 3, none⟩ = some (.int .i64 (N : Int)) := h.cd.next
  clear h
  by_cases h0 : ll = 0
  · subst h0
    clear hn h2
    go_enter Tryz.func188, Tryz.ntmps188
    go_wp2
    refine bodyPost_ret (results_none rfl _ _ _) rfl ?_
    exact ⟨rfl, rfl⟩
  · have hN : N = 4096 := by omega
    subst hN
    have g1 : ((ll : Int) == 0) = false := by simp; omega
    clear hn h0
    go_enter Tryz.func188, Tryz.ntmps188
    go_wp2
    refine bodyPost_ret (results_none rfl _ _ _) rfl ?_
    exact ⟨rfl, rfl⟩

set_option maxHeartbeats 4000000 in
set_option maxRecDepth 100000 in
theorem grow_yes (w : World) (h : UN w p r s k W S N most vL pcs la ll vT out) (hl0 : ll ≠ 0) (hN : N < 4096) (hpl : pcs.length ≤ 5000) (hll : la + ll ≤ 300000) :
    Calls Tryz.prog 188 #[.pointer (some ⟨p, 0, none⟩)] w fun e w' => e = .returned (.tuple #[]) ∧ ∃ vL', UN w' p r s k W S (N + 1) most vL' (pcs ++ [(la, ll + 1)]) la ll vT out ∧ Below r w w' := by
  have h1 := h.l1
  have h2 : w.cell? ⟨p, 3, none⟩ = some (.int .i64 (N : Int)) := h.cd.next
  have h3 := h.l0
  have h4 := h.lg
  have f4 := h.free 4
  have hlt := h.lt
  have hr := h.ltp
  have HU := hide h
  have hown := h.oL
  have HO := hide hown
  obtain ⟨a, c, rfl, _⟩ := shape2 hown
  have g1 : ((ll : Int) == 0) = false := by simp; omega
  have g2 : ((N : Int) == 4096) = false := by simp; omega
  obtain ⟨y, hy⟩ : ∃ y, y = ll + 1 := ⟨_, rfl⟩
  have zy : (ll : Int) + 1 = (y : Int) := by omega
  have wy : IntKind.i64.wrap (y : Int) = (y : Int) := by rw [IntKind.wrap_i64]; omega
  have hyl : y ≤ 300001 := by omega
  have HY := hide hy
  have bz : Below w.heap.size w (w.drew.alloc (.cells #[.int .i64 (la : Int), .int .i64 (y : Int)] 251)) := (Below.refl _ _).drew.alloc (Nat.le_refl _) _
  have hza : (w.drew.alloc (.cells #[.int .i64 (la : Int), .int .i64 (y : Int)] 251)).heap.size = w.heap.size + 1 := by show (w.drew.alloc _).heap.size = w.drew.heap.size + 1; simp
  have hPa : p < (w.drew.alloc (.cells #[.int .i64 (la : Int), .int .i64 (y : Int)] 251)).heap.size := by rw [hza]; omega
  have q0 : (w.drew.alloc (.cells #[.int .i64 (la : Int), .int .i64 (y : Int)] 251)).cell? ⟨w.heap.size, 0, none⟩ = some (.int .i64 (la : Int)) := two_new0 w.drew _ _ _
  have q1 : (w.drew.alloc (.cells #[.int .i64 (la : Int), .int .i64 (y : Int)] 251)).cell? ⟨w.heap.size, 1, none⟩ = some (.int .i64 (y : Int)) := two_new1 w.drew _ _ _
  have HOa := hide (hown.drew.alloc (.cells #[.int .i64 (la : Int), .int .i64 (y : Int)] 251))
  have hnP : ∀ g, (Value.slice a pcs.length c).ownBlock = some g → g ≠ p := fun g q => by have := (hown.lt g q).1; omega
  have cva := (bz.cell (p := ⟨p, 4, none⟩) hlt).trans h4
  have fPa := (bz.frozen (p := ⟨p, 4, none⟩) hlt).trans f4
  have HG : Hid (∀ (w' : World) (vL' : Value), UN w' p r s k W S N most vL' (pcs ++ [(la, y)]) la ll vT out → Calls Tryz.prog 171 #[.pointer (some ⟨p, 1, none⟩)] w' fun e w'' => e = .returned (.int .i64 (N : Int)) ∧ UN w'' p r s k W S (N + 1) most vL' (pcs ++ [(la, y)]) la ll vT out ∧ Below r w' w'') := fun w' vL' hU => by
    refine (give_any p 1 W S N w' hU.cd (by omega)).mono ?_
    rintro e w'' ⟨rfl, hC, hk⟩
    exact ⟨rfl, hU.kc hk hC, hk.below.mono (by omega)⟩
  clear h hy hl0 hll hown
  go_enter Tryz.func188, Tryz.ntmps188
  go_wp2_with fail
  go_region_law (first | (refine step_appC rfl (.tmp 20) (.tmp 33) rfl (p + 1) w.heap.size (.slice a pcs.length c) pcs la y (by simp [Act.eval]) (by simp [Act.eval]) (unhide HOa) q0 q1 (by omega) (by show p + 1 ≤ (w.drew.alloc _).heap.size; rw [hza]; omega) ?_; intro v2 w2 hown2 hgr2 hat2; obtain ⟨a2, c2, rfl, _⟩ := shape2 hown2; have hbP := grown_far p hgr2 hPa hnP; have cP2 : w2.cell? ⟨p, 4, none⟩ = some (.slice a pcs.length c) := (World.cell?_of_block hbP).trans cva; have fP2 : w2.frozen? ⟨p, 4, none⟩ = false := (World.frozen?_of_block hbP).trans fPa))
  all_goals (
    have hfin := hide ((unhide HU).pushL bz hown2 hgr2)
    rw [show (pcs ++ [(la, y)]).length = pcs.length + 1 by simp] at hfin
    clear hown2 hgr2 hat2 hbP cP2 fP2
    go_wp2_with fail
    refine (unhide HG _ _ (unhide hfin).1).mono ?_; rintro e w3 ⟨rfl, hU3, hb3⟩
    have HU3 := hide hU3
    have HB3 := hide ((unhide hfin).2.trans hb3)
    clear HG hfin hU3 hb3
    go_wp2
    go_end0
    exact ⟨rfl, _, by rw [← unhide HY]; exact unhide HU3, unhide HB3⟩)

set_option maxHeartbeats 4000000 in
set_option maxRecDepth 100000 in
theorem again_any (a l : Nat) (w : World) (h : UN w p r s k W S N most vL pcs la ll vT out) (ha : a < out.length) (hal : a + l ≤ out.length + 1) (hm : out.length ≤ 300000) :
    Calls Tryz.prog 189 #[.pointer (some ⟨p, 0, none⟩), .agg #[.int .i64 (a : Int), .int .i64 (l : Int)]] w fun e w' => e = .returned (.tuple #[]) ∧ ∃ vT', UN w' p r s k W S N most vL pcs la ll vT' (again out a l) ∧ Below r w w' := by
  have hlt := h.lt
  have hr := h.ltp
  have b0 : Below w.heap.size w (w.alloc (.cells #[.int .i64 (a : Int), .int .i64 (l : Int)] 251)) := (Below.refl _ _).alloc (Nat.le_refl _) _
  have HU0 := hide (h.below b0)
  have HB0 := hide (b0.mono (show r ≤ w.heap.size by omega))
  have hq0 : (w.alloc (.cells #[.int .i64 (a : Int), .int .i64 (l : Int)] 251)).heap[w.heap.size]? = some (.cells #[.int .i64 (a : Int), .int .i64 (l : Int)] 251 (0, 0)) := heap_alloc_new w _
  have HQ0 := hide hq0
  have hqs : w.heap.size < (w.alloc (.cells #[.int .i64 (a : Int), .int .i64 (l : Int)] 251)).heap.size := by simp
  obtain ⟨q, hq⟩ : ∃ q, q = w.heap.size := ⟨_, rfl⟩
  rw [← hq] at HQ0
  have Hq := hide hq
  have hpq : p < q := by omega
  clear h b0 hq0 hqs
  go_enter Tryz.func189, Tryz.ntmps189
  go_wp2
  rw [← hq]
  clear hq hlt
  generalize w.alloc (.cells #[.int .i64 (a : Int), .int .i64 (l : Int)] 251) = wa at *
  go_loopw [7] (fun i wr => ∃ (j : Nat) (vT' : Value), j ≤ l ∧ i = .int .i64 j ∧ Hid (UN wr p r s k W S N most vL pcs la ll vT' (again out a j)) ∧ Hid (wr.heap[q]? = some (.cells #[.int .i64 (a : Int), .int .i64 (l : Int)] 251 (0, 0))) ∧ Hid (Below r w wr)) (fun i _ => l - (intOf i).toNat)
  case atStart => exact ⟨0, vT, by omega, rfl, HU0, HQ0, HB0⟩
  case round =>
    clear HU0 HQ0 HB0
    obtain ⟨j, vT', hj, rfl, HUr, HQr, HBr⟩ := hrel
    by_cases hlt : j < l
    · have g1 : decide ((j : Int) < (l : Int)) = true := by simp; omega
      have hcl := again_length out a j
      obtain ⟨o, ho⟩ : ∃ o, o = again out a j := ⟨_, rfl⟩
      rw [← ho] at HUr hcl
      have hown := (unhide HUr).oT
      have cv := (unhide HUr).tx
      obtain ⟨a', cp, rfl, hg⟩ := shape2 hown
      obtain ⟨g, rfl, hgP⟩ := hg (by omega)
      obtain ⟨ix, hix⟩ : ∃ x, x = a + j := ⟨_, rfl⟩
      have zix : (a : Int) + (j : Int) = (ix : Int) := by omega
      have hixl : ix < o.length := by omega
      have hixi : (ix : Int) < (o.length : Int) := by omega
      obtain ⟨b, hbb⟩ : ∃ b, b = o[ix] := ⟨_, rfl⟩
      have cb : wr.cell? ⟨g, ix, none⟩ = some (.int .u8 (b.toNat : Int)) := by
        rw [hown.cellAt ix (by omega), byteVals_at, List.getElem?_eq_getElem hixl, hbb]; rfl
      have HNX : Hid (again out a (j + 1) = o ++ [b]) := by
        show again out a j ++ [(again out a j).getD (a + j) 0] = _
        rw [← ho, ← hix, hbb, getD_at _ _ _ hixl]
      have hll : o.length ≤ 700000 := by omega
      have hwx : IntKind.i64.wrap (ix : Int) = (ix : Int) := by rw [IntKind.wrap_i64]; omega
      have hPl := (unhide HUr).lt
      have hglt := (hown.lt g rfl).2
      have fP := (unhide HUr).free 7
      have cq0 : wr.cell? ⟨q, 0, none⟩ = some (.int .i64 (a : Int)) := by simp [World.cell?, unhide HQr]
      have hqr : q < wr.heap.size := World.block_lt_of_cell? _ _ cq0
      have hgq : g ≠ q := fun e => by
        subst e
        rcases hown.2 with ⟨e1, _⟩ | ⟨g2, cap2, cur2, e1, _, e4, _⟩
        · cases e1
        · injection e1 with e1 _ _
          injection e1 with e1
          injection e1 with e1 _ _
          subst e1
          have := e4.symm.trans (unhide HQr)
          simp at this
      have bz : Below wr.heap.size wr (wr.drew.alloc (.cells #[.int .u8 (b.toNat : Int)] 5)) := (Below.refl _ _).drew.alloc (Nat.le_refl _) _
      have hza : (wr.drew.alloc (.cells #[.int .u8 (b.toNat : Int)] 5)).heap.size = wr.heap.size + 1 := by show (wr.drew.alloc _).heap.size = wr.drew.heap.size + 1; simp
      have hPa : p < (wr.drew.alloc (.cells #[.int .u8 (b.toNat : Int)] 5)).heap.size := by rw [hza]; omega
      have cq := one_new0 wr.drew (.int .u8 (b.toNat : Int)) 5
      have cva := (bz.cell (p := ⟨p, 7, none⟩) hPl).trans cv
      have cba := (bz.cell (p := ⟨g, ix, none⟩) hglt).trans cb
      have cqa := (bz.cell (p := ⟨q, 0, none⟩) hqr).trans cq0
      have fPa := (bz.frozen (p := ⟨p, 7, none⟩) hPl).trans fP
      have hnP : ∀ x, (Value.slice (some ⟨g, 0, none⟩) o.length cp).ownBlock = some x → x ≠ p := fun x e => by have := (hown.lt x e).1; omega
      have HOa := hide (hown.drew.alloc (.cells #[.int .u8 (b.toNat : Int)] 5))
      clear ho hown hix hbb hcl
      go_wp2_with fail
      go_region_law (first | (refine step_appB rfl (.tmp 14) (.tmp 25) rfl (p + 1) wr.heap.size (.slice (some ⟨g, 0, none⟩) o.length cp) o b (by simp [Act.eval]) (by simp [Act.eval]) (unhide HOa) cq (by omega) (by show p + 1 ≤ (wr.drew.alloc _).heap.size; rw [hza]; omega) ?_; intro v2 w2 hown2 hgr2 hat2; obtain ⟨a2, c2, rfl, _⟩ := shape2 hown2; have hbP := grown_far p hgr2 hPa hnP; have cP2 : w2.cell? ⟨p, 7, none⟩ = some (.slice (some ⟨g, 0, none⟩) o.length cp) := (World.cell?_of_block hbP).trans cva; have fP2 : w2.frozen? ⟨p, 7, none⟩ = false := (World.frozen?_of_block hbP).trans fPa))
      all_goals (
        have hfin := hide ((unhide HUr).pushT bz hown2 hgr2)
        rw [show (o ++ [b]).length = o.length + 1 by simp] at hfin
        have HQ2 := hide (((unhide hfin).2.2 q (by omega) hqr (fun e => hgq (by simpa [Value.ownBlock] using e))).trans (unhide HQr))
        clear hown2 hgr2 hat2 hbP cP2 fP2
        go_wp2
        go_roundw
        case rel => exact ⟨j + 1, _, by omega, by go_num, by rw [unhide HNX]; exact (unhide hfin).1, HQ2, (unhide HBr).trans (unhide hfin).2.1⟩
        case measure => simp [intOf]; omega)
    · have : j = l := by omega
      subst this
      have g1 : decide ((j : Int) < (j : Int)) = false := by simp
      go_wp2
      go_end0
      exact ⟨rfl, _, unhide HUr, unhide HBr⟩
end
end Go.Proofs.YtjcoahahponabaaGreatDoor
