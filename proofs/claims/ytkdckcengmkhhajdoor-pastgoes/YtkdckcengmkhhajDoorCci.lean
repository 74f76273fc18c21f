/- Walks of the shelf's own growing and joining of slices: numbers, packages. -/
import Derived.Test.YtkdckcengmkhhajDoorAn
import Derived.Test.YtkdckcengmkhhajDoorQB
import Derived.Lib.AppendZeros
import Derived.Deep.LoopGhost
namespace Go.Proofs.YtkdckcengmkhhajDoor
open Go.RowKit

/-- What is appended: nothing, or cells that stand somewhere. -/
def SrcC (w : World) (u : Value) (size m : Nat) (G : List Value) : Prop := (u = .slice none 0 0 ∧ m = 0 ∧ G = []) ∨ ∃ ad c, u = .slice (some ad) m c ∧ G.length = m * size ∧ ∀ j v, G[j]? = some v → w.cell? (ad.add j) = some v

theorem SrcC.below {w w' : World} {u : Value} {size m : Nat} {G : List Value} (h : SrcC w u size m G) (hb : Below w.heap.size w w') : SrcC w' u size m G := by
  rcases h with h | ⟨ad, c, e, hl, hc⟩
  · exact .inl h
  · refine .inr ⟨ad, c, e, hl, fun j v hj => ?_⟩
    have := hc j v hj
    rw [hb.cell (World.block_lt_of_cell? _ _ this)]; exact this
theorem SrcC.shape {w : World} {u : Value} {size m : Nat} {G : List Value} (h : SrcC w u size m G) : ∃ a c, u = .slice a m c := by
  rcases h with ⟨rfl, rfl, _⟩ | ⟨ad, c, e, _⟩
  · exact ⟨_, _, rfl⟩
  · exact ⟨_, _, e⟩


theorem wpList_appI (w : World) {ops : Array Oper} {rest : List Oper} {o : Oper} {a : Act} {Q : Exit → Act → World → Prop} (hgd : o.guard = none) (s x : Operand)
    (ho : o.op = .call { callee := .builtin .append, args := #[s, x], argTypes := #[63, 63] }) (base : Nat) (v u : Value) (n m : Nat) (F G : List Value) (hs : a.eval s = v) (hx : a.eval x = u)
    (hown : w.ownsRow base 3 1 v n F) (hsrc : SrcC w u 1 m G) (h1 : ∀ u ∈ G, u.oneCell' = true) (hlen : n + m ≤ 1000000) (hbase : base ≤ w.heap.size)
    (h : ∀ v' w', w'.ownsRow base 3 1 v' (n + m) (F ++ G) → w.grownBy w' v.ownBlock → (v'.ownBlock = v.ownBlock ∨ v'.ownBlock = some w.heap.size) → wpList Tryd.prog ops Q rest (a.put o.dst v') w') : wpList Tryd.prog ops Q (o :: rest) a w := by
  obtain ⟨i0, hi, hz0, hz1, hz2⟩ := info_parts info_i64
  have key : ∃ v' w', (Builtin.append_ #[63, 63] o.type #[v, u]).run Tryd.prog w = .ok v' w' ∧ w'.ownsRow base 3 1 v' (n + m) (F ++ G) ∧ w.grownBy w' v.ownBlock ∧ (v'.ownBlock = v.ownBlock ∨ v'.ownBlock = some w.heap.size) := by
    rcases hsrc with ⟨rfl, rfl, rfl⟩ | ⟨ad, c, rfl, hl, hc⟩
    · refine ⟨v, w, run_append_owned_none w base 63 o.type 3 i0 1 Tryd.underlying63 hi v _ _ hown, by rw [List.append_nil, Nat.add_zero]; exact hown, ⟨rfl, rfl, rfl, Nat.le_refl _, fun _ _ _ => rfl⟩, .inl rfl⟩
    · obtain ⟨v', w', h1, h2, h3, h4, h5⟩ := run_append_own_at (P := Tryd.prog) w base 63 o.type 3 i0 (.int .i64 0) 1 8 Tryd.underlying63 hi hz0 hz1 hz2 rfl (by omega) v n F hown ad m c G hl hc h1 (by unfold maxLen; omega) (by omega) hbase
      exact ⟨v', w', h1, h2, h3, h5⟩
  obtain ⟨v', w', h1, h2, h3, h4⟩ := key
  refine wpList_plain hgd fun _ hK => ?_
  unfold Oper.wp execOp
  simp only [ho, resolve, invoke, builtin, Sem.run_bind, Sem.run_pure, Result.andThen_ok, List.map_toArray, List.map_cons, List.map_nil, hs, hx, h1]
  exact hK _ _ (h v' w' h2 h3 h4)

set_option maxHeartbeats 1000000 in
set_option maxRecDepth 100000 in
theorem growI_any (n : Nat) (w : World) (hn : n ≤ 1000000) :
    Calls Tryd.prog 76 #[.slice none 0 0, .int .i64 (n : Int)] w fun e w' => ∃ v, e = .returned v ∧ w'.ownsRow w.heap.size 3 1 v 0 [] ∧ Below w.heap.size w w' := by
  obtain ⟨i0, hi, hz0, hz1, hz2⟩ := info_parts info_i64
  have d0 : decide ((n : Int) < 0) = false := by simp
  by_cases h0 : n = 0
  · subst h0
    clear hi hz0 hz1 hz2
    go_enter Tryd.func76, Tryd.ntmps76
    go_wp2
    go_ret
    exact ⟨_, rfl, World.ownsRow_nil _ _ _ _, Below.refl _ _⟩
  · have d1 : decide ((0 : Int) < (n : Int)) = true := by simp; omega
    have d2 : decide ((n : Int) > 0) = true := by simp; omega
    have hr := Lib.run_append_nil_zeros (P := Tryd.prog) w 63 3 63 3 i0 (.int .i64 0) .i64 .i64 Tryd.underlying63 Tryd.underlying3 hi hz0 n (by omega) (by rw [hz1]; omega) (by omega) (by rw [hz2]; omega)
    have hg1 := grownCap_ge w n 0 3
    have hg2 := grownCap_le_maxLen w n 0 3 (by unfold maxLen; omega)
    generalize grownCap w n 0 3 = cap at *
    have hsz : (Builtin.zeroCells (Value.cells (.int .i64 0)) n ++ Builtin.zeroCells (Value.cells (.int .i64 0)) (cap - n)).size = cap * 1 := by
      rw [Array.size_append, size_zeroCells, size_zeroCells]
      show n * 1 + (cap - n) * 1 = cap * 1
      omega
    have hown : (w.drew.alloc (.cells (Builtin.zeroCells (Value.cells (.int .i64 0)) n ++ Builtin.zeroCells (Value.cells (.int .i64 0)) (cap - n)) 3)).ownsRow w.heap.size 3 1 (.slice (some ⟨w.heap.size, 0, none⟩) 0 cap) 0 [] := by
      exact World.ownsRow_made w.drew _ cap (Nat.le_refl _) hg2 hsz
    have hb : Below w.heap.size w (w.drew.alloc (.cells (Builtin.zeroCells (Value.cells (.int .i64 0)) n ++ Builtin.zeroCells (Value.cells (.int .i64 0)) (cap - n)) 3)) := (Below.refl _ _).drew.alloc (Nat.le_refl _) _
    have Hr := hide hr
    have Ho := hide hown
    have Hb := hide hb
    generalize w.drew.alloc (.cells (Builtin.zeroCells (Value.cells (.int .i64 0)) n ++ Builtin.zeroCells (Value.cells (.int .i64 0)) (cap - n)) 3) = w1 at *
    clear hr hown hsz hi hz0 hz1 hz2 hb
    go_enter Tryd.func76, Tryd.ntmps76
    go_wp2_with (at_builtin; refine Lib.wpList_append_run _ rfl (.tmp 20) (.tmp 21) 63 3 rfl (.slice none 0 0) (.int .i64 (n : Int)) rfl rfl _ _ (unhide Hr) ?_)
    go_wp2
    go_ret
    exact ⟨_, rfl, unhide Ho, unhide Hb⟩

set_option maxHeartbeats 2000000 in
set_option maxRecDepth 100000 in
theorem concatI_any (q : Nat) (u1 u2 : Value) (m1 m2 : Nat) (G1 G2 : List Value) (w : World) (hq0 : w.cell? ⟨q, 0, none⟩ = some u1) (hq1 : w.cell? ⟨q, 1, none⟩ = some u2) (hs1 : SrcC w u1 1 m1 G1) (hs2 : SrcC w u2 1 m2 G2)
    (h1 : ∀ u ∈ G1, u.oneCell' = true) (h2 : ∀ u ∈ G2, u.oneCell' = true) (hm1 : m1 ≤ 100000) (hm2 : m2 ≤ 100000) :
    Calls Tryd.prog 54 #[.slice (some ⟨q, 0, none⟩) 2 2] w fun e w' => ∃ v, e = .returned v ∧ w'.ownsRow w.heap.size 3 1 v (m1 + m2) (G1 ++ G2) ∧ Below w.heap.size w w' := by
  have hql := World.block_lt_of_cell? _ _ hq0
  obtain ⟨a1, k1, e1⟩ := hs1.shape
  obtain ⟨a2, k2, e2⟩ := hs2.shape
  have Hs1 := hide hs1
  have Hs2 := hide hs2
  have Hq0 := hide hq0
  have Hq1 := hide hq1
  have H1 := hide h1
  have H2 := hide h2
  have E1 := hide e1
  have E2 := hide e2
  have q0 := hq0
  have q1 := hq1
  rw [e1] at q0
  rw [e2] at q1
  obtain ⟨m12, hm12⟩ : ∃ x, x = m1 + m2 := ⟨_, rfl⟩
  have zm : (m1 : Int) + (m2 : Int) = (m12 : Int) := by omega
  have lm : m12 ≤ 200000 := by omega
  have HM := hide hm12
  have dn1 : decide ((m1 : Int) < 0) = false := by simp
  have dn2 : decide ((m12 : Int) < 0) = false := by simp
  clear hs1 hs2 hq0 hq1 h1 h2 e1 e2 hm12
  go_enter Tryd.func54, Tryd.ntmps54
  go_wp2
  go_loop [3, 11] (fun s i => (i = .int .i64 0 ∧ s = .int .i64 0) ∨ (i = .int .i64 1 ∧ s = .int .i64 (m1 : Int)) ∨ (i = .int .i64 2 ∧ s = .int .i64 (m12 : Int))) (fun _ i => 2 - (intOf i).toNat)
  case atStart => exact .inl ⟨rfl, rfl⟩
  case round =>
    rcases hrel with ⟨rfl, rfl⟩ | ⟨rfl, rfl⟩ | ⟨rfl, rfl⟩
    · go_wp2
      go_round
      case rel => exact .inr (.inl ⟨rfl, rfl⟩)
      case measure => simp [intOf]
    · go_wp2
      go_round
      case rel => exact .inr (.inr ⟨rfl, rfl⟩)
      case measure => simp [intOf]
    · go_wp2_with fail
      refine (growI_any m12 _ (by omega)).mono ?_; rintro e w1 ⟨v0, rfl, hown0, hb0⟩
      have Hown0 := hide hown0
      clear hown0 q0 q1
      go_wp2
      go_loopw [6, 27] (fun v i wr => ((i = .int .i64 0 ∧ Hid (wr.ownsRow w.heap.size 3 1 v 0 [])) ∨ (i = .int .i64 1 ∧ Hid (wr.ownsRow w.heap.size 3 1 v m1 G1)) ∨ (i = .int .i64 2 ∧ Hid (wr.ownsRow w.heap.size 3 1 v (m1 + m2) (G1 ++ G2)))) ∧ Below w.heap.size w wr) (fun _ i _ => 2 - (intOf i).toNat)
      case atStart => exact ⟨.inl ⟨rfl, Hown0⟩, hb0⟩
      case round =>
        obtain ⟨hrel, hbr⟩ := hrel
        have q0 := (hbr.cell (p := ⟨q, 0, none⟩) hql).trans (unhide Hq0)
        have q1 := (hbr.cell (p := ⟨q, 1, none⟩) hql).trans (unhide Hq1)
        have hb5 := hbr.size
        rcases hrel with ⟨rfl, Ho⟩ | ⟨rfl, Ho⟩ | ⟨rfl, Ho⟩
        · have hlt := (unhide Ho).lt
          go_wp2_with (at_builtin; refine wpList_appI _ rfl (.tmp 31) (.tmp 32) rfl w.heap.size u6 u1 0 m1 [] G1 rfl rfl (unhide Ho) ((unhide Hs1).below hbr) (unhide H1) (by omega) hb5 ?_)
          intro v2 w2 hown2 hgr2 _
          try rw [Nat.zero_add, List.nil_append] at hown2
          have hb2 : Below w.heap.size w w2 := hbr.grown hgr2 hb5 (fun k e => (hlt k e).1)
          have Ho2 := hide hown2
          clear hown2 hgr2 hlt
          go_wp2
          go_roundw
          case rel => exact ⟨.inr (.inl ⟨rfl, Ho2⟩), hb2⟩
          case measure => simp [intOf]
        · have hlt := (unhide Ho).lt
          go_wp2_with (at_builtin; refine wpList_appI _ rfl (.tmp 31) (.tmp 32) rfl w.heap.size u6 u2 m1 m2 G1 G2 rfl rfl (unhide Ho) ((unhide Hs2).below hbr) (unhide H2) (by omega) hb5 ?_)
          intro v2 w2 hown2 hgr2 _
          have hb2 : Below w.heap.size w w2 := hbr.grown hgr2 hb5 (fun k e => (hlt k e).1)
          have Ho2 := hide hown2
          clear hown2 hgr2 hlt
          go_wp2
          go_roundw
          case rel => exact ⟨.inr (.inr ⟨rfl, Ho2⟩), hb2⟩
          case measure => simp [intOf]
        · go_wp2
          go_ret
          exact ⟨_, rfl, unhide Ho, hbr⟩

end Go.Proofs.YtkdckcengmkhhajDoor
