/- Walks of the shelf's own growing and joining of slices: numbers, packages. Walks of a stable sort: exchanges. Walks of a stable sort: parts turned round. -/
import Derived.Test.YtfeljhikeddodadGreatDoorMh9
import Derived.Lib.AppendZeros
import Derived.Deep.LoopGhost
import Derived.Test.YtfeljhikeddodadGreatDoorMh1
import Derived.Test.YtfeljhikeddodadGreatDoorMh6
import Derived.Shelf.SlSortCmp.Kit1
import Derived.Sort.WalkA
import Derived.Sort.WalkB2
import Derived.Sort.WalkB12
import Derived.RegionTactic
import Derived.ChangeAlike
import Derived.BigRegion
import Derived.BigQuiet
namespace Go.Proofs.YtfeljhikeddodadGreatDoor
open Go.RowKit

/-- What is appended: nothing, or cells that stand somewhere. -/
def SrcC (w : World) (u : Value) (size m : Nat) (G : List Value) : Prop := (u = .slice none 0 0 ∧ m = 0 ∧ G = []) ∨ ∃ ad c, u = .slice (some ad) m c ∧ G.length = m * size ∧ ∀ j v, G[j]? = some v → w.cell? (ad.add j) = some v
theorem SrcC.below {w w' : World} {u : Value} {size m : Nat} {G : List Value} (h : SrcC w u size m G) (hb : Below w.heap.size w w') : SrcC w' u size m G := by
  rcases h with h | ⟨ad, c, e, hl, hc⟩
  · exact .inl h
  · refine .inr ⟨ad, c, e, hl, fun j v hj => ?_⟩
    have := hc j v hj
    rw [hb.cell (World.block_lt_of_cell? _ _ this)]; exact this
theorem SrcC.shape {w : World} {u : Value} {size m : Nat} {G : List Value} (h : SrcC w u size m G) : ∃ a c, u = .slice a m c := by
  rcases h with ⟨rfl, rfl, _⟩ | ⟨ad, c, e, _⟩
  · exact ⟨_, _, rfl⟩
  · exact ⟨_, _, e⟩
theorem info_pk : (Tryz.prog.info? 125).map (fun i => (i.zero, i.size, i.bytes)) = some (some (.agg #[.int .i64 0, .slice none 0 0]), 2, 32) := by kernel_rfl
theorem wpList_appI (w : World) {ops : Array Oper} {rest : List Oper} {o : Oper} {a : Act} {Q : Exit → Act → World → Prop} (hgd : o.guard = none) (s x : Operand)
    (ho : o.op = .call { callee := .builtin .append, args := #[s, x], argTypes := #[38, 38] }) (base : Nat) (v u : Value) (n m : Nat) (F G : List Value) (hs : a.eval s = v) (hx : a.eval x = u)
    (hown : w.ownsRow base 3 1 v n F) (hsrc : SrcC w u 1 m G) (h1 : ∀ u ∈ G, u.oneCell' = true) (hlen : n + m ≤ 1000000) (hbase : base ≤ w.heap.size)
    (h : ∀ v' w', w'.ownsRow base 3 1 v' (n + m) (F ++ G) → w.grownBy w' v.ownBlock → (v'.ownBlock = v.ownBlock ∨ v'.ownBlock = some w.heap.size) → wpList Tryz.prog ops Q rest (a.put o.dst v') w') : wpList Tryz.prog ops Q (o :: rest) a w := by
  obtain ⟨i0, hi, hz0, hz1, hz2⟩ := info_parts info_i64
  have key : ∃ v' w', (Builtin.append_ #[38, 38] o.type #[v, u]).run Tryz.prog w = .ok v' w' ∧ w'.ownsRow base 3 1 v' (n + m) (F ++ G) ∧ w.grownBy w' v.ownBlock ∧ (v'.ownBlock = v.ownBlock ∨ v'.ownBlock = some w.heap.size) := by
    rcases hsrc with ⟨rfl, rfl, rfl⟩ | ⟨ad, c, rfl, hl, hc⟩
    · refine ⟨v, w, run_append_owned_none w base 38 o.type 3 i0 1 Tryz.underlying38 hi v _ _ hown, by rw [List.append_nil, Nat.add_zero]; exact hown, ⟨rfl, rfl, rfl, Nat.le_refl _, fun _ _ _ => rfl⟩, .inl rfl⟩
    · obtain ⟨v', w', h1, h2, h3, h4, h5⟩ := run_append_own_at (P := Tryz.prog) w base 38 o.type 3 i0 (.int .i64 0) 1 8 Tryz.underlying38 hi hz0 hz1 hz2 rfl (by omega) v n F hown ad m c G hl hc h1 (by unfold maxLen; omega) (by omega) hbase
      exact ⟨v', w', h1, h2, h3, h5⟩
  obtain ⟨v', w', h1, h2, h3, h4⟩ := key
  refine wpList_plain hgd fun _ hK => ?_
  unfold Oper.wp execOp
  simp only [ho, resolve, invoke, builtin, Sem.run_bind, Sem.run_pure, Result.andThen_ok, List.map_toArray, List.map_cons, List.map_nil, hs, hx, h1]
  exact hK _ _ (h v' w' h2 h3 h4)
set_option maxHeartbeats 1000000 in
set_option maxRecDepth 100000 in
theorem growI_any (n : Nat) (w : World) (hn : n ≤ 1000000) :
    Calls Tryz.prog 153 #[.slice none 0 0, .int .i64 (n : Int)] w fun e w' => ∃ v, e = .returned v ∧ w'.ownsRow w.heap.size 3 1 v 0 [] ∧ Below w.heap.size w w' := by
  obtain ⟨i0, hi, hz0, hz1, hz2⟩ := info_parts info_i64
  have d0 : decide ((n : Int) < 0) = false := by simp
  by_cases h0 : n = 0
  · subst h0
    clear hi hz0 hz1 hz2
    go_enter Tryz.func153, Tryz.ntmps153
    go_wp2
    go_ret
    exact ⟨_, rfl, World.ownsRow_nil _ _ _ _, Below.refl _ _⟩
  · have d1 : decide ((0 : Int) < (n : Int)) = true := by simp; omega
    have d2 : decide ((n : Int) > 0) = true := by simp; omega
    have hr := Lib.run_append_nil_zeros (P := Tryz.prog) w 38 3 38 3 i0 (.int .i64 0) .i64 .i64 Tryz.underlying38 Tryz.underlying3 hi hz0 n (by omega) (by rw [hz1]; omega) (by omega) (by rw [hz2]; omega)
    have hg1 := grownCap_ge w n 0 3
    have hg2 := grownCap_le_maxLen w n 0 3 (by unfold maxLen; omega)
    generalize grownCap w n 0 3 = cap at *
    have hsz : (Builtin.zeroCells (Value.cells (.int .i64 0)) n ++ Builtin.zeroCells (Value.cells (.int .i64 0)) (cap - n)).size = cap * 1 := by
      rw [Array.size_append, size_zeroCells, size_zeroCells]
      show n * 1 + (cap - n) * 1 = cap * 1
      omega
    have hown : (w.drew.alloc (.cells (Builtin.zeroCells (Value.cells (.int .i64 0)) n ++ Builtin.zeroCells (Value.cells (.int .i64 0)) (cap - n)) 3)).ownsRow w.heap.size 3 1 (.slice (some ⟨w.heap.size, 0, none⟩) 0 cap) 0 [] := by
      exact World.ownsRow_made w.drew _ cap (Nat.le_refl _) hg2 hsz
    have hb : Below w.heap.size w (w.drew.alloc (.cells (Builtin.zeroCells (Value.cells (.int .i64 0)) n ++ Builtin.zeroCells (Value.cells (.int .i64 0)) (cap - n)) 3)) := (Below.refl _ _).drew.alloc (Nat.le_refl _) _
    have Hr := hide hr
    have Ho := hide hown
    have Hb := hide hb
    generalize w.drew.alloc (.cells (Builtin.zeroCells (Value.cells (.int .i64 0)) n ++ Builtin.zeroCells (Value.cells (.int .i64 0)) (cap - n)) 3) = w1 at *
    clear hr hown hsz hi hz0 hz1 hz2 hb
    go_enter Tryz.func153, Tryz.ntmps153
    go_wp2_with (at_builtin; refine Lib.wpList_append_run _ rfl (.tmp 20) (.tmp 21) 38 3 rfl (.slice none 0 0) (.int .i64 (n : Int)) rfl rfl _ _ (unhide Hr) ?_)
    go_wp2
    go_ret
    exact ⟨_, rfl, unhide Ho, unhide Hb⟩
set_option maxHeartbeats 2000000 in
set_option maxRecDepth 100000 in
theorem concatI_any (q : Nat) (u1 u2 : Value) (m1 m2 : Nat) (G1 G2 : List Value) (w : World) (hq0 : w.cell? ⟨q, 0, none⟩ = some u1) (hq1 : w.cell? ⟨q, 1, none⟩ = some u2) (hs1 : SrcC w u1 1 m1 G1) (hs2 : SrcC w u2 1 m2 G2)
    (h1 : ∀ u ∈ G1, u.oneCell' = true) (h2 : ∀ u ∈ G2, u.oneCell' = true) (hm1 : m1 ≤ 100000) (hm2 : m2 ≤ 100000) :
    Calls Tryz.prog 120 #[.slice (some ⟨q, 0, none⟩) 2 2] w fun e w' => ∃ v, e = .returned v ∧ w'.ownsRow w.heap.size 3 1 v (m1 + m2) (G1 ++ G2) ∧ Below w.heap.size w w' := by
  have hql := World.block_lt_of_cell? _ _ hq0
  obtain ⟨a1, k1, e1⟩ := hs1.shape
  obtain ⟨a2, k2, e2⟩ := hs2.shape
  have Hs1 := hide hs1
  have Hs2 := hide hs2
  have Hq0 := hide hq0
  have Hq1 := hide hq1
  have H1 := hide h1
  have H2 := hide h2
  have E1 := hide e1
  have E2 := hide e2
  have q0 := hq0
  have q1 := hq1
  rw [e1] at q0
  rw [e2] at q1
  obtain ⟨m12, hm12⟩ : ∃ x, x = m1 + m2 := ⟨_, rfl⟩
  have zm : (m1 : Int) + (m2 : Int) = (m12 : Int) := by omega
  have lm : m12 ≤ 200000 := by omega
  have HM := hide hm12
  have dn1 : decide ((m1 : Int) < 0) = false := by simp
  have dn2 : decide ((m12 : Int) < 0) = false := by simp
  clear hs1 hs2 hq0 hq1 h1 h2 e1 e2 hm12
  go_enter Tryz.func120, Tryz.ntmps120
  go_wp2
  go_loop [3, 11] (fun s i => (i = .int .i64 0 ∧ s = .int .i64 0) ∨ (i = .int .i64 1 ∧ s = .int .i64 (m1 : Int)) ∨ (i = .int .i64 2 ∧ s = .int .i64 (m12 : Int))) (fun _ i => 2 - (intOf i).toNat)
  case atStart => exact .inl ⟨rfl, rfl⟩
  case round =>
    rcases hrel with ⟨rfl, rfl⟩ | ⟨rfl, rfl⟩ | ⟨rfl, rfl⟩
    · go_wp2
      go_round
      case rel => exact .inr (.inl ⟨rfl, rfl⟩)
      case measure => simp [intOf]
    · go_wp2
      go_round
      case rel => exact .inr (.inr ⟨rfl, rfl⟩)
      case measure => simp [intOf]
    · go_wp2_with fail
      refine (growI_any m12 _ (by omega)).mono ?_; rintro e w1 ⟨v0, rfl, hown0, hb0⟩
      have Hown0 := hide hown0
      clear hown0 q0 q1
      go_wp2
      go_loopw [6, 27] (fun v i wr => ((i = .int .i64 0 ∧ Hid (wr.ownsRow w.heap.size 3 1 v 0 [])) ∨ (i = .int .i64 1 ∧ Hid (wr.ownsRow w.heap.size 3 1 v m1 G1)) ∨ (i = .int .i64 2 ∧ Hid (wr.ownsRow w.heap.size 3 1 v (m1 + m2) (G1 ++ G2)))) ∧ Below w.heap.size w wr) (fun _ i _ => 2 - (intOf i).toNat)
      case atStart => exact ⟨.inl ⟨rfl, Hown0⟩, hb0⟩
      case round =>
        obtain ⟨hrel, hbr⟩ := hrel
        have q0 := (hbr.cell (p := ⟨q, 0, none⟩) hql).trans (unhide Hq0)
        have q1 := (hbr.cell (p := ⟨q, 1, none⟩) hql).trans (unhide Hq1)
        have hb5 := hbr.size
        rcases hrel with ⟨rfl, Ho⟩ | ⟨rfl, Ho⟩ | ⟨rfl, Ho⟩
        · have hlt := (unhide Ho).lt
          go_wp2_with (at_builtin; refine wpList_appI _ rfl (.tmp 31) (.tmp 32) rfl w.heap.size u6 u1 0 m1 [] G1 rfl rfl (unhide Ho) ((unhide Hs1).below hbr) (unhide H1) (by omega) hb5 ?_)
          intro v2 w2 hown2 hgr2 _
          try rw [Nat.zero_add, List.nil_append] at hown2
          have hb2 : Below w.heap.size w w2 := hbr.grown hgr2 hb5 (fun k e => (hlt k e).1)
          have Ho2 := hide hown2
          clear hown2 hgr2 hlt
          go_wp2
          go_roundw
          case rel => exact ⟨.inr (.inl ⟨rfl, Ho2⟩), hb2⟩
          case measure => simp [intOf]
        · have hlt := (unhide Ho).lt
          go_wp2_with (at_builtin; refine wpList_appI _ rfl (.tmp 31) (.tmp 32) rfl w.heap.size u6 u2 m1 m2 G1 G2 rfl rfl (unhide Ho) ((unhide Hs2).below hbr) (unhide H2) (by omega) hb5 ?_)
          intro v2 w2 hown2 hgr2 _
          have hb2 : Below w.heap.size w w2 := hbr.grown hgr2 hb5 (fun k e => (hlt k e).1)
          have Ho2 := hide hown2
          clear hown2 hgr2 hlt
          go_wp2
          go_roundw
          case rel => exact ⟨.inr (.inr ⟨rfl, Ho2⟩), hb2⟩
          case measure => simp [intOf]
        · go_wp2
          go_ret
          exact ⟨_, rfl, unhide Ho, hbr⟩
theorem wpList_appP (w : World) {ops : Array Oper} {rest : List Oper} {o : Oper} {a : Act} {Q : Exit → Act → World → Prop} (hgd : o.guard = none) (s x : Operand)
    (ho : o.op = .call { callee := .builtin .append, args := #[s, x], argTypes := #[122, 122] }) (base : Nat) (v u : Value) (n m : Nat) (F G : List Value) (hs : a.eval s = v) (hx : a.eval x = u)
    (hown : w.ownsRow base 125 2 v n F) (hsrc : SrcC w u 2 m G) (h1 : ∀ u ∈ G, u.oneCell' = true) (hlen : n + m ≤ 1000000) (hbase : base ≤ w.heap.size)
    (h : ∀ v' w', w'.ownsRow base 125 2 v' (n + m) (F ++ G) → w.grownBy w' v.ownBlock → (v'.ownBlock = v.ownBlock ∨ v'.ownBlock = some w.heap.size) → wpList Tryz.prog ops Q rest (a.put o.dst v') w') : wpList Tryz.prog ops Q (o :: rest) a w := by
  obtain ⟨i0, hi, hz0, hz1, hz2⟩ := info_parts info_pk
  have key : ∃ v' w', (Builtin.append_ #[122, 122] o.type #[v, u]).run Tryz.prog w = .ok v' w' ∧ w'.ownsRow base 125 2 v' (n + m) (F ++ G) ∧ w.grownBy w' v.ownBlock ∧ (v'.ownBlock = v.ownBlock ∨ v'.ownBlock = some w.heap.size) := by
    rcases hsrc with ⟨rfl, rfl, rfl⟩ | ⟨ad, c, rfl, hl, hc⟩
    · refine ⟨v, w, run_append_owned_none w base 122 o.type 125 i0 2 Tryz.underlying122 hi v _ _ hown, by rw [List.append_nil, Nat.add_zero]; exact hown, ⟨rfl, rfl, rfl, Nat.le_refl _, fun _ _ _ => rfl⟩, .inl rfl⟩
    · obtain ⟨v', w', h1, h2, h3, h4, h5⟩ := run_append_own_at (P := Tryz.prog) w base 122 o.type 125 i0 (.agg #[.int .i64 0, .slice none 0 0]) 2 32 Tryz.underlying122 hi hz0 hz1 hz2 rfl (by omega) v n F hown ad m c G hl hc h1 (by unfold maxLen; omega) (by omega) hbase
      exact ⟨v', w', h1, h2, h3, h5⟩
  obtain ⟨v', w', h1, h2, h3, h4⟩ := key
  refine wpList_plain hgd fun _ hK => ?_
  unfold Oper.wp execOp
  simp only [ho, resolve, invoke, builtin, Sem.run_bind, Sem.run_pure, Result.andThen_ok, List.map_toArray, List.map_cons, List.map_nil, hs, hx, h1]
  exact hK _ _ (h v' w' h2 h3 h4)
set_option maxHeartbeats 1000000 in
set_option maxRecDepth 100000 in
theorem growP_any (n : Nat) (w : World) (hn : n ≤ 1000000) :
    Calls Tryz.prog 166 #[.slice none 0 0, .int .i64 (n : Int)] w fun e w' => ∃ v, e = .returned v ∧ w'.ownsRow w.heap.size 125 2 v 0 [] ∧ Below w.heap.size w w' := by
  obtain ⟨i0, hi, hz0, hz1, hz2⟩ := info_parts info_pk
  have d0 : decide ((n : Int) < 0) = false := by simp
  by_cases h0 : n = 0
  · subst h0
    clear hi hz0 hz1 hz2
    go_enter Tryz.func166, Tryz.ntmps166
    go_wp2
    go_ret
    exact ⟨_, rfl, World.ownsRow_nil _ _ _ _, Below.refl _ _⟩
  · have d1 : decide ((0 : Int) < (n : Int)) = true := by simp; omega
    have d2 : decide ((n : Int) > 0) = true := by simp; omega
    have hr := Lib.run_append_nil_zeros (P := Tryz.prog) w 122 3 122 125 i0 (.agg #[.int .i64 0, .slice none 0 0]) .i64 .i64 Tryz.underlying122 Tryz.underlying3 hi hz0 n (by omega) (by rw [hz1]; omega) (by omega) (by rw [hz2]; omega)
    have hg1 := grownCap_ge w n 0 125
    have hg2 := grownCap_le_maxLen w n 0 125 (by unfold maxLen; omega)
    generalize grownCap w n 0 125 = cap at *
    have hsz : (Builtin.zeroCells (Value.cells (.agg #[.int .i64 0, .slice none 0 0])) n ++ Builtin.zeroCells (Value.cells (.agg #[.int .i64 0, .slice none 0 0])) (cap - n)).size = cap * 2 := by
      rw [Array.size_append, size_zeroCells, size_zeroCells]
      show n * 2 + (cap - n) * 2 = cap * 2
      omega
    have hown : (w.drew.alloc (.cells (Builtin.zeroCells (Value.cells (.agg #[.int .i64 0, .slice none 0 0])) n ++ Builtin.zeroCells (Value.cells (.agg #[.int .i64 0, .slice none 0 0])) (cap - n)) 125)).ownsRow w.heap.size 125 2 (.slice (some ⟨w.heap.size, 0, none⟩) 0 cap) 0 [] := by
      exact World.ownsRow_made w.drew _ cap (Nat.le_refl _) hg2 hsz
    have hb : Below w.heap.size w (w.drew.alloc (.cells (Builtin.zeroCells (Value.cells (.agg #[.int .i64 0, .slice none 0 0])) n ++ Builtin.zeroCells (Value.cells (.agg #[.int .i64 0, .slice none 0 0])) (cap - n)) 125)) := (Below.refl _ _).drew.alloc (Nat.le_refl _) _
    have Hr := hide hr
    have Ho := hide hown
    have Hb := hide hb
    generalize w.drew.alloc (.cells (Builtin.zeroCells (Value.cells (.agg #[.int .i64 0, .slice none 0 0])) n ++ Builtin.zeroCells (Value.cells (.agg #[.int .i64 0, .slice none 0 0])) (cap - n)) 125) = w1 at *
    clear hr hown hsz hi hz0 hz1 hz2 hb
    go_enter Tryz.func166, Tryz.ntmps166
    go_wp2_with (at_builtin; refine Lib.wpList_append_run _ rfl (.tmp 20) (.tmp 21) 122 3 rfl (.slice none 0 0) (.int .i64 (n : Int)) rfl rfl _ _ (unhide Hr) ?_)
    go_wp2
    go_ret
    exact ⟨_, rfl, unhide Ho, unhide Hb⟩
set_option maxHeartbeats 2000000 in
set_option maxRecDepth 100000 in
theorem concatP_any (q : Nat) (u1 u2 : Value) (m1 m2 : Nat) (G1 G2 : List Value) (w : World) (hq0 : w.cell? ⟨q, 0, none⟩ = some u1) (hq1 : w.cell? ⟨q, 1, none⟩ = some u2) (hs1 : SrcC w u1 2 m1 G1) (hs2 : SrcC w u2 2 m2 G2)
    (h1 : ∀ u ∈ G1, u.oneCell' = true) (h2 : ∀ u ∈ G2, u.oneCell' = true) (hm1 : m1 ≤ 100000) (hm2 : m2 ≤ 100000) :
    Calls Tryz.prog 155 #[.slice (some ⟨q, 0, none⟩) 2 2] w fun e w' => ∃ v, e = .returned v ∧ w'.ownsRow w.heap.size 125 2 v (m1 + m2) (G1 ++ G2) ∧ Below w.heap.size w w' := by
  have hql := World.block_lt_of_cell? _ _ hq0
  obtain ⟨a1, k1, e1⟩ := hs1.shape
  obtain ⟨a2, k2, e2⟩ := hs2.shape
  have Hs1 := hide hs1
  have Hs2 := hide hs2
  have Hq0 := hide hq0
  have Hq1 := hide hq1
  have H1 := hide h1
  have H2 := hide h2
  have E1 := hide e1
  have E2 := hide e2
  have q0 := hq0
  have q1 := hq1
  rw [e1] at q0
  rw [e2] at q1
  obtain ⟨m12, hm12⟩ : ∃ x, x = m1 + m2 := ⟨_, rfl⟩
  have zm : (m1 : Int) + (m2 : Int) = (m12 : Int) := by omega
  have lm : m12 ≤ 200000 := by omega
  have HM := hide hm12
  have dn1 : decide ((m1 : Int) < 0) = false := by simp
  have dn2 : decide ((m12 : Int) < 0) = false := by simp
  clear hs1 hs2 hq0 hq1 h1 h2 e1 e2 hm12
  go_enter Tryz.func155, Tryz.ntmps155
  go_wp2
  go_loop [3, 11] (fun s i => (i = .int .i64 0 ∧ s = .int .i64 0) ∨ (i = .int .i64 1 ∧ s = .int .i64 (m1 : Int)) ∨ (i = .int .i64 2 ∧ s = .int .i64 (m12 : Int))) (fun _ i => 2 - (intOf i).toNat)
  case atStart => exact .inl ⟨rfl, rfl⟩
  case round =>
    rcases hrel with ⟨rfl, rfl⟩ | ⟨rfl, rfl⟩ | ⟨rfl, rfl⟩
    · go_wp2
      go_round
      case rel => exact .inr (.inl ⟨rfl, rfl⟩)
      case measure => simp [intOf]
    · go_wp2
      go_round
      case rel => exact .inr (.inr ⟨rfl, rfl⟩)
      case measure => simp [intOf]
    · go_wp2_with fail
      refine (growP_any m12 _ (by omega)).mono ?_; rintro e w1 ⟨v0, rfl, hown0, hb0⟩
      have Hown0 := hide hown0
      clear hown0 q0 q1
      go_wp2
      go_loopw [6, 27] (fun v i wr => ((i = .int .i64 0 ∧ Hid (wr.ownsRow w.heap.size 125 2 v 0 [])) ∨ (i = .int .i64 1 ∧ Hid (wr.ownsRow w.heap.size 125 2 v m1 G1)) ∨ (i = .int .i64 2 ∧ Hid (wr.ownsRow w.heap.size 125 2 v (m1 + m2) (G1 ++ G2)))) ∧ Below w.heap.size w wr) (fun _ i _ => 2 - (intOf i).toNat)
      case atStart => exact ⟨.inl ⟨rfl, Hown0⟩, hb0⟩
      case round =>
        obtain ⟨hrel, hbr⟩ := hrel
        have q0 := (hbr.cell (p := ⟨q, 0, none⟩) hql).trans (unhide Hq0)
        have q1 := (hbr.cell (p := ⟨q, 1, none⟩) hql).trans (unhide Hq1)
        have hb5 := hbr.size
        rcases hrel with ⟨rfl, Ho⟩ | ⟨rfl, Ho⟩ | ⟨rfl, Ho⟩
        · have hlt := (unhide Ho).lt
          go_wp2_with (at_builtin; refine wpList_appP _ rfl (.tmp 31) (.tmp 32) rfl w.heap.size u6 u1 0 m1 [] G1 rfl rfl (unhide Ho) ((unhide Hs1).below hbr) (unhide H1) (by omega) hb5 ?_)
          intro v2 w2 hown2 hgr2 _
          try rw [Nat.zero_add, List.nil_append] at hown2
          have hb2 : Below w.heap.size w w2 := hbr.grown hgr2 hb5 (fun k e => (hlt k e).1)
          have Ho2 := hide hown2
          clear hown2 hgr2 hlt
          go_wp2
          go_roundw
          case rel => exact ⟨.inr (.inl ⟨rfl, Ho2⟩), hb2⟩
          case measure => simp [intOf]
        · have hlt := (unhide Ho).lt
          go_wp2_with (at_builtin; refine wpList_appP _ rfl (.tmp 31) (.tmp 32) rfl w.heap.size u6 u2 m1 m2 G1 G2 rfl rfl (unhide Ho) ((unhide Hs2).below hbr) (unhide H2) (by omega) hb5 ?_)
          intro v2 w2 hown2 hgr2 _
          have hb2 : Below w.heap.size w w2 := hbr.grown hgr2 hb5 (fun k e => (hlt k e).1)
          have Ho2 := hide hown2
          clear hown2 hgr2 hlt
          go_wp2
          go_roundw
          case rel => exact ⟨.inr (.inr ⟨rfl, Ho2⟩), hb2⟩
          case measure => simp [intOf]
        · go_wp2
          go_ret
          exact ⟨_, rfl, unhide Ho, hbr⟩
end Go.Proofs.YtfeljhikeddodadGreatDoor
namespace Go.Proofs.YtfeljhikeddodadGreatDoor
open Go.Shelf Go.RowKit Go.Lib Go.Sort St
set_option maxHeartbeats 16000000 in
set_option maxRecDepth 1000000 in
/-- n places from a on, exchanged with those from b on. -/
theorem swapRange_any {α : Type} [Inhabited α] (enc : α → Value) (g : Nat) (cb : Array Value) (blk off cap a b n : Nat) (d0 d : Array α) (w0 w : World) (R : Row1 enc w0 blk off d0) (hs : d0.size = d.size) (S : SW enc w0 blk off d w) (hab : a + n ≤ b) (hb : b + n ≤ d.size) (hsz : d.size < 4611686018427387904) :
    Calls Tryz.prog 177 #[.slice (some ⟨blk, off, none⟩) d.size cap, .int .i64 a, .int .i64 b, .int .i64 n, .func (.func g) #[] cb] w fun e w' => e = .returned (.tuple #[]) ∧ ∃ d' : Array α, SW enc w0 blk off d' w' ∧ SwR d d' a b n ∧ PermIn a (b + n) d d' := by
  have mixed : Tryz.prog.follows .mixedOrders = true := by kernel_rfl
  have hcl0 := R.hO.cells
  simp only [Value.cells] at hcl0
  have hst := R.hO.store Tryz.prog
  have S0 : Aside (SW enc w0 blk off d w) := S
  clear S
  go_enter Tryz.func177, Tryz.ntmps177
  go_wp2
  go_loopg [10] n (fun g1 vi wr => ∃ (i : Nat) (dk : Array α), vi = .int .i64 i ∧ i ≤ n ∧ n - i ≤ g1 ∧ dk.size = d.size ∧ Aside (SW enc w0 blk off dk wr) ∧ Hid (SwR d dk a b i) ∧ Hid (PermIn a (b + n) d dk))
  case atStart => exact ⟨0, d, rfl, by omega, by omega, rfl, S0, SwR.zero d a b, permIn_refl _ _ _⟩
  case round =>
    clear S0
    obtain ⟨i, dk, rfl, hi, hg1, hsk, S1, H1, H2⟩ := hrel
    by_cases hlt : i < n
    · have hltz : decide ((i : Int) < (n : Int)) = true := by simp; omega
      obtain ⟨ai, hai⟩ : ∃ q, q = a + i := ⟨_, rfl⟩
      obtain ⟨bi, hbi⟩ : ∃ q, q = b + i := ⟨_, rfl⟩
      have zai : (a : Int) + (i : Int) = (ai : Int) := by omega
      have zbi : (b : Int) + (i : Int) = (bi : Int) := by omega
      have H3 : Hid (SwR d (swp dk ai bi) a b (i + 1)) := by rw [hai, hbi]; exact SwR.step (unhide H1) (by omega) (by omega) (by omega)
      have H4 : Hid (PermIn a (b + n) d (swp dk ai bi)) := permIn_trans _ _ _ _ _ (unhide H2) (swp_permIn dk a (b + n) ai bi (by omega) (by omega) (by omega) (by omega) (by omega))
      clear H1 H2
      obtain ⟨qa1, hqa1⟩ : ∃ q, q = ai := ⟨_, rfl⟩
      have ea1 : ((ai : Int)).toNat = qa1 := by omega
      have pa1 : (0 : Int) ≤ (ai : Int) := by omega
      have ba1 : (ai : Int) < (d.size : Int) := by omega
      have ra1 : IntKind.i64.wrap ((ai : Int)) = (ai : Int) := by rw [IntKind.wrap_i64]; omega
      obtain ⟨qb1, hqb1⟩ : ∃ q, q = bi := ⟨_, rfl⟩
      have eb1 : ((bi : Int)).toNat = qb1 := by omega
      have pb1 : (0 : Int) ≤ (bi : Int) := by omega
      have bb1 : (bi : Int) < (d.size : Int) := by omega
      have rb1 : IntKind.i64.wrap ((bi : Int)) = (bi : Int) := by rw [IntKind.wrap_i64]; omega
      obtain ⟨x1, hx1⟩ : ∃ x, x = dk[ai]! := ⟨_, rfl⟩
      obtain ⟨y1, hy1⟩ : ∃ x, x = dk[bi]! := ⟨_, rfl⟩
      have S2 : Aside (SW enc w0 blk off (swp dk (ai) (bi)) ((wr.setCell ⟨blk, off + qa1, none⟩ (enc y1)).setCell ⟨blk, off + qb1, none⟩ (enc x1)).drew) := by rw [hqa1, hqb1, hx1, hy1]; exact S1.out.swapped R (ai) (bi) (by omega) (by omega)
      have ca1 := S1.out.c1 R (by omega) (ai) (by omega)
      have cb1 := S1.out.c1 R (by omega) (bi) (by omega)
      have fa1 := S1.out.f1 R (by omega) (ai) (by omega)
      have fb1 := S1.out.f1 R (by omega) (bi) (by omega)
      obtain ⟨u1, cc1⟩ := S1.out.c2 R (by omega) (ai) (bi) (by omega) (by omega) (enc y1)
      rw [← hqb1, ← hqa1] at cc1
      rw [← hx1, ← hqa1] at ca1
      rw [← hy1, ← hqb1] at cb1
      rw [← hqa1] at fa1
      rw [← hqb1] at fb1
      clear S1 hx1 hy1 hqa1 hqb1 hai hbi
      go_wp2_with fail
      go_region
      clear ca1 cb1 cc1 fa1 fb1
      generalize ((wr.setCell ⟨blk, off + qa1, none⟩ (enc y1)).setCell ⟨blk, off + qb1, none⟩ (enc x1)).drew = w2 at S2 ⊢
      clear ea1 eb1 pa1 pb1 ba1 bb1 ra1 rb1
      go_wp2
      go_roundg (n - (i + 1))
      case measure => omega
      case rel => exact ⟨i + 1, swp dk ai bi, by go_num, by omega, Nat.le_refl _, by rw [size_swp]; exact hsk, S2, H3, H4⟩
    · have hltz : decide ((i : Int) < (n : Int)) = false := by simp; omega
      obtain rfl : i = n := by omega
      go_wp2
      go_end0
      exact ⟨rfl, dk, S1.out, unhide H1, unhide H2⟩
end Go.Proofs.YtfeljhikeddodadGreatDoor
namespace Go.Proofs.YtfeljhikeddodadGreatDoor
open Go.Shelf Go.RowKit Go.Lib Go.Sort St
set_option maxHeartbeats 16000000 in
set_option maxRecDepth 1000000 in
/-- [a, m) and [m, b), turned round. -/
theorem rotate_any {α : Type} [Inhabited α] (enc : α → Value) (g : Nat) (cb : Array Value) (blk off cap a m b : Nat) (d0 d : Array α) (w0 w : World) (R : Row1 enc w0 blk off d0) (hs : d0.size = d.size) (S : SW enc w0 blk off d w) (ham : a < m) (hmb : m < b) (hb : b ≤ d.size) (hsz : d.size < 4611686018427387904) :
    Calls Tryz.prog 175 #[.slice (some ⟨blk, off, none⟩) d.size cap, .int .i64 a, .int .i64 m, .int .i64 b, .func (.func g) #[] cb] w fun e w' => e = .returned (.tuple #[]) ∧ ∃ d' : Array α, SW enc w0 blk off d' w' ∧ Rot d d' a m b ∧ PermIn a b d d' := by
  have S0 : Aside (SW enc w0 blk off d w) := S
  clear S
  obtain ⟨i0, hi0⟩ : ∃ q, q = m - a := ⟨_, rfl⟩
  obtain ⟨j0, hj0⟩ : ∃ q, q = b - m := ⟨_, rfl⟩
  have zi0 : (m : Int) - (a : Int) = (i0 : Int) := by omega
  have zj0 : (b : Int) - (m : Int) = (j0 : Int) := by omega
  have Hi0 := hide hi0
  have Hj0 := hide hj0
  clear hi0 hj0
  go_enter Tryz.func175, Tryz.ntmps175
  go_wp2
  go_loopg [10, 11] (i0 + j0) (fun g1 vi vj wr => ∃ (i j : Nat) (dk : Array α), vi = .int .i64 i ∧ vj = .int .i64 j ∧ 0 < i ∧ 0 < j ∧ a + i ≤ m ∧ m + j ≤ b ∧ i + j ≤ g1 ∧ dk.size = d.size ∧ Aside (SW enc w0 blk off dk wr) ∧
    Hid (∀ t, rt (fun i => d[i]!) a m b t = rt (fun i => dk[i]!) (m - i) m (m + j) t) ∧ Hid (PermIn a b d dk))
  case atStart => exact ⟨i0, j0, d, rfl, rfl, by omega, by omega, by omega, by omega, Nat.le_refl _, rfl, S0, fun t => by rw [show m - i0 = a by omega, show m + j0 = b by omega], permIn_refl _ _ _⟩
  case round =>
    clear S0 Hi0 Hj0 zi0 zj0
    obtain ⟨i, j, dk, rfl, rfl, hi, hj, hai, hjb, hg1, hsk, S1, H1, H2⟩ := hrel
    obtain ⟨mi, hmi⟩ : ∃ q, q = m - i := ⟨_, rfl⟩
    have zmi : (m : Int) - (i : Int) = (mi : Int) := by omega
    have zij : (i : Int) - (j : Int) = ((i : Int) - (j : Int)) := rfl
    clear zij
    rcases Nat.lt_trichotomy i j with hlt | heq | hgt
    · have d1 : ((i : Int) == (j : Int)) = false := by simp; omega
      have d2 : decide ((i : Int) = (j : Int)) = false := by simp; omega
      have d3 : decide ((j : Int) < (i : Int)) = false := by simp; omega
      have d4 : decide ((i : Int) > (j : Int)) = false := by simp; omega
      obtain ⟨ji, hji⟩ : ∃ q, q = j - i := ⟨_, rfl⟩
      obtain ⟨mji, hmji⟩ : ∃ q, q = m + j - i := ⟨_, rfl⟩
      have zji : (j : Int) - (i : Int) = (ji : Int) := by omega
      have zmji : (m : Int) + (j : Int) - (i : Int) = (mji : Int) := by omega
      have Hmi := hide hmi
      have Hji := hide hji
      have Hmji := hide hmji
      have Hlt := hide hlt
      have hcon := swapRange_any enc  g cb blk off cap mi mji i d0 dk w0 wr R (by omega) S1.out (by omega) (by omega) (by omega)
      rw [hsk] at hcon
      have HCON := hide hcon
      clear S1 hcon hmi hji hmji hlt
      go_wp2_with fail
      refine (unhide HCON).mono ?_
      rintro e w2 ⟨rfl, d2, S2, h1, h2⟩
      clear HCON
      have S3 : Aside (SW enc w0 blk off d2 w2) := S2
      clear S2
      have h3 := h2.1
      go_wp2
      go_roundg (i + ji)
      case measure => have := unhide Hji; have := unhide Hlt; omega
      case rel =>
        have q1 := unhide Hmi
        have q2 := unhide Hji
        have q3 := unhide Hmji
        have q4 := unhide Hlt
        refine ⟨i, ji, d2, rfl, rfl, hi, by omega, hai, by omega, Nat.le_refl _, h3.trans hsk, S3, fun t => ?_, permIn_trans _ _ _ _ _ (unhide H2) (permIn_mono _ _ mi (mji + i) a b (by omega) (by omega) (by omega) h2)⟩
        subst q1 q2 q3
        exact (unhide H1 t).trans (rt_right (by omega) q4 h1 t)
    · subst heq
      have Hmi := hide hmi
      have hcon := swapRange_any enc  g cb blk off cap mi m i d0 dk w0 wr R (by omega) S1.out (by omega) (by omega) (by omega)
      rw [hsk] at hcon
      have HCON := hide hcon
      clear S1 hcon hmi
      go_wp2_with fail
      refine (unhide HCON).mono ?_
      rintro e w2 ⟨rfl, d2, S2, h1, h2⟩
      clear HCON
      have S3 : Aside (SW enc w0 blk off d2 w2) := S2
      clear S2
      have h3 := h2.1
      go_wp2
      go_end0
      refine ⟨rfl, d2, S3.out, fun t => ?_, permIn_trans _ _ _ _ _ (unhide H2) (permIn_mono _ _ mi (m + i) a b (by have := unhide Hmi; omega) (by omega) (by omega) h2)⟩
      have q1 := unhide Hmi
      subst q1
      exact ((unhide H1 t).trans (rt_same (by omega) h1 t)).symm
    · have d1 : ((i : Int) == (j : Int)) = false := by simp; omega
      have d2 : decide ((i : Int) = (j : Int)) = false := by simp; omega
      have d3 : decide ((j : Int) < (i : Int)) = true := by simp; omega
      have d4 : decide ((i : Int) > (j : Int)) = true := by simp; omega
      obtain ⟨ij, hij⟩ : ∃ q, q = i - j := ⟨_, rfl⟩
      have zij : (i : Int) - (j : Int) = (ij : Int) := by omega
      have Hmi := hide hmi
      have Hij := hide hij
      have Hgt := hide hgt
      have hcon := swapRange_any enc  g cb blk off cap mi m j d0 dk w0 wr R (by omega) S1.out (by omega) (by omega) (by omega)
      rw [hsk] at hcon
      have HCON := hide hcon
      clear S1 hcon hmi hij hgt
      go_wp2_with fail
      refine (unhide HCON).mono ?_
      rintro e w2 ⟨rfl, d2, S2, h1, h2⟩
      clear HCON
      have S3 : Aside (SW enc w0 blk off d2 w2) := S2
      clear S2
      have h3 := h2.1
      go_wp2
      go_roundg (ij + j)
      case measure => have := unhide Hij; have := unhide Hgt; omega
      case rel =>
        have q1 := unhide Hmi
        have q2 := unhide Hij
        have q4 := unhide Hgt
        refine ⟨ij, j, d2, rfl, rfl, by omega, hj, by omega, hjb, Nat.le_refl _, h3.trans hsk, S3, fun t => ?_, permIn_trans _ _ _ _ _ (unhide H2) (permIn_mono _ _ mi (m + j) a b (by omega) (by omega) (by omega) h2)⟩
        subst q1 q2
        exact (unhide H1 t).trans (rt_left (by omega) q4 h1 t)
end Go.Proofs.YtfeljhikeddodadGreatDoor
