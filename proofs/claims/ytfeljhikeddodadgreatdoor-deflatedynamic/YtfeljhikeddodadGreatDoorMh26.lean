/- What the walk of the document's symbols wants: a token more; what is counted; what fails and goes on. The document's reading of symbols in memory: what stays as it was. -/
import Derived.Test.YtfeljhikeddodadGreatDoorMh25
namespace Go.Proofs.YtfeljhikeddodadGreatDoor
open Go.RowKit Pm Cn Cd Nf

theorem info_tok : (Tryz.prog.info? 51).map (fun i => (i.zero, i.size, i.bytes)) = some (some (.agg #[.int .u8 0, .int .i64 0, .int .i64 0]), 3, 24) := by kernel_rfl
theorem app_tok (w : World) (base q n : Nat) (v : Value) (xs : List Value) (b : Nat) (x y : Int) (t : TypeId) (hown : w.ownsRow base 51 3 v n xs) (h0 : w.cell? ⟨q, 0, none⟩ = some (.int .u8 (b : Int))) (h1 : w.cell? ⟨q, 1, none⟩ = some (.int .i64 x)) (h2 : w.cell? ⟨q, 2, none⟩ = some (.int .i64 y)) (hn : n ≤ 1000000) (hb : base ≤ w.heap.size) :
    ∃ v' w', (Builtin.append_ #[22, 22] t #[v, .slice (some ⟨q, 0, none⟩) 1 1]).run Tryz.prog w = .ok v' w' ∧ w'.ownsRow base 51 3 v' (n + 1) (xs ++ [.int .u8 (b : Int), .int .i64 x, .int .i64 y]) ∧ w.grownBy w' v.ownBlock ∧ (v'.ownBlock = v.ownBlock ∨ v'.ownBlock = some w.heap.size) := by
  obtain ⟨i0, hi, hz0, hz1, hz2⟩ := info_parts info_tok
  obtain ⟨v', w', a1, a2, a3, _, a5⟩ := run_append_own_at (P := Tryz.prog) w base 22 t 51 i0 (.agg #[.int .u8 0, .int .i64 0, .int .i64 0]) 3 24 Tryz.underlying22 hi hz0 hz1 hz2 rfl (by omega) v n xs hown ⟨q, 0, none⟩ 1 1 [.int .u8 (b : Int), .int .i64 x, .int .i64 y] rfl (fun j u hj => by
    rw [addr_add, Nat.zero_add]
    match j, hj with
    | 0, hj => rw [h0]; simpa using hj
    | 1, hj => rw [h1]; simpa using hj
    | 2, hj => rw [h2]; simpa using hj
    | j + 3, hj => simp at hj) (fun u hu => by
    simp only [List.mem_cons, List.not_mem_nil, or_false] at hu
    rcases hu with rfl | rfl | rfl <;> rfl) (by unfold maxLen; omega) (by omega) hb
  exact ⟨v', w', a1, a2, a3, a5⟩
theorem wpList_appT (w : World) {ops : Array Oper} {rest : List Oper} {o : Oper} {a : Act} {Q : Exit → Act → World → Prop} (hgd : o.guard = none) (s x : Operand)
    (ho : o.op = .call { callee := .builtin .append, args := #[s, x], argTypes := #[22, 22] }) (base q n : Nat) (v : Value) (xs : List Value) (b : Nat) (y z : Int) (hs : a.eval s = v) (hx : a.eval x = .slice (some ⟨q, 0, none⟩) 1 1)
    (hown : w.ownsRow base 51 3 v n xs) (h0 : w.cell? ⟨q, 0, none⟩ = some (.int .u8 (b : Int))) (h1 : w.cell? ⟨q, 1, none⟩ = some (.int .i64 y)) (h2 : w.cell? ⟨q, 2, none⟩ = some (.int .i64 z)) (hn : n ≤ 1000000) (hb : base ≤ w.heap.size)
    (h : ∀ v' w', w'.ownsRow base 51 3 v' (n + 1) (xs ++ [.int .u8 (b : Int), .int .i64 y, .int .i64 z]) → w.grownBy w' v.ownBlock → (v'.ownBlock = v.ownBlock ∨ v'.ownBlock = some w.heap.size) → wpList Tryz.prog ops Q rest (a.put o.dst v') w') : wpList Tryz.prog ops Q (o :: rest) a w := by
  obtain ⟨v', w', a1, a2, a3, a4⟩ := app_tok w base q n v xs b y z o.type hown h0 h1 h2 hn hb
  refine wpList_plain hgd fun _ hK => ?_
  unfold Oper.wp execOp
  simp only [ho, resolve, invoke, builtin, Sem.run_bind, Sem.run_pure, Result.andThen_ok, List.map_toArray, List.map_cons, List.map_nil, hs, hx, a1]
  exact hK _ _ (h v' w' a2 a3 a4)
/-- One more of this. -/
def bump (c : Nat → Nat) (i : Nat) : Nat → Nat := fun j => if j = i then c j + 1 else c j
/-- Counts in a row: none above a bound. -/
def Ur (w : World) (g n b : Nat) (c : Nat → Nat) : Prop := ∀ i, i < n → (c i ≤ b ∧ w.cell? ⟨g, i, none⟩ = some (.int .i64 (c i : Int))) ∧ w.frozen? ⟨g, i, none⟩ = false
theorem Ur.but {w w' : World} {g n b d : Nat} {c : Nat → Nat} {S : Nat → Prop} (h : Ur w g n b c) (hb : But S w w') (hs : ¬ S g) (hc : b ≤ d) : Ur w' g n d c := fun i hi => by
  obtain ⟨⟨hy, h1⟩, h2⟩ := h i hi
  have hg := World.block_lt_of_cell? _ _ h1
  simp only at hg
  exact ⟨⟨by omega, (hb.cell (p := ⟨g, i, none⟩) hg hs).trans h1⟩, (hb.frozen (p := ⟨g, i, none⟩) hg hs).trans h2⟩
theorem Ur.set {w : World} {g n b : Nat} {c : Nat → Nat} (h : Ur w g n b c) (j y : Nat) (hj : j < n) (hyc : y = c j + 1) (hy : y ≤ b) : Ur (w.setCell ⟨g, j, none⟩ (.int .i64 (y : Nat))) g n b (bump c j) := fun i hi => by
  obtain ⟨⟨hz, h1⟩, h2⟩ := h i hi
  refine ⟨?_, by rw [World.frozen?_setCell]; exact h2⟩
  unfold bump
  by_cases e : i = j
  · subst e
    rw [if_pos rfl, ← hyc]
    exact ⟨hy, World.cell?_setCell_same _ _ _ h1⟩
  · rw [if_neg e]
    exact ⟨hz, by rw [World.cell?_setCell_other _ _ _ _ (by intro q; injection q with _ q; omega)]; exact h1⟩
theorem Ur.of_ar {w : World} {g n : Nat} (h : AR w g n (fun _ => 0)) (b : Nat) : Ur w g n b (fun _ => 0) := fun i hi => ⟨⟨Nat.zero_le _, (h i hi).1⟩, (h i hi).2⟩
/-- The row of words is as it was. -/
theorem Ws.kr {w w' : World} {R g N : Nat} {l : Nat → Nat} {S : Nat → Prop} (h : Ws w g N l) (hk : KR R S w w') (h0 : ¬ S g) (h1 : g ≠ R) (h2 : g ≠ rowA w R 2) (h3 : g ≠ rowA w R 11) : Ws w' g N l := fun i hi => by
  have h4 := h i hi
  have hg := World.block_lt_of_cell? _ _ h4
  exact (hk.cell (p := ⟨g, i, none⟩) hg h0 h1 h2 h3).trans h4
/-- How far a walk has to go at most. -/
def msr (w : World) (R nb : Nat) : Nat :=
  match w.cell? ⟨R, 4, none⟩ with
  | some (.int _ n) => if n = 0 then 1 + (nb - posAt w R) else 0
  | _ => 0
section
variable {R : Nat} {s : ByteArray} {k : Nat} {out : List UInt8} {most : Nat} {xe : Ex}

theorem Rg.pos {w : World} (h : Rg w R s k out most xe) : posAt w R = k := by unfold posAt; rw [h.at_]; simp
theorem Rg.msr {w : World} (h : Rg w R s k out most xe) (nb : Nat) : msr w R nb = 1 + (nb - k) := by
  have := h.pos
  unfold Go.Proofs.YtfeljhikeddodadGreatDoor.msr; rw [h.err]; simp [this]
theorem Rf.msr {w : World} {er : Nat} (h : Rf w R er) (nb : Nat) : msr w R nb = 0 := by
  unfold Go.Proofs.YtfeljhikeddodadGreatDoor.msr; rw [h.err]
  rcases h.pos with e | e <;> subst e <;> rfl
theorem rfail_set (er : Nat) (w : World) (h : Rg w R s k out most xe) :
    Calls Tryz.prog 49 #[.pointer (some ⟨R, 0, none⟩), .int .i64 (er : Int)] w fun e w' => e = .returned (.tuple #[]) ∧ w' = w.setCell ⟨R, 4, none⟩ (.int .i64 (er : Int)) := by
  have h0 := h.err
  have h1 := h.free 4
  clear h
  go_enter Tryz.func49, Tryz.ntmps49
  go_wp2
  go_end0
  exact ⟨rfl, rfl⟩
/-- A reading with an error, its tokens known still. -/
structure Rx (w : World) (R er : Nat) : Prop where
  bad : Rf w R er
  toks : ∃ a n c xs, w.cell? ⟨R, 11, none⟩ = some (.slice a n c) ∧ w.ownsRow (R + 1) 51 3 (.slice a n c) n xs ∧ n ≤ 300000
theorem own_shape3 {w : World} {base n : Nat} {e : TypeId} {v : Value} {xs : List Value} (h : w.ownsRow base e 3 v n xs) : ∃ a c, v = .slice a n c := by
  rcases h.2 with ⟨rfl, rfl⟩ | ⟨g, c, cur, rfl, _⟩
  · exact ⟨none, 0, rfl⟩
  · exact ⟨_, c, rfl⟩
theorem Rg.failedX {w : World} {er : Nat} (h : Rg w R s k out most xe) (he : er = 1 ∨ er = 2) (hq : xe.q ≤ 300000) : Rx (w.setCell ⟨R, 4, none⟩ (.int .i64 (er : Int))) R er := by
  obtain ⟨v, xs, hv, hown⟩ := h.toks
  obtain ⟨a, c, rfl⟩ := own_shape3 hown
  refine ⟨h.failed he, a, xe.q, c, xs, ?_, ownsRow_setCell_below hown (by show R < R + 1; omega) _, hq⟩
  rw [cell_set w R 4 11 _ _ h.err, if_neg (by omega)]; exact hv
theorem Rx.below {w w' : World} {er : Nat} (h : Rx w R er) (hb : Below w.heap.size w w') : Rx w' R er := by
  obtain ⟨a, n, c, xs, hv, hown, hn⟩ := h.toks
  refine ⟨h.bad.below hb h.bad.lt, a, n, c, xs, (hb.cell (p := ⟨R, 11, none⟩) h.bad.lt).trans hv, own_here hown (fun g e => hb.block g (hown.lt g e).2), hn⟩
theorem rfailX (er : Nat) (w : World) (h : Rg w R s k out most xe) (he : er = 1 ∨ er = 2) (hq : xe.q ≤ 300000) :
    Calls Tryz.prog 49 #[.pointer (some ⟨R, 0, none⟩), .int .i64 (er : Int)] w fun e w' => e = .returned (.tuple #[]) ∧ Rx w' R er ∧ But (· = R) w w' := by
  refine (rfail_set er w h).mono ?_
  rintro e w' ⟨rfl, rfl⟩
  exact ⟨rfl, h.failedX he hq, (But.refl (· = R) w).setCell (p := ⟨R, 4, none⟩) rfl _⟩
theorem rgetX (d : Nat) (w : World) (h : Rg w R s k out most xe) (hd : d ≤ 32) (hq : xe.q ≤ 300000) :
    Calls Tryz.prog 45 #[.pointer (some ⟨R, 0, none⟩), .int .i64 (d : Int)] w fun e w' =>
      (∃ x, get (tv s) (8 * s.size) k d = some x ∧ x < 2 ^ d ∧ e = .returned (.int .i64 (x : Nat)) ∧ Rg w' R s (k + d) out most xe ∧ But (· = R) w w' ∧ Rw R w w') ∨
      (get (tv s) (8 * s.size) k d = none ∧ e = .returned (.int .i64 0) ∧ Rx w' R 1 ∧ But (· = R) w w') := by
  by_cases hfit : k + d ≤ 8 * s.size
  · refine (rget_any d w h hd).mono ?_
    rintro e w' (⟨a1, rfl, a2, a3, a4⟩ | ⟨a1, _⟩)
    · exact .inl ⟨_, get_some hfit, Nat.mod_lt _ (Nat.two_pow_pos d), rfl, a2, a3, a4⟩
    · exact absurd hfit a1
  · have HO := hide (fun n => rok_yes (w.drewN n) (h.drewN n))
    have HF := hide (fun n => rfailX 1 (w.drewN n) (h.drewN n) (.inl rfl) hq)
    have h0 := h.bits
    have h1 := h.at_
    have hwi := h.within
    have hfw := h.few
    have hsz := bt_size (8 * s.size) (tv s)
    have HG := hide (get_none (V := tv s) hfit)
    obtain ⟨nb, hnb⟩ : ∃ nb, nb = 8 * s.size := ⟨_, rfl⟩
    rw [← hnb] at hsz h0 hwi HG hfit ⊢
    have hszi : ((bt nb (tv s)).size : Int) = (nb : Int) := by omega
    have hnl : nb ≤ 160000 := by omega
    have d1 : decide ((k : Int) + (d : Int) > (nb : Int)) = true := by simp; omega
    have d2 : decide ((nb : Int) < (k : Int) + (d : Int)) = true := d1
    have d3 : decide (nb < k + d) = true := by simp; omega
    clear h hnb
    go_enter Tryz.func45, Tryz.ntmps45
    go_wp2
    go_quiet (first | (go_at_call 44; exact Calls.quiet_of_same (unhide HO _)))
    go_wp2_with fail
    refine (unhide HF _).mono ?_; rintro e w1 ⟨rfl, hf1, hb1⟩
    go_wp2
    go_ret
    exact .inr ⟨unhide HG, rfl, hf1, But.quiet hb1⟩
/-- The world in which symbols are read: two rows of counts more. -/
def wW (w : World) (R : Nat) : World := (((w.setCell ⟨R, 7, none⟩ (.slice (some ⟨w.heap.size, 0, none⟩) 300 300)).setCell ⟨R, 8, none⟩ (.slice (some ⟨w.heap.size + 1, 0, none⟩) 40 40)).alloc (.cells (madeCells #[.int .i64 0] 300) 3)).alloc (.cells (madeCells #[.int .i64 0] 40) 3)
theorem wW_size (w : World) (R : Nat) : (wW w R).heap.size = w.heap.size + 2 := by unfold wW; simp [World.setCell]
theorem wW_but (w : World) (R : Nat) : But (· = R) w (wW w R) := ((((But.refl (· = R) w).setCell (p := ⟨R, 7, none⟩) rfl _).setCell (p := ⟨R, 8, none⟩) rfl _).alloc _).alloc _
theorem wW_cell {w : World} {R : Nat} {v7 v8 : Value} (h7 : w.cell? ⟨R, 7, none⟩ = some v7) (h8 : w.cell? ⟨R, 8, none⟩ = some v8) (j : Nat) : (wW w R).cell? ⟨R, j, none⟩ = if j = 8 then some (.slice (some ⟨w.heap.size + 1, 0, none⟩) 40 40) else if j = 7 then some (.slice (some ⟨w.heap.size, 0, none⟩) 300 300) else w.cell? ⟨R, j, none⟩ := by
  have hR : R < w.heap.size := World.block_lt_of_cell? _ _ h7
  unfold wW
  rw [World.cell?_alloc_lt _ _ ⟨R, j, none⟩ (by simp [World.setCell]; omega), World.cell?_alloc_lt _ _ ⟨R, j, none⟩ (by simp [World.setCell]; omega)]
  have e8 : (w.setCell ⟨R, 7, none⟩ (.slice (some ⟨w.heap.size, 0, none⟩) 300 300)).cell? ⟨R, 8, none⟩ = some v8 := by rw [cell_set w R 7 8 _ _ h7, if_neg (by omega)]; exact h8
  rw [cell_set _ R 8 j _ _ e8]
  split
  · rfl
  · rw [cell_set w R 7 j _ _ h7]
theorem wW_frozen {w : World} {R : Nat} (hR : R < w.heap.size) (j : Nat) : (wW w R).frozen? ⟨R, j, none⟩ = w.frozen? ⟨R, j, none⟩ := by
  have e : (wW w R).heap[R]? = ((w.setCell ⟨R, 7, none⟩ (.slice (some ⟨w.heap.size, 0, none⟩) 300 300)).setCell ⟨R, 8, none⟩ (.slice (some ⟨w.heap.size + 1, 0, none⟩) 40 40)).heap[R]? := by
    unfold wW
    rw [Below.heap_alloc _ _ _ (by simp [World.setCell]; omega), Below.heap_alloc _ _ _ (by simp [World.setCell]; omega)]
  rw [World.frozen?_of_block (a := ⟨R, j, none⟩) e, frozen_set, frozen_set]
theorem wW_uses (w : World) (R : Nat) (b : Nat) : Ur (wW w R) w.heap.size 300 b (fun _ => 0) ∧ Ur (wW w R) (w.heap.size + 1) 40 b (fun _ => 0) := by
  obtain ⟨u, hu⟩ : ∃ u, u = (w.setCell ⟨R, 7, none⟩ (.slice (some ⟨w.heap.size, 0, none⟩) 300 300)).setCell ⟨R, 8, none⟩ (.slice (some ⟨w.heap.size + 1, 0, none⟩) 40 40) := ⟨_, rfl⟩
  have hs : u.heap.size = w.heap.size := by rw [hu]; simp [World.setCell]
  have hs2 : (u.alloc (.cells (madeCells #[.int .i64 0] 300) 3)).heap.size = w.heap.size + 1 := by simp [hs]
  have e : wW w R = (u.alloc (.cells (madeCells #[.int .i64 0] 300) 3)).alloc (.cells (madeCells #[.int .i64 0] 40) 3) := by unfold wW; rw [← hu]
  have a1 := AR.made u 300 (by omega)
  have a2 := AR.made (u.alloc (.cells (madeCells #[.int .i64 0] 300) 3)) 40 (by omega)
  rw [hs] at a1
  rw [hs2] at a2
  rw [e]
  exact ⟨Ur.of_ar (a1.below ((Below.refl _ _).alloc (Nat.le_refl _) _)) b, Ur.of_ar a2 b⟩
theorem Rf.opened {w : World} {er : Nat} (h : Rf w R er) : Rf (wW w R) R er := by
  obtain ⟨v7, c7⟩ := h.others 7 (by omega)
  obtain ⟨v8, c8⟩ := h.others 8 (by omega)
  refine ⟨by rw [wW_cell c7 c8, if_neg (by omega), if_neg (by omega)]; exact h.err, h.pos, fun j hj => ?_, fun j => by rw [wW_frozen h.lt]; exact h.free j⟩
  rw [wW_cell c7 c8]
  split
  · exact ⟨_, rfl⟩
  · split
    · exact ⟨_, rfl⟩
    · exact h.others j hj
theorem Rg.opened {w : World} (h : Rg w R s k out most xe) : Rg (wW w R) R s k out most { xe with u7 := slc (some ⟨w.heap.size, 0, none⟩) 300 300, u8 := slc (some ⟨w.heap.size + 1, 0, none⟩) 40 40 } ∧ Rw R w (wW w R) := by
  have hc := fun j => wW_cell h.uses7 h.uses8 j
  exact h.turned (wW_but w R) (fun j _ hj => by rw [hc, if_neg (by omega), if_neg (by omega)]) (by rw [hc, if_neg (by omega), if_neg (by omega)]; exact h.at_) ⟨by rw [hc, if_neg (by omega), if_neg (by omega)]; exact h.f5, by rw [hc, if_neg (by omega), if_neg (by omega)]; exact h.f6⟩ (by rw [hc, if_neg (by omega), if_pos rfl]) (by rw [hc, if_pos rfl]) ⟨rfl, rfl⟩ ⟨by rw [hc, if_neg (by omega), if_neg (by omega)]; exact h.f9, by rw [hc, if_neg (by omega), if_neg (by omega)]; exact h.f10⟩ (fun j => wW_frozen h.lt j) h.within
end
end Go.Proofs.YtfeljhikeddodadGreatDoor
namespace Go.Proofs.YtfeljhikeddodadGreatDoor
open Go.RowKit Pm Cn Cd Nf

/-- Words of a right code, apart from the reading. -/
structure Wz (w : World) (R g N : Nat) (l : Nat → Nat) : Prop where
  ws : Ws w g N l
  le : ∀ i, i < N → l i ≤ 15
  few : N ≤ 300
  all : all l N ≤ 32768
  ap1 : g ≠ R
  ap2 : g ≠ rowA w R 2
  ap3 : g ≠ rowA w R 11
  lt : g < w.heap.size
theorem Wz.kr {w w' : World} {R g N : Nat} {l : Nat → Nat} {S : Nat → Prop} (h : Wz w R g N l) (hk : KR R S w w') (h0 : ¬ S g) : Wz w' R g N l := by
  have hl := h.lt
  have hs := hk.but.size
  refine ⟨h.ws.kr hk h0 h.ap1 h.ap2 h.ap3, h.le, h.few, h.all, h.ap1, ?_, ?_, by omega⟩
  · rcases hk.row2 with e | e
    · rw [e]; exact h.ap2
    · omega
  · rcases hk.row11 with e | e
    · rw [e]; exact h.ap3
    · omega
/-- What was read since a run of symbols began: bits, bytes, the tokens' cells, how often each symbol and each distance stood. -/
inductive Trc (V nb most : Nat) (l1 : Nat → Nat) (N1 : Nat) (l2 : Nat → Nat) (N2 : Nat) (s0 : St) (t0 : List Value) : St → List Value → (Nat → Nat) → (Nat → Nat) → Prop where
  | start : Trc V nb most l1 N1 l2 N2 s0 t0 s0 t0 (fun _ => 0) (fun _ => 0)
  | byte {k i : Nat} {o : List UInt8} {ts : List Value} {c7 c8 : Nat → Nat} (h : Trc V nb most l1 N1 l2 N2 s0 t0 (k, o) ts c7 c8) (hw : wd V nb l1 N1 k = some i) (hi : i < 256) (hr : o.length < most) :
      Trc V nb most l1 N1 l2 N2 s0 t0 (k + l1 i, o ++ [UInt8.ofNat i]) (ts ++ [.int .u8 ((UInt8.ofNat i).toNat : Int), .int .i64 0, .int .i64 0]) (bump c7 i) c8
  | far {k i x d y : Nat} {o : List UInt8} {ts : List Value} {c7 c8 : Nat → Nat} (h : Trc V nb most l1 N1 l2 N2 s0 t0 (k, o) ts c7 c8) (hw : wd V nb l1 N1 k = some i) (h1 : 256 < i) (h2 : i < 286) (hx : get V nb (k + l1 i) (lenBits (i - 257)) = some x)
      (hd : wd V nb l2 N2 (k + l1 i + lenBits (i - 257)) = some d) (hd30 : d < 30) (hy : get V nb (k + l1 i + lenBits (i - 257) + l2 d) (distBits d) = some y) (hb : ¬ o.length < dists.getD d 0 + y) (hm : ¬ most < o.length + (lens.getD (i - 257) 0 + x)) :
      Trc V nb most l1 N1 l2 N2 s0 t0 (k + l1 i + lenBits (i - 257) + l2 d + distBits d, copied o (dists.getD d 0 + y) (lens.getD (i - 257) 0 + x)) (ts ++ [.int .u8 0, .int .i64 ((lens.getD (i - 257) 0 + x : Nat) : Int), .int .i64 ((dists.getD d 0 + y : Nat) : Int)]) (bump c7 i) (bump c8 d)
/-- A reading inside a run of symbols: W the world in which it began. -/
structure Wk (W : World) (R g : Nat) (s : ByteArray) (c7 c8 : Nat → Nat) (w : World) (k : Nat) (out : List UInt8) (most : Nat) (x : Ex) : Prop where
  rg : Rg w R s k out most x
  e7 : x.u7.1 = .slice (some ⟨g, 0, none⟩) 300 300
  e8 : x.u8.1 = .slice (some ⟨g + 1, 0, none⟩) 40 40
  qs : x.q ≤ out.length
  us7 : Ur w g 300 k c7
  us8 : Ur w (g + 1) 40 k c8
  kr : KR R (fun j => j = g ∨ j = g + 1) W w
  ltR : R < g
  lt2 : rowA W R 2 < g
  lt11 : rowA W R 11 < g
  size : W.heap.size = g + 2
section
variable {W w w' : World} {R g : Nat} {s : ByteArray} {c7 c8 : Nat → Nat} {k k' : Nat} {out : List UInt8} {most : Nat} {x : Ex}

theorem Wk.rows (h : Wk W R g s c7 c8 w k out most x) : (rowA w R 2 < g ∨ g + 2 ≤ rowA w R 2) ∧ (rowA w R 11 < g ∨ g + 2 ≤ rowA w R 11) := by
  have a := h.lt2
  have b := h.lt11
  have c := h.size
  constructor
  · rcases h.kr.row2 with e | e
    · left; omega
    · right; omega
  · rcases h.kr.row11 with e | e
    · left; omega
    · right; omega
theorem Wk.lt (h : Wk W R g s c7 c8 w k out most x) : g + 2 ≤ w.heap.size := by have := h.kr.but.size; have := h.size; omega
theorem Wk.but (h : Wk W R g s c7 c8 w k out most x) (hb : But (· = R) w w') (hr : Rw R w w') (hg : Rg w' R s k' out most x) (hk : k ≤ k') : Wk W R g s c7 c8 w' k' out most x := by
  have := h.ltR
  exact ⟨hg, h.e7, h.e8, h.qs, h.us7.but hb (by omega) hk, h.us8.but hb (by omega) hk, h.kr.trans (KR.of hb hr), h.ltR, h.lt2, h.lt11, h.size⟩
theorem Wk.below (h : Wk W R g s c7 c8 w k out most x) (hb : Below w.heap.size w w') : Wk W R g s c7 c8 w' k out most x := by
  have hl := h.rg.lt
  exact h.but ((But.refl _ _).of_below hb (fun k h1 h2 => by omega)) (h.rg.still hb).2 (h.rg.still hb).1 (Nat.le_refl _)
theorem Wk.use7 (h : Wk W R g s c7 c8 w k out most x) (i y : Nat) (hi : i < 300) (hyc : y = c7 i + 1) (hy : y ≤ k) : Wk W R g s (bump c7 i) c8 (w.setCell ⟨g, i, none⟩ (.int .i64 (y : Nat))) k out most x := by
  have hr := h.rows
  have hR := h.ltR
  have hb : But (· = g) w (w.setCell ⟨g, i, none⟩ (.int .i64 (y : Nat))) := (But.refl (· = g) w).setCell (p := ⟨g, i, none⟩) rfl _
  obtain ⟨a, b⟩ := h.rg.aparts hb (by omega) (by omega) (by omega)
  exact ⟨a, h.e7, h.e8, h.qs, h.us7.set i y hi hyc hy, h.us8.but hb (by omega) (Nat.le_refl _), h.kr.trans ⟨hb.mono (fun _ _ q => .inl (.inl q)), .inl b.1, .inl b.2⟩, hR, h.lt2, h.lt11, h.size⟩
theorem Wk.use8 (h : Wk W R g s c7 c8 w k out most x) (i y : Nat) (hi : i < 40) (hyc : y = c8 i + 1) (hy : y ≤ k) : Wk W R g s c7 (bump c8 i) (w.setCell ⟨g + 1, i, none⟩ (.int .i64 (y : Nat))) k out most x := by
  have hr := h.rows
  have hR := h.ltR
  have hb : But (· = g + 1) w (w.setCell ⟨g + 1, i, none⟩ (.int .i64 (y : Nat))) := (But.refl (· = g + 1) w).setCell (p := ⟨g + 1, i, none⟩) rfl _
  obtain ⟨a, b⟩ := h.rg.aparts hb (by omega) (by omega) (by omega)
  exact ⟨a, h.e7, h.e8, h.qs, h.us7.but hb (by omega) (Nat.le_refl _), h.us8.set i y hi hyc hy, h.kr.trans ⟨hb.mono (fun _ _ q => .inl (.inr q)), .inl b.1, .inl b.2⟩, hR, h.lt2, h.lt11, h.size⟩
theorem Wk.grown {out' : List UInt8} {x' : Ex} (h : Wk W R g s c7 c8 w k out most x) (hg : Rg w' R s k out' most x') (hk : KR R (fun _ => False) w w') (h7 : x'.u7 = x.u7) (h8 : x'.u8 = x.u8) (hq : x'.q ≤ out'.length) : Wk W R g s c7 c8 w' k out' most x' := by
  have hr := h.rows
  have hR := h.ltR
  refine ⟨hg, (by rw [h7]; exact h.e7), (by rw [h8]; exact h.e8), hq, h.us7.but hk.but (fun q => ?_) (Nat.le_refl _), h.us8.but hk.but (fun q => ?_) (Nat.le_refl _), h.kr.trans (hk.mono (fun _ _ q => q.elim)), hR, h.lt2, h.lt11, h.size⟩
  · rcases q with q | q | q | q
    · exact q
    · omega
    · omega
    · omega
  · rcases q with q | q | q | q
    · exact q
    · omega
    · omega
    · omega
theorem Wk.pushed {w0 w1 : World} {v v' : Value} {b : UInt8} (h : Wk W R g s c7 c8 w k out most x) (hv : w.cell? ⟨R, 2, none⟩ = some v) (h0 : Below w.heap.size w w0)
    (hown : w1.ownsRow (R + 1) 5 1 v' (out ++ [b]).length (byteVals (out ++ [b]))) (hg : w0.grownBy w1 v.ownBlock) (hat : v'.ownBlock = v.ownBlock ∨ v'.ownBlock = some w0.heap.size) (hm : out.length + 1 ≤ most) :
    Wk W R g s c7 c8 (w1.setCell ⟨R, 2, none⟩ v') k (out ++ [b]) most x := by
  obtain ⟨a, c⟩ := h.rg.pushed (S := fun _ => False) hv h0 hown hg hat hm
  exact h.grown a c rfl rfl (by have := h.qs; simp; omega)
theorem Wk.tokened {w0 w1 : World} {v v' : Value} {xs' : List Value} (h : Wk W R g s c7 c8 w k out most x) (hv : w.cell? ⟨R, 11, none⟩ = some v) (h0 : Below w.heap.size w w0)
    (hown : w1.ownsRow (R + 1) 51 3 v' (x.q + 1) xs') (hg : w0.grownBy w1 v.ownBlock) (hat : v'.ownBlock = v.ownBlock ∨ v'.ownBlock = some w0.heap.size) (hq : x.q + 1 ≤ out.length) :
    Wk W R g s c7 c8 (w1.setCell ⟨R, 11, none⟩ v') k out most { x with q := x.q + 1, ts := xs' } := by
  obtain ⟨a, c⟩ := h.rg.tokened (S := fun _ => False) hv h0 hown hg hat
  exact h.grown a c rfl rfl hq
theorem Wk.bel (h : Wk W R g s c7 c8 w k out most x) (hW : ∃ k0 o0 x0, Rg W R s k0 o0 most x0) : Below R W w := by
  obtain ⟨k0, o0, x0, hg⟩ := hW
  have := h.ltR
  exact h.kr.below hg (fun j q => by rcases q with q | q <;> omega)
theorem Wk.wz {ga N : Nat} {l : Nat → Nat} (h : Wk W R g s c7 c8 w k out most x) (hA : Wz W R ga N l) (hlt : ga < g) : Wz w R ga N l := hA.kr h.kr (fun q => by rcases q with q | q <;> omega)
theorem Wk.count7 (h : Wk W R g s c7 c8 w k out most x) (i : Nat) (hi : i < 300) : ∃ y : Nat, y = c7 i ∧ y ≤ k ∧ w.cell? ⟨g, i, none⟩ = some (.int .i64 (y : Int)) ∧ w.frozen? ⟨g, i, none⟩ = false := by
  obtain ⟨⟨a, b⟩, c⟩ := h.us7 i hi
  exact ⟨c7 i, rfl, a, b, c⟩
theorem Wk.count8 (h : Wk W R g s c7 c8 w k out most x) (i : Nat) (hi : i < 40) : ∃ y : Nat, y = c8 i ∧ y ≤ k ∧ w.cell? ⟨g + 1, i, none⟩ = some (.int .i64 (y : Int)) ∧ w.frozen? ⟨g + 1, i, none⟩ = false := by
  obtain ⟨⟨a, b⟩, c⟩ := h.us8 i hi
  exact ⟨c8 i, rfl, a, b, c⟩
/-- The bound of counts may be raised before the next one: a symbol has been read. -/
theorem Wk.tok (h : Wk W R g s c7 c8 w k out most x) : ∃ a c, w.cell? ⟨R, 11, none⟩ = some (.slice a x.q c) ∧ w.ownsRow (R + 1) 51 3 (.slice a x.q c) x.q x.ts := by
  obtain ⟨v, hv, hown⟩ := h.rg.tok
  obtain ⟨a, c, rfl⟩ := own_shape3 hown
  exact ⟨a, c, hv, hown⟩
end
end Go.Proofs.YtfeljhikeddodadGreatDoor
