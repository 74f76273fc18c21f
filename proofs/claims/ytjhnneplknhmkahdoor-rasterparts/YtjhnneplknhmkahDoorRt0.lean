/- Pictures, made pixel by pixel of what a function tells of each place: the program's. -/
import Derived.Test.YtjhnneplknhmkahDoorPx1
import Derived.Test.YtjhnneplknhmkahDoorQf
namespace Go.Proofs.YtjhnneplknhmkahDoor
open Go.RowKit

/-- Cells of a picture of nothing, that may be written. -/
structure Z3 (w : World) (k : Nat) : Prop where
  c0 : w.cell? ⟨k, 0, none⟩ = some (.int .i64 0)
  c1 : w.cell? ⟨k, 1, none⟩ = some (.int .i64 0)
  c2 : w.cell? ⟨k, 2, none⟩ = some (.slice none 0 0)
  f0 : w.frozen? ⟨k, 0, none⟩ = false
  f1 : w.frozen? ⟨k, 1, none⟩ = false
  f2 : w.frozen? ⟨k, 2, none⟩ = false
theorem Z3.lt {w : World} {k : Nat} (h : Z3 w k) : k < w.heap.size := World.block_lt_of_cell? _ _ h.c0
theorem Z3.block {w w' : World} {k : Nat} (h : Z3 w k) (e : w'.heap[k]? = w.heap[k]?) : Z3 w' k :=
  ⟨(World.cell?_of_block (a := ⟨k, 0, none⟩) e).trans h.c0, (World.cell?_of_block (a := ⟨k, 1, none⟩) e).trans h.c1, (World.cell?_of_block (a := ⟨k, 2, none⟩) e).trans h.c2,
    (World.frozen?_of_block (a := ⟨k, 0, none⟩) e).trans h.f0, (World.frozen?_of_block (a := ⟨k, 1, none⟩) e).trans h.f1, (World.frozen?_of_block (a := ⟨k, 2, none⟩) e).trans h.f2⟩
theorem Z3.below {w w' : World} {k B : Nat} (h : Z3 w k) (hb : Below B w w') (hB : k < B) : Z3 w' k := h.block (hb.block k hB)
def z3Obj : Obj := .cells #[.int .i64 0, .int .i64 0, .slice none 0 0] 26
theorem z3_new (w : World) : Z3 (w.alloc z3Obj) w.heap.size := by
  unfold z3Obj
  exact ⟨by simp, by simp, by simp, by simp, by simp, by simp⟩

/-- Pixels that lie in a block from B on. -/
structure IsPxN (B : Nat) (w : World) (a : Option Addr) (n : Nat) (p : Nat → Px) : Prop where
  is : IsPx w a n p
  new : ∀ q, a = some q → B ≤ q.block
theorem IsPxN.far {B k j n : Nat} {w : World} {a : Option Addr} {p : Nat → Px} (h : IsPxN B w a n p) (hk : k < B) (u : Value) : IsPxN B (w.setCell ⟨k, j, none⟩ u) a n p := by
  refine ⟨?_, h.new⟩
  rcases h.is with h0 | ⟨b, off, rfl, hm, hc⟩
  · exact .inl h0
  · have hb : k ≠ b := by have : B ≤ b := h.new _ rfl; omega
    exact .inr ⟨b, off, rfl, hm, fun i hi => ⟨(World.cell?_setCell_far _ _ _ _ hb).trans (hc i hi).r, (World.cell?_setCell_far _ _ _ _ hb).trans (hc i hi).g, (World.cell?_setCell_far _ _ _ _ hb).trans (hc i hi).b, (World.cell?_setCell_far _ _ _ _ hb).trans (hc i hi).a⟩⟩
theorem own_pxN {w : World} {base n cap : Nat} {a : Option Addr} {p : Nat → Px} (h : w.ownsRow base 23 4 (.slice a n cap) n (pxVals p n)) (hn : n ≤ maxLen) : IsPxN base w a n p :=
  ⟨own_px h hn, fun q e => (h.lt q.block (by rw [e]; rfl)).1⟩

theorem make_px (n : Nat) (hn : n ≤ 100000) (w : World) : (Instr.makeSlice 24 (.int .i64 0) (.int .i64 (n : Int))).run Tryd.prog w = .ok (.slice (some ⟨w.heap.size, 0, none⟩) 0 n) (w.alloc (.cells (madeCells #[.int .u8 0, .int .u8 0, .int .u8 0, .int .u8 0] (n * 4)) 23)) := by
  obtain ⟨i0, hi, hz0, hz1, hz2⟩ := info_parts px_info
  have hr := run_make (P := Tryd.prog) w 24 23 i0 (.agg #[.int .u8 0, .int .u8 0, .int .u8 0, .int .u8 0]) Tryd.underlying24 hi hz0 .i64 .i64 0 n (by omega) (by omega) (by rw [hz2]; omega) (by omega)
  simp only [Int.toNat_natCast, Int.toNat_zero, hz1] at hr
  exact hr

/-- A row of pixels, told place by place. -/
def grid (W : Nat) (P : Nat → Nat → Px) (i : Nat) : Px := P (i % W) (i / W)
theorem grid_at (W : Nat) (P : Nat → Nat → Px) (x y : Nat) (hx : x < W) : grid W P (y * W + x) = P x y := by
  unfold grid
  rw [Nat.add_comm, Nat.add_mul_mod_self_right, Nat.mod_eq_of_lt hx, Nat.add_mul_div_right _ _ (by omega), Nat.div_eq_of_lt hx, Nat.zero_add]
theorem px_cells_lie (w : World) (p : Px) : ∀ j u, p.cells[j]? = some u → (w.alloc (.cells #[.int .u8 (p.r.toNat : Int), .int .u8 (p.g.toNat : Int), .int .u8 (p.b.toNat : Int), .int .u8 (p.a.toNat : Int)] 23)).cell? ((⟨w.heap.size, 0, none⟩ : Addr).add j) = some u :=
  World.news_of_block (heap_alloc_new w _)

theorem own_belowP {w w' : World} {base size n : Nat} {e : TypeId} {v : Value} {xs : List Value} (h : w.ownsRow base e size v n xs) (hb : Below w.heap.size w w') : w'.ownsRow base e size v n xs :=
  h.kept (row := none) ⟨hb.os, hb.tape, hb.output, hb.size, fun k hk _ => hb.block k hk⟩ (by rcases v.ownBlock with _ | q <;> simp)
theorem own_farP {w : World} {B size n j : Nat} {e : TypeId} {v u : Value} {xs : List Value} (h : w.ownsRow (B + 1) e size v n xs) : (w.setCell ⟨B, j, none⟩ u).ownsRow (B + 1) e size v n xs :=
  h.kept (row := some B) ((But.refl (· = B) w).setCell rfl u).grownBy (.inr (fun q => by have := (h.lt B q).1; omega))
theorem px_cells_one (p : Px) : ∀ u ∈ p.cells, u.oneCell' = true := fun u h => by
  simp only [Px.cells, List.mem_cons, List.not_mem_nil, or_false] at h
  rcases h with rfl | rfl | rfl | rfl <;> rfl

set_option maxHeartbeats 4000000 in
set_option maxRecDepth 100000 in
theorem made_any (W H F : Nat) (caps : Array Value) (P : Nat → Nat → Px) (w : World) (hW0 : 1 ≤ W) (hW : W ≤ 256) (hH : H ≤ 256)
    (hcf : ∀ args w, Sem.run Tryd.prog (callFunc F args) w = .ok (.enter F args) w)
    (hT : ∀ x y wr, x < W → y < H → Below w.heap.size w wr → Calls Tryd.prog F (#[.int .i64 (x : Int), .int .i64 (y : Int)] ++ caps) wr fun e w' => e = .returned (P x y).val ∧ Below wr.heap.size wr w') :
    Calls Tryd.prog 41 #[.int .i64 (W : Int), .int .i64 (H : Int), .func (.func F) #[] caps] w fun e w' => ∃ a c, e = .returned (.agg #[.int .i64 (W : Int), .int .i64 (H : Int), .slice a (W * H) c]) ∧ IsPxN w.heap.size w' a (W * H) (grid W P) ∧ Below w.heap.size w w' := by
  obtain ⟨i0, hi, hz0, hz1, hz2⟩ := info_parts px_info
  have Hi := hide hi
  have Hz0 := hide hz0
  have Hz1 := hide hz1
  have Hz2 := hide hz2
  have hT' := hide hT
  have hMb : W * H ≤ 65536 := Nat.mul_le_mul hW hH
  obtain ⟨M, hM⟩ : ∃ M, M = W * H := ⟨_, rfl⟩
  have zM : (W : Int) * (H : Int) = (M : Int) := by rw [hM]; simp
  rw [← hM] at hMb ⊢
  have wM : IntKind.i64.wrap (M : Int) = (M : Int) := by rw [IntKind.wrap_i64]; omega
  have hmk := make_px M (by omega)
  have HM := hide hM
  obtain ⟨B, hB⟩ : ∃ B, B = w.heap.size := ⟨_, rfl⟩
  have HZ := hide (z3_new w)
  unfold z3Obj at HZ
  have HS : Hid (∀ o o2, Below w.heap.size w ((w.alloc o).alloc o2) ∧ ((w.alloc o).alloc o2).heap.size = w.heap.size + 2) := fun o o2 => ⟨((Below.refl _ _).alloc (Nat.le_refl _) _).alloc (by simp) _, by simp⟩
  clear hi hz0 hz1 hz2 hT hM
  go_enter Tryd.func41, Tryd.ntmps41
  go_wp2
  obtain ⟨hbs, hsz⟩ := unhide HS (.cells #[.int .i64 0, .int .i64 0, .slice none 0 0] 26) (.cells (madeCells #[.int .u8 0, .int .u8 0, .int .u8 0, .int .u8 0] (M * 4)) 23)
  have HOW := hide (World.ownsRow_made (base := B + 1) (e := 23) (size := 4) (w.alloc (.cells #[.int .i64 0, .int .i64 0, .slice none 0 0] 26)) (madeCells #[.int .u8 0, .int .u8 0, .int .u8 0, .int .u8 0] (M * 4)) M (by rw [hB]; simp) (by unfold maxLen; omega) (size_madeCells _ _))
  have HZ2 := hide ((unhide HZ).block (w' := (w.alloc (.cells #[.int .i64 0, .int .i64 0, .slice none 0 0] 26)).alloc (.cells (madeCells #[.int .u8 0, .int .u8 0, .int .u8 0, .int .u8 0] (M * 4)) 23)) (Below.heap_alloc _ _ _ (unhide HZ).lt))
  have e1 : (w.alloc (.cells #[.int .i64 0, .int .i64 0, .slice none 0 0] 26)).heap.size = w.heap.size + 1 := by simp
  rw [e1] at HOW
  clear e1 hmk HS HZ
  generalize (w.alloc (.cells #[.int .i64 0, .int .i64 0, .slice none 0 0] 26)).alloc (.cells (madeCells #[.int .u8 0, .int .u8 0, .int .u8 0, .int .u8 0] (M * 4)) 23) = w2 at *
  rw [← hB] at HOW HZ2 hbs hsz hT' ⊢
  have HBE := hide hB
  have HB2 := hide hbs
  have HSZ := hide hsz
  clear hB hbs hsz
  go_loopw [7, 15] (fun v yv wr => ∃ (y : Nat) (a : Option Addr) (n c : Nat), y ≤ H ∧ yv = .int .i64 (y : Int) ∧ v = .slice a n c ∧ n = y * W ∧ Hid (wr.ownsRow (B + 1) 23 4 (.slice a n c) n (pxVals (grid W P) n)) ∧ Hid (Below B w wr) ∧ Hid (Z3 wr B)) (fun _ yv _ => H - (intOf yv).toNat)
  case atStart => exact ⟨0, some ⟨B + 1, 0, none⟩, 0, M, by omega, rfl, rfl, by omega, HOW, HB2, HZ2⟩
  case round =>
    clear HOW HB2 HZ2
    obtain ⟨y, va, vn, vc, hy, rfl, rfl, hvn, HO, HB, HZ⟩ := hrel
    by_cases hlt : y < H
    · have d1 : decide ((y : Int) < (H : Int)) = true := by simp; omega
      have d1n : decide (y < H) = true := decide_eq_true hlt
      have HVN := hide hvn
      clear hvn
      go_wp2
      go_loopw [7, 19] (fun v xv wr => ∃ (x : Nat) (a : Option Addr) (n c : Nat), x ≤ W ∧ xv = .int .i64 (x : Int) ∧ v = .slice a n c ∧ Hid (n = y * W + x) ∧ Hid (wr.ownsRow (B + 1) 23 4 (.slice a n c) n (pxVals (grid W P) n)) ∧ Hid (Below B w wr) ∧ Hid (Z3 wr B)) (fun _ xv _ => W - (intOf xv).toNat)
      case atStart => exact ⟨0, va, vn, vc, by omega, rfl, rfl, HVN, HO, HB, HZ⟩
      case round =>
        clear HO HB HZ HVN
        obtain ⟨x, va, vn, vc, hx, rfl, rfl, HVN, HO, HB, HZ⟩ := hrel
        by_cases hlx : x < W
        · have d2 : decide ((x : Int) < (W : Int)) = true := by simp; omega
          have d2n : decide (x < W) = true := decide_eq_true hlx
          have HC := hide (unhide hT' x y wr hlx hlt (unhide HB))
          have HP : Hid (grid W P vn = P x y) := by show _ = _; rw [unhide HVN]; exact grid_at W P x y hlx
          have hvM : vn < 65536 := by
            have h1 := unhide HVN
            have h2 : (y + 1) * W ≤ H * W := Nat.mul_le_mul_right W hlt
            have h3 := unhide HM
            rw [Nat.mul_comm H W, ← h3, Nat.succ_mul] at h2
            omega
          have hwz : B + 1 ≤ wr.heap.size := by have := (unhide HZ).lt; omega
          generalize P x y = p at *
          go_wp2_with fail
          refine (unhide HC).mono ?_
          rintro e w1 ⟨rfl, hb1⟩
          unfold Px.val
          have HO1 := hide ((own_belowP (unhide HO) hb1).alloc (.cells #[.int .u8 (p.r.toNat : Int), .int .u8 (p.g.toNat : Int), .int .u8 (p.b.toNat : Int), .int .u8 (p.a.toNat : Int)] 23))
          have HL := hide (px_cells_lie w1 p)
          have HN := hide (px_cells_one p)
          have hz1w := hb1.size
          have HB1 := hide ((unhide HB).trans (hb1.mono (show B ≤ wr.heap.size by omega)))
          have HZ1 := hide ((unhide HZ).below hb1 (by omega))
          have hz2w : (w1.alloc (.cells #[.int .u8 (p.r.toNat : Int), .int .u8 (p.g.toNat : Int), .int .u8 (p.b.toNat : Int), .int .u8 (p.a.toNat : Int)] 23)).heap.size = w1.heap.size + 1 := by simp
          have HPC : Hid (p.cells = [.int .u8 (p.r.toNat : Int), .int .u8 (p.g.toNat : Int), .int .u8 (p.b.toNat : Int), .int .u8 (p.a.toNat : Int)]) := rfl
          have HPL : Hid (p.cells.length = 4) := rfl
          have HX : Hid (pxVals (grid W P) (vn + 1) = pxVals (grid W P) vn ++ p.cells) := by show _ = _; rw [← unhide HP]; rfl
          clear HO HB HZ HP hb1 HC
          generalize p.cells = pc at *
          generalize (p.r.toNat : Int) = pr at *
          generalize (p.g.toNat : Int) = pg at *
          generalize (p.b.toNat : Int) = pb at *
          generalize (p.a.toNat : Int) = pa at *
          have hown1 := unhide HO1
          clear HO1
          go_wp2_with (at_builtin; refine wpList_append_lies _ rfl (.tmp 22) (.tmp 27) 24 rfl (B + 1) 23 i0 (.agg #[.int .u8 0, .int .u8 0, .int .u8 0, .int .u8 0]) 4 4 Tryd.underlying24 (unhide Hi) (unhide Hz0) (unhide Hz1) (unhide Hz2) rfl (by omega) (.slice va vn vc) vn (pxVals (grid W P) vn) rfl hown1 ⟨w1.heap.size, 0, none⟩ 1 1 pc rfl (unhide HPL) (unhide HL) (unhide HN) (by omega) (by unfold maxLen; omega) (by omega) (by rw [hz2w]; omega) _ rfl ?_)
          intro g cap2 w3 hown hgr hat hlt3
          have HO3 : Hid (w3.ownsRow (B + 1) 23 4 (.slice (some ⟨g, 0, none⟩) (vn + 1) cap2) (vn + 1) (pxVals (grid W P) (vn + 1))) := by rw [unhide HX]; exact hown
          have hne : ∀ k, (Value.slice va vn vc).ownBlock = some k → B + 1 ≤ k := fun k e => (hown1.lt k e).1
          have HB3 := hide (((unhide HB1).alloc (by omega) _).grown hgr (by rw [hz2w]; omega) (fun k e => by have := hne k e; omega))
          have HZ3 := hide ((unhide HZ1).block ((hgr.block B (by rw [hz2w]; omega) (fun e => by have := hne B e.symm; omega)).trans (Below.heap_alloc _ _ _ (by omega))))
          clear hown hgr hat hlt3 hown1 HB1 HZ1 HX hne HL HN HPC HPL hz2w
          go_wp2
          go_roundw
          case rel => exact ⟨x + 1, some ⟨g, 0, none⟩, vn + 1, cap2, by omega, by go_num, rfl, by show vn + 1 = y * W + (x + 1); have := unhide HVN; omega, HO3, HB3, HZ3⟩
          case measure => simp [intOf]; omega
        · obtain rfl : x = W := by omega
          have d2 : decide ((x : Int) < (x : Int)) = false := by simp
          go_wp2
          go_roundw
          case rel => exact ⟨y + 1, va, vn, vc, by omega, by go_num, rfl, by have := unhide HVN; rw [Nat.succ_mul]; exact this, HO, HB, HZ⟩
          case measure => simp [intOf]; omega
    · obtain rfl : y = H := by omega
      have d1 : decide ((y : Int) < (y : Int)) = false := by simp
      have hvM : vn = M := by rw [hvn, unhide HM, Nat.mul_comm]
      obtain ⟨c0, c1, c2, f0, f1, f2⟩ := unhide HZ
      have hzl := (unhide HZ).lt
      have HOF := hide (fun u1 u2 u3 : Value => own_pxN (own_rebase (own_farP (j := 2) (u := u3) (own_farP (j := 1) (u := u2) (own_farP (j := 0) (u := u1) (unhide HO)))) (Nat.le_succ B)) (by unfold maxLen; omega))
      subst hvM
      clear hvn HO
      go_wp2
      refine bodyPost_ret (v := .agg #[.int .i64 (W : Int), .int .i64 (y : Int), .slice va vn vc]) ?_ rfl ⟨va, vc, rfl, ?_, ?_⟩
      · rw [results_cellP (p := 6) (ty := 26) (by kernel_rfl)]
        go_simp
      · rw [← unhide HBE]; exact unhide HOF _ _ _
      · rw [← unhide HBE]
        exact (((unhide HB).setCell (p := ⟨B, 0, none⟩) (Nat.le_refl _) _).setCell (p := ⟨B, 1, none⟩) (Nat.le_refl _) _).setCell (p := ⟨B, 2, none⟩) (Nat.le_refl _) _
end Go.Proofs.YtjhnneplknhmkahDoor
