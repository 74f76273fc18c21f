/- layercakeref1.SameInts by its contract, at two lists that hold the same numbers. Small walks of the statements on colors: a copy of a palette, two palettes held against each other, small pictures. Pictures of one color: the document's. -/
import Derived.Test.YtpfobocdbmiagaaDoorChecked
import Derived.WalkKit
import Derived.WalkLawsBesides
import Derived.WalkSpells
import Derived.WalkSmall
import Derived.Deep.QuietTactic
import Derived.BigQuiet
import Derived.Test.YtpfobocdbmiagaaDoorCu4
import Derived.Test.YtpfobocdbmiagaaDoorMg6
import Derived.Test.YtpfobocdbmiagaaDoorRo0
namespace Go.Proofs.YtpfobocdbmiagaaDoor
open Go.RowKit

set_option maxHeartbeats 400000 in
theorem sameInts_yes (g1 g2 : Nat) (c1 c2 : Nat) (xs : List Int) (w : World) (hm : xs.length ≤ maxLen) (h1 : ∀ j, j < xs.length → w.cell? ⟨g1, j, none⟩ = some (.int .i64 (xs.getD j 0))) (h2 : ∀ j, j < xs.length → w.cell? ⟨g2, j, none⟩ = some (.int .i64 (xs.getD j 0))) :
    Calls Tryd.prog 17 #[.slice (some ⟨g1, 0, none⟩) xs.length c1, .slice (some ⟨g2, 0, none⟩) xs.length c2] w fun e w' => e = .returned (.bool true) ∧ Below w.heap.size w w' := by
  unfold maxLen at hm
  have H1 : Hid (∀ j, j < xs.length → w.cell? ⟨g1, j, none⟩ = some (.int .i64 (xs.getD j 0))) := h1
  have H2 : Hid (∀ j, j < xs.length → w.cell? ⟨g2, j, none⟩ = some (.int .i64 (xs.getD j 0))) := h2
  clear h1 h2
  generalize hn : xs.length = n at *
  have Hn : Hid (xs.length = n) := hn
  clear hn
  go_enter Tryd.func17, Tryd.ntmps17
  go_wp2
  go_loopw [5] (fun i wx => ∃ k : Nat, k ≤ n ∧ i = .int .i64 k ∧ Below w.heap.size w wx) (fun i _ => n - (intOf i).toNat)
  case atStart => exact ⟨0, by omega, rfl, Below.refl _ _⟩
  case round =>
    obtain ⟨k, hk, rfl, hb⟩ := hrel
    by_cases hlt : k < n
    · have hd : decide ((k : Int) < (n : Int)) = true := by simp; omega
      have hki : (k : Int) < (n : Int) := by omega
      have h1 := H1.out k hlt
      have h2 := H2.out k hlt
      have c1 : wr.cell? ⟨g1, k, none⟩ = some (.int .i64 (xs.getD k 0)) := by
        rw [hb.cell (show (⟨g1, k, none⟩ : Addr).block < w.heap.size by rcases Nat.lt_or_ge g1 w.heap.size with h | h; exact h; simp [World.cell?, Array.getElem?_eq_none h] at h1)]; exact h1
      have c2 : wr.cell? ⟨g2, k, none⟩ = some (.int .i64 (xs.getD k 0)) := by
        rw [hb.cell (show (⟨g2, k, none⟩ : Addr).block < w.heap.size by rcases Nat.lt_or_ge g2 w.heap.size with h | h; exact h; simp [World.cell?, Array.getElem?_eq_none h] at h2)]; exact h2
      clear h1 h2
      generalize xs.getD k 0 = x at *
      go_wp2
      go_quiet (fail)
      go_wp2
      go_roundw
      case rel => exact ⟨k + 1, by omega, by go_num, below_drewN hb _⟩
      case measure => simp [intOf]; omega
    · have : k = n := by omega
      subst this
      have hd : decide ((k : Int) < (k : Int)) = false := by simp
      go_wp2
      go_ret
      exact ⟨rfl, hb⟩
end Go.Proofs.YtpfobocdbmiagaaDoor
namespace Go.Proofs.YtpfobocdbmiagaaDoor
open Go.RowKit

theorem small3_any (W H : Int) (a : Option Addr) (n c : Nat) (w : World) :
    Calls Tryd.prog 8 #[.agg #[.int .i64 W, .int .i64 H, .slice a n c]] w fun e w' => e = .returned (.bool (decide (n ≤ 3000))) ∧ Below w.heap.size w w' := by
  have hb : Below w.heap.size w (w.alloc (.cells #[.int .i64 W, .int .i64 H, .slice a n c] 24)) := (Below.refl _ _).alloc (Nat.le_refl _) _
  have hd : decide ((n : Int) ≤ 3000) = decide (n ≤ 3000) := by simp; omega
  go_enter Tryd.func8, Tryd.ntmps8
  go_wp2
  go_ret
  exact ⟨by first | rfl | rw [hd], hb⟩
theorem paletteC_any (a : Option Addr) (n c : Nat) (q : Nat → Px) (w : World) (hP : IsPx w a n q) (hn : n ≤ 100000) :
    Calls Tryd.prog 19 #[.slice a n c] w fun e w' => ∃ a2 c2, e = .returned (.slice a2 n c2) ∧ IsPx w' a2 n q ∧ Below w.heap.size w w' := by
  have HP := hide hP
  clear hP
  go_enter Tryd.func19, Tryd.ntmps19
  go_wp2_with (at_builtin; refine wpList_appPx _ rfl (.tmp 4) (.tmp 5) rfl rfl a n c q rfl rfl (unhide HP) hn ?_)
  intro a2 c2 w2 h2 hb2
  have H2 := hide (And.intro h2 hb2)
  clear h2 hb2
  go_wp2
  go_ret
  exact ⟨a2, c2, rfl, (unhide H2).1, (unhide H2).2⟩

set_option maxHeartbeats 2000000 in
set_option maxRecDepth 100000 in
theorem samePixels_any (a b : Option Addr) (n c d : Nat) (p : Nat → Px) (w : World) (hA : IsPx w a n p) (hB : IsPx w b n p) (hn : n ≤ 100000) :
    Calls Tryd.prog 16 #[.slice a n c, .slice b n d] w fun e w' => e = .returned (.bool true) ∧ Below w.heap.size w w' := by
  have HA := hide hA
  have HB := hide hB
  clear hA hB
  go_enter Tryd.func16, Tryd.ntmps16
  go_wp2
  go_loopw [5] (fun iv wr => ∃ i nn : Nat, i ≤ n ∧ iv = .int .i64 (i : Int) ∧ wr = w.drewN nn) (fun iv _ => n - (intOf iv).toNat)
  case atStart => exact ⟨0, 0, by omega, rfl, rfl⟩
  case round =>
    obtain ⟨i, nn, hi, rfl, rfl⟩ := hrel
    by_cases hlt : i < n
    · have g1 : decide ((i : Int) < (n : Int)) = true := decide_eq_true (by omega)
      have g1n : decide (i < n) = true := decide_eq_true hlt
      obtain ⟨bA, oA, rfl, _, hcA⟩ := (unhide HA).resolve_left (by omega)
      obtain ⟨bB, oB, rfl, hm, hcB⟩ := (unhide HB).resolve_left (by omega)
      obtain ⟨a0, a1, a2, a3⟩ := hcA i hlt
      obtain ⟨b0, b1, b2, b3⟩ := hcB i hlt
      have ha1 : (i : Int) < (n : Int) := by omega
      clear hcA hcB HA HB
      go_wp2
      go_quiet (fail)
      go_wp2
      go_roundw
      case rel => exact ⟨i + 1, _, by omega, by go_num, rfl⟩
      case measure => simp [intOf]; omega
    · obtain rfl : i = n := by omega
      have g1 : decide ((i : Int) < (i : Int)) = false := by simp
      go_wp2
      go_ret
      exact ⟨rfl, below_drewN (Below.refl _ _) nn⟩
end Go.Proofs.YtpfobocdbmiagaaDoor
namespace Go.Proofs.YtpfobocdbmiagaaDoor
open Go.RowKit

set_option maxHeartbeats 4000000 in
set_option maxRecDepth 100000 in
theorem blankC_any (W H : Nat) (q : Px) (w : World) (hW : W ≤ 256) (hH : H ≤ 256) :
    Calls Tryd.prog 26 #[.int .i64 (W : Int), .int .i64 (H : Int), q.val] w fun e w' => ∃ g, e = .returned (.agg #[.int .i64 (W : Int), .int .i64 (H : Int), .slice (some ⟨g, 0, none⟩) (W * H) (W * H)]) ∧ w.heap.size ≤ g ∧ PR w' g (W * H) (fun _ => q) ∧ Below w.heap.size w w' := by
  have hMb : W * H ≤ 65536 := Nat.mul_le_mul hW hH
  obtain ⟨M, hM⟩ : ∃ M, M = W * H := ⟨_, rfl⟩
  have zM : (W : Int) * (H : Int) = (M : Int) := by rw [hM]; simp
  rw [← hM] at hMb ⊢
  have wM : IntKind.i64.wrap (M : Int) = (M : Int) := by rw [IntKind.wrap_i64]; omega
  have hmk := make_pxn M (by omega)
  have HA := hide (al4 w (.cells #[.int .u8 (q.r.toNat : Int), .int .u8 (q.g.toNat : Int), .int .u8 (q.b.toNat : Int), .int .u8 (q.a.toNat : Int)] 40) (.cells #[.int .i64 0, .int .i64 0, .slice none 0 0] 24) (.cells (madeCells #[.int .u8 0, .int .u8 0, .int .u8 0, .int .u8 0] (M * 4)) 40) (.cells #[.int .i64 (W : Int), .int .i64 (H : Int), .slice (some ⟨w.heap.size + 1 + 1, 0, none⟩) M M] 24))
  have HP : Hid (∀ o0 o1 o3, PR ((((w.alloc o0).alloc o1).alloc (.cells (madeCells #[.int .u8 0, .int .u8 0, .int .u8 0, .int .u8 0] (M * 4)) 40)).alloc o3) (w.heap.size + 1 + 1) M (fun _ => px0)) := fun o0 o1 o3 => by
    have h := made_PR ((w.alloc o0).alloc o1) M
    have e : ((w.alloc o0).alloc o1).heap.size = w.heap.size + 1 + 1 := by simp
    rw [e] at h
    exact h.block (Below.heap_alloc _ _ _ h.lt)
  unfold Px.val
  obtain ⟨B, hB⟩ : ∃ B, B = w.heap.size := ⟨_, rfl⟩
  clear hM
  go_enter Tryd.func26, Tryd.ntmps26
  go_wp2
  have HP2 := hide (unhide HP (.cells #[.int .u8 (q.r.toNat : Int), .int .u8 (q.g.toNat : Int), .int .u8 (q.b.toNat : Int), .int .u8 (q.a.toNat : Int)] 40) (.cells #[.int .i64 0, .int .i64 0, .slice none 0 0] 24) (.cells #[.int .i64 (W : Int), .int .i64 (H : Int), .slice (some ⟨w.heap.size + 1 + 1, 0, none⟩) M M] 24))
  clear HP hmk
  generalize (((w.alloc (.cells #[.int .u8 (q.r.toNat : Int), .int .u8 (q.g.toNat : Int), .int .u8 (q.b.toNat : Int), .int .u8 (q.a.toNat : Int)] 40)).alloc (.cells #[.int .i64 0, .int .i64 0, .slice none 0 0] 24)).alloc (.cells (madeCells #[.int .u8 0, .int .u8 0, .int .u8 0, .int .u8 0] (M * 4)) 40)).alloc (.cells #[.int .i64 (W : Int), .int .i64 (H : Int), .slice (some ⟨w.heap.size + 1 + 1, 0, none⟩) M M] 24) = w4 at *
  rw [← hB] at HA HP2 ⊢
  obtain ⟨hs4, k0, k1, _, k3, hb4⟩ := unhide HA
  have HBE := hide hB
  have K0 := hide k0
  have K1 := hide k1
  have K3 := hide k3
  have HB4 := hide hb4
  clear HA hB k0 k1 k3 hb4 hs4
  go_loopw [8] (fun iv wr => ∃ (i : Nat) (p : Nat → Px), i ≤ M ∧ iv = .int .i64 (i : Int) ∧ Hid (PR wr (B + 1 + 1) M p) ∧ Hid (∀ j, j < i → p j = q) ∧ Hid (Below B w wr) ∧ Hid (wr.heap[B]? = some (.cells #[.int .u8 (q.r.toNat : Int), .int .u8 (q.g.toNat : Int), .int .u8 (q.b.toNat : Int), .int .u8 (q.a.toNat : Int)] 40)) ∧ Hid (wr.heap[B + 1]? = some (.cells #[.int .i64 0, .int .i64 0, .slice none 0 0] 24)) ∧ Hid (wr.heap[B + 3]? = some (.cells #[.int .i64 (W : Int), .int .i64 (H : Int), .slice (some ⟨B + 1 + 1, 0, none⟩) M M] 24))) (fun iv _ => M - (intOf iv).toNat)
  case atStart => exact ⟨0, _, by omega, rfl, HP2, fun j hj => by omega, HB4, K0, K1, K3⟩
  case round =>
    clear HP2 HB4 K0 K1 K3
    obtain ⟨i, p, hi, rfl, HP, HQ, HB, K0, K1, K3⟩ := hrel
    have c30 : wr.cell? ⟨B + 3, 0, none⟩ = some (.int .i64 (W : Int)) := blk_cell (unhide K3) 0
    have c31 : wr.cell? ⟨B + 3, 1, none⟩ = some (.int .i64 (H : Int)) := blk_cell (unhide K3) 1
    have c32 : wr.cell? ⟨B + 3, 2, none⟩ = some (.slice (some ⟨B + 1 + 1, 0, none⟩) M M) := blk_cell (unhide K3) 2
    by_cases hlt : i < M
    · have d1 : decide ((i : Int) < (M : Int)) = true := by simp; omega
      have d1n : decide (i < M) = true := decide_eq_true hlt
      have c0 : wr.cell? ⟨B, 0, none⟩ = some (.int .u8 (q.r.toNat : Int)) := blk_cell (unhide K0) 0
      have c1 : wr.cell? ⟨B, 1, none⟩ = some (.int .u8 (q.g.toNat : Int)) := blk_cell (unhide K0) 1
      have c2 : wr.cell? ⟨B, 2, none⟩ = some (.int .u8 (q.b.toNat : Int)) := blk_cell (unhide K0) 2
      have c3 : wr.cell? ⟨B, 3, none⟩ = some (.int .u8 (q.a.toNat : Int)) := blk_cell (unhide K0) 3
      obtain ⟨t0, t1, t2, t3⟩ := (unhide HP).px i hlt
      have f0 := (unhide HP).fr (i * 4)
      have f1 := (unhide HP).fr (i * 4 + 1)
      have f2 := (unhide HP).fr (i * 4 + 2)
      have f3 := (unhide HP).fr (i * 4 + 3)
      have hiM : (i : Int) < (M : Int) := by omega
      go_wp2
      go_roundw
      case rel =>
        refine ⟨i + 1, updP p i q, by omega, by go_num, (unhide HP).put hlt q, ?_, put4_below (unhide HB) (by omega) q, (put4_far _ _ _ _ _ (by omega)).trans (unhide K0), (put4_far _ _ _ _ _ (by omega)).trans (unhide K1), (put4_far _ _ _ _ _ (by omega)).trans (unhide K3)⟩
        intro j hj
        unfold updP
        by_cases e : j = i
        · rw [if_pos e]
        · rw [if_neg e]; exact unhide HQ j (by omega)
      case measure => simp [intOf]; omega
    · obtain rfl : i = M := by omega
      have d1 : decide ((i : Int) < (i : Int)) = false := by simp
      have r0 := blk_frozen (unhide K1) 0
      have r1 := blk_frozen (unhide K1) 1
      have r2 := blk_frozen (unhide K1) 2
      have s0 : wr.cell? ⟨B + 1, 0, none⟩ = some (.int .i64 0) := blk_cell (unhide K1) 0
      have s1 : wr.cell? ⟨B + 1, 1, none⟩ = some (.int .i64 0) := blk_cell (unhide K1) 1
      have s2 : wr.cell? ⟨B + 1, 2, none⟩ = some (.slice none 0 0) := blk_cell (unhide K1) 2
      have hl : B + 1 < wr.heap.size := blk_lt (unhide K1)
      have HF := hide (((unhide HP).congr (q := fun _ => q) (fun j hj => unhide HQ j hj)))
      clear K0 K1 K3 HP HQ
      go_wp2
      refine bodyPost_ret (v := .agg #[.int .i64 (W : Int), .int .i64 (H : Int), .slice (some ⟨B + 1 + 1, 0, none⟩) i i]) ?_ rfl ⟨B + 1 + 1, rfl, ?_, ?_, ?_⟩
      · rw [results_cellP (p := 6) (ty := 24) (by kernel_rfl)]
        go_simp
      · rw [← unhide HBE]; omega
      · exact (unhide HF).block (by rw [Below.heap_setCell _ _ _ _ (by show B + 1 + 1 ≠ B + 1; omega), Below.heap_setCell _ _ _ _ (by show B + 1 + 1 ≠ B + 1; omega), Below.heap_setCell _ _ _ _ (by show B + 1 + 1 ≠ B + 1; omega)])
      · rw [← unhide HBE]
        exact (((unhide HB).setCell (p := ⟨B + 1, 0, none⟩) (by show B ≤ B + 1; omega) _).setCell (p := ⟨B + 1, 1, none⟩) (by show B ≤ B + 1; omega) _).setCell (p := ⟨B + 1, 2, none⟩) (by show B ≤ B + 1; omega) _
theorem blankP_any (W H : Nat) (q : Px) (w : World) (hW : W ≤ 256) (hH : H ≤ 256) :
    Calls Tryd.prog 26 #[.int .i64 (W : Int), .int .i64 (H : Int), q.val] w fun e w' => ∃ g c, e = .returned (.agg #[.int .i64 (W : Int), .int .i64 (H : Int), .slice (some ⟨g, 0, none⟩) (W * H) c]) ∧ w.heap.size ≤ g ∧ PR w' g (W * H) (fun _ => q) ∧ Below w.heap.size w w' := by
  refine (blankC_any W H q w hW hH).mono ?_
  rintro e w' ⟨g, h⟩
  exact ⟨g, _, h⟩
end Go.Proofs.YtpfobocdbmiagaaDoor
