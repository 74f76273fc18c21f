/- Moving pictures: the program's Write. Moving pictures: the program's Read: what is thrown is caught. -/
import Derived.Test.YtjcoahahponabaaDoorMg20
import Derived.Test.YtjcoahahponabaaDoorGpe
import Derived.Test.YtjcoahahponabaaDoorGr5
import Derived.Defers
import Derived.Recover
import Derived.Laws.Pointers
namespace Go.Proofs.YtjcoahahponabaaDoor
open Go.RowKit

/-- How the frames are told. -/
def tfsF (V : Nat → FrV) (n : Nat) : List Tf := (List.range n).map fun i => (V i).f.tf
/-- What Write answers. -/
def WrA (V : Nat → FrV) (n : Nat) (loops : Int) (aS : Nat → Addr) (w w' : World) (e : Ending) : Prop :=
  (¬ (fewP n (V 0).f ∧ 0 ≤ loops ∧ loops ≤ 65535) ∧ e = .returned (.tuple #[.string ⟨#[]⟩, sentV aS 1])) ∨
  ((fewP n (V 0).f ∧ 0 ≤ loops ∧ loops ≤ 65535) ∧ ∃ i, i < n ∧ (∀ j, j < i → frE (V j).f (V 0).f = 0) ∧ frE (V i).f (V 0).f ≠ 0 ∧ ∃ p, e = .returned (.tuple #[.string ⟨#[]⟩, .iface 65 (.pointer (some ⟨p, 0, none⟩))]) ∧ w.heap.size ≤ p ∧ w'.cell? ⟨p, 0, none⟩ = some (.int .i64 (i : Int)) ∧ w'.cell? ⟨p, 1, none⟩ = some (sentV aS (frE (V i).f (V 0).f - 1))) ∨
  ((fewP n (V 0).f ∧ 0 ≤ loops ∧ loops ≤ 65535) ∧ (∀ j, j < n → frE (V j).f (V 0).f = 0) ∧ e = .returned (.tuple #[.string ⟨(gifL (V 0).f.W.toNat (V 0).f.H.toNat (tfsF V n) loops.toNat).toArray⟩, .nilIface]))

/-- What is wrong with a frame: ahead of its colors, or with them. -/
theorem eaE_fr (V : Nat → FrV) (j : Nat) : eaE V (fun i => frE (V i).f (V 0).f) j = frE (V j).f (V 0).f := by
  by_cases h1 : RightP (V j).f.W (V j).f.H (V j).f.n ∧ (V j).f.W = (V 0).f.W ∧ (V j).f.H = (V 0).f.H
  · by_cases h2 : 0 ≤ (V j).f.d ∧ (V j).f.d ≤ 65535
    · rw [eaE_do (chE_ok h1 h2)]
    · rw [eaE_ch (by rw [chE_bound h1 h2]; omega), chE_bound h1 h2]
      unfold frE
      rw [if_pos h1, if_neg h2]
  · rw [eaE_ch (by rw [chE_shape h1]; omega), chE_shape h1]
    unfold frE
    rw [if_neg h1]
/-- What is asked of each, of Write's closure. -/
theorem weach_any (s : Option Addr) (n c : Nat) (loops : Int) (V : Nat → FrV) (w wE : World) (aS : Nat → Addr) (T : Nat) (hS : Told w [1, 2, 6] aS) (hR : IsRw w 4 s n (fun i => (V i).cells)) (hV : ∀ i, i < n → (V i).in w) (h0 : WrR V w T 0 wE) :
    Calls Tryd.prog 14 #[.slice s n c, .int .i64 loops, .func (.func 15) #[] #[.pointer (some ⟨T, 0, none⟩)]] wE fun e w' => EaA V n loops aS (fun i => frE (V i).f (V 0).f) (fun i => WrR V w T i) w w' e ∧ Below w.heap.size w w' :=
  each_any s n c loops V w wE aS 15 #[.pointer (some ⟨T, 0, none⟩)] (fun i => WrR V w T i) (fun i => frE (V i).f (V 0).f) (hS.sub (by simp)) hR h0
    (fun i w1 w2 h hb => h.below hb) (fun i w1 h => h.1) (enters_of Tryd.func15 (by kernel_rfl) rfl)
    (fun i hi hn wr h hc => wtell_any V w T i wr aS hS (hV i hi) (by omega) h hc)

set_option maxHeartbeats 16000000 in
set_option maxRecDepth 100000 in
theorem gwrite_any (s : Option Addr) (n c : Nat) (loops : Int) (V : Nat → FrV) (w : World) (aS : Nat → Addr) (hS : Told w [1, 2, 6] aS) (hR : IsRw w 4 s n (fun i => (V i).cells)) (hV : ∀ i, i < n → (V i).in w) :
    Calls Tryd.prog 6 #[.slice s n c, .int .i64 loops] w fun e w' => WrA V n loops aS w w' e ∧ Below w.heap.size w w' := by
  have HA := hide (al1 w (.cells #[.slice none 0 0] 47))
  have HEa := hide (fun wE h0 => weach_any s n c loops V w wE aS w.heap.size hS hR hV h0)
  clear hS hR hV
  go_enter Tryd.func6, Tryd.ntmps6
  go_wp2_with fail
  generalize w.alloc (.cells #[.slice none 0 0] 47) = w1 at *
  obtain ⟨hs1, k1, hb1⟩ := unhide HA
  have HE1 := hide (unhide HEa w1 ⟨hb1, Nat.le_refl _, by omega, none, 0, (fun _ => default : Nat → TfV), k1, World.ownsRow_nil _ _ _ _, fun j hj => absurd hj (Nat.not_lt_zero j)⟩)
  clear HEa HA hs1 k1 hb1
  refine (unhide HE1).mono ?_
  rintro e w2 ⟨hr, hb2⟩
  have HB2 := hide hb2
  clear HE1 hb2
  rcases hr with ⟨hN, rfl⟩ | ⟨hP, i, hi, hj, hE, p, rfl, hp, hc0, hc1⟩ | ⟨hP, hall, rfl, hW⟩
  · have HRes : Hid (WrA V n loops aS w w2 (.returned (.tuple #[.string ⟨#[]⟩, sentV aS 1]))) := .inl ⟨hN, rfl⟩
    obtain ⟨t1, v1, e1⟩ : ∃ t v, sentV aS 1 = .iface t v := ⟨_, _, rfl⟩
    rw [e1] at HRes ⊢
    clear hN e1
    go_wp2
    go_ret2
    exact ⟨unhide HRes, unhide HB2⟩
  · have HRes : Hid (WrA V n loops aS w w2 (.returned (.tuple #[.string ⟨#[]⟩, .iface 65 (.pointer (some ⟨p, 0, none⟩))]))) :=
      .inr (.inl ⟨hP, i, hi, fun j h => by rw [← eaE_fr]; exact hj j h, by rw [← eaE_fr]; exact hE, p, rfl, hp, hc0, by rw [← eaE_fr]; exact hc1⟩)
    clear hP hi hj hE hp hc0 hc1
    go_wp2
    go_ret2
    exact ⟨unhide HRes, unhide HB2⟩
  · obtain ⟨_, hT0, hTl, ta, tc, U, hk, hown, hU⟩ := hW
    obtain ⟨lp, rfl⟩ := Int.eq_ofNat_of_zero_le hP.2.1
    have hn1 : 1 ≤ n ∧ n ≤ 16 := hP.1.1
    have hok : ∀ j, j < n → frE (V j).f (V 0).f = 0 := fun j h => by rw [← eaE_fr]; exact hall j h
    have e0 := hok 0 (by omega)
    have hlen : ∀ j, j < n → (U j).T.N.length = (V 0).f.n := fun j hj => by
      rw [(hU j hj).1.eq]
      show (nmL _ _).length = _
      rw [nmL_length]
      exact frE_same (hok j hj) e0
    have hfew : (V 0).f.n * n ≤ 60000 := by
      rcases hP.1.2 with q | q
      · exact absurd (frE_right e0) q
      · exact q
    have hRw : IsRw w2 5 ta n (fun j => (U j).cells) := own_rw hown (fun j => rfl) (by unfold maxLen; omega)
    have HWt := hide (written_any ta n tc (V 0).f.n lp U w2 hRw (fun j hj => (hU j hj).1.is) hlen hn1.1 hn1.2 hfew (by omega))
    have HRes : Hid (∀ w', WrA V n (lp : Int) aS w w' (.returned (.tuple #[.string ⟨(gifL (U 0).T.W (U 0).T.H (tfsL U n) lp).toArray⟩, .nilIface]))) := fun w' => by
      refine .inr (.inr ⟨hP, hok, ?_⟩)
      have e1 : tfsL U n = tfsF V n := List.map_congr_left (fun j hj => (hU j (List.mem_range.1 hj)).1.eq)
      rw [e1, (hU 0 (by omega)).1.eq]
      rfl
    have p0 : w2.cell? ⟨w.heap.size, 0, none⟩ = some (.slice ta n tc) := blk_cell hk 0
    have hz : w.heap.size ≤ w2.heap.size := (unhide HB2).size
    clear hP hall hT0 hTl hk hown hU hok e0 hlen hfew hRw
    go_wp2_with fail
    refine (unhide HWt).mono ?_
    rintro e w7 ⟨rfl, hb7⟩
    have HB7 := hide ((unhide HB2).trans (hb7.mono hz))
    clear HWt hb7 p0 hz
    go_wp2
    go_ret2
    exact ⟨unhide HRes _, unhide HB7⟩
end Go.Proofs.YtjcoahahponabaaDoor
namespace Go.Proofs.YtjcoahahponabaaDoor
open Go.RowKit Lz

theorem newReaderG_any (s : ByteArray) (w : World) (hs : s.size ≤ 300000) :
    Calls Tryd.prog 21 #[.string s] w fun e w' => ∃ R, e = .returned (.pointer (some ⟨R, 0, none⟩)) ∧ w.heap.size ≤ R ∧ GR w' R s ∧ Below w.heap.size w w' := by
  have d1 : decide ((s.size : Int) > 300000) = false := decide_eq_false (by omega)
  have d1' : decide ((300000 : Int) < (s.size : Int)) = false := d1
  have d1n : decide (300000 < s.size) = false := decide_eq_false (by omega)
  have HA := hide (al1 w (.cells #[.string s] 85))
  go_enter Tryd.func21, Tryd.ntmps21
  go_wp2
  go_ret
  exact ⟨w.heap.size, rfl, Nat.le_refl _, (unhide HA).k0, (unhide HA).below⟩

theorem errorOf_any (t : TypeId) (x : Value) (w : World) :
    Calls Tryd.prog 20 #[.iface 82 (.agg #[.iface t x])] w fun e w' => e = .returned (.iface t x) ∧ Below w.heap.size w w' := by
  have hta : ∀ (v : Value) (w : World), (Instr.typeAssert (.iface 82 v) 20 82 true).run Tryd.prog w = .ok (.tuple #[v, .bool true]) w := fun _ _ => by kernel_rfl
  go_enter Tryd.func20, Tryd.ntmps20
  go_wp2
  go_ret
  exact ⟨rfl, (Below.refl _ _).alloc (Nat.le_refl _) _⟩

theorem catchG_idle (a b c : Addr) (w : World) :
    CallsD Tryd.prog 19 #[.pointer (some a), .pointer (some b), .pointer (some c)] .returning w fun e u' w' => e = .returned (.tuple #[]) ∧ u' = .returning ∧ w' = w := by
  refine callsD_of_wpS Tryd.func19 rfl fun c₀ cs hu => ?_
  apply wpS_seq
  apply wpS_region
  simp [wpOpsS, go_sem, recoverD, hu, Tryd.ntmps19, Exit.thenS]
  refine wpS_of_wp ?_
  go_wp2
  cases c₀
  simp_all [bodyPostS, results, Tryd.results19]

set_option maxHeartbeats 2000000 in
set_option maxRecDepth 100000 in
theorem catchG_thrown (A B C : Nat) (t : TypeId) (x va vb vc : Value) (w : World) (hAB : A < B) (hBC : B < C) (ha : w.cell? ⟨A, 0, none⟩ = some va) (hb : w.cell? ⟨B, 0, none⟩ = some vb) (hc : w.cell? ⟨C, 0, none⟩ = some vc) (fa : w.frozen? ⟨A, 0, none⟩ = false) (fb : w.frozen? ⟨B, 0, none⟩ = false) (fc : w.frozen? ⟨C, 0, none⟩ = false) :
    CallsD Tryd.prog 19 #[.pointer (some ⟨A, 0, none⟩), .pointer (some ⟨B, 0, none⟩), .pointer (some ⟨C, 0, none⟩)] (.panicking (gthr t x)) w fun e u' w' => e = .returned (.tuple #[]) ∧ u' = .panicking [{ v := .iface 82 (.agg #[.iface t x]), recovered := true }] ∧ w'.cell? ⟨A, 0, none⟩ = some (.slice none 0 0) ∧ w'.cell? ⟨B, 0, none⟩ = some (.int .i64 0) ∧ w'.cell? ⟨C, 0, none⟩ = some (.iface t x) ∧ Below A w w' := by
  have nAB : ¬ A = B := by omega
  have nBC : ¬ B = C := by omega
  have nAC : ¬ A = C := by omega
  have nBA : ¬ B = A := by omega
  have nCB : ¬ C = B := by omega
  have nCA : ¬ C = A := by omega
  unfold gthr
  have hAl := World.block_lt_of_cell? _ _ ha
  have hBl := World.block_lt_of_cell? _ _ hb
  have hCl := World.block_lt_of_cell? _ _ hc
  simp only at hAl hBl hCl
  refine callsD_of_wpS Tryd.func19 rfl fun c₀ cs hu => ?_
  apply wpS_seq
  apply wpS_region
  simp [wpOpsS, go_sem, recoverD, hu, Tryd.ntmps19, Exit.thenS]
  rw [show (Array.replicate 6 (undef : Value)) = #[undef, undef, undef, undef, undef, undef] from rfl]
  simp only [List.setIfInBounds_toArray, List.set_cons_zero, List.set_cons_succ, List.append_toArray, List.cons_append, List.nil_append]
  refine wpS_of_wp ?_
  go_wp2_with fail
  refine (errorOf_any t x w).mono ?_
  rintro e w0 ⟨rfl, bz⟩
  have ha0 := (bz.cell (p := ⟨A, 0, none⟩) hAl).trans ha
  have hb0 := (bz.cell (p := ⟨B, 0, none⟩) hBl).trans hb
  have hc0 := (bz.cell (p := ⟨C, 0, none⟩) hCl).trans hc
  have fa0 := (bz.frozen (p := ⟨A, 0, none⟩) hAl).trans fa
  have fb0 := (bz.frozen (p := ⟨B, 0, none⟩) hBl).trans fb
  have fc0 := (bz.frozen (p := ⟨C, 0, none⟩) hCl).trans fc
  have HF : Hid (∀ w2, w2 = ((w0.setCell ⟨A, 0, none⟩ (.slice none 0 0)).setCell ⟨B, 0, none⟩ (.int .i64 0)).setCell ⟨C, 0, none⟩ (.iface t x) → w2.cell? ⟨A, 0, none⟩ = some (.slice none 0 0) ∧ w2.cell? ⟨B, 0, none⟩ = some (.int .i64 0) ∧ w2.cell? ⟨C, 0, none⟩ = some (.iface t x) ∧ Below A w w2) := fun w2 e => by
    subst e
    have q : ∀ (X Y : Nat), X ≠ Y → (⟨X, 0, none⟩ : Addr) ≠ ⟨Y, 0, none⟩ := fun X Y h e => h (by injection e)
    refine ⟨?_, ?_, ?_, ?_⟩
    · rw [World.cell?_setCell_other _ _ _ _ (q C A (by omega)), World.cell?_setCell_other _ _ _ _ (q B A (by omega))]
      exact World.cell?_setCell_same _ _ _ ha0
    · rw [World.cell?_setCell_other _ _ _ _ (q C B (by omega))]
      exact World.cell?_setCell_same _ _ _ ((World.cell?_setCell_other _ _ _ _ (q A B (by omega))).trans hb0)
    · exact World.cell?_setCell_same _ _ _ ((World.cell?_setCell_other _ _ _ _ (q B C (by omega))).trans ((World.cell?_setCell_other _ _ _ _ (q A C (by omega))).trans hc0))
    · exact (((bz.mono (show A ≤ w.heap.size by omega)).setCell (p := ⟨A, 0, none⟩) (Nat.le_refl _) _).setCell (p := ⟨B, 0, none⟩) (Nat.le_of_lt hAB) _).setCell (p := ⟨C, 0, none⟩) (by show A ≤ C; omega) _
  clear ha hb hc fa fb fc bz
  go_wp2
  obtain ⟨h1, h2, h3, h4⟩ := unhide HF _ rfl
  cases c₀
  simp_all [bodyPostS, results, Tryd.results19]
end Go.Proofs.YtjcoahahponabaaDoor
