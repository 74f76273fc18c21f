/- Walk of the program's Inflate. -/
import Derived.Test.YtfeljhikeddodaeGreatDoorMg30
namespace Go.Proofs.YtfeljhikeddodaeGreatDoor
open Go.RowKit Pm Cn Cd Nf

/-- What Inflate answers. -/
def inflV (t : TypeId) (xT xB : Value) : Res → Value
  | .ok k out => .tuple #[.string ⟨out.toArray⟩, .int .i64 (((k + 7) / 8 : Nat) : Int), .nilIface]
  | .err .text => .tuple #[.string ⟨#[]⟩, .int .i64 0, .iface t xT]
  | .err .bound => .tuple #[.string ⟨#[]⟩, .int .i64 0, .iface t xB]
theorem leaves_congr {fn : Func} {tmps tmps' : Array Value} {R : Ending → World → Prop} (h : ∀ w, (results fn tmps').run Tryz.prog w = (results fn tmps).run Tryz.prog w) : ∀ (ds : List Deferred) (u : FrameMode) (w : World), Leaves Tryz.prog fn tmps R ds u w → Leaves Tryz.prog fn tmps' R ds u w := by
  intro ds
  induction ds with
  | nil =>
    intro u w hl
    cases u with
    | returning => obtain ⟨v, h1, h2⟩ := hl; exact ⟨v, (h w).trans h1, h2⟩
    | panicking c => exact hl
    | run => exact hl
  | cons d ds ih =>
    intro u w hl
    obtain ⟨h1, fv, cap, f, args, h2, h3, hc⟩ := hl
    refine ⟨h1, fv, cap, f, args, h2, h3, hc.mono ?_⟩
    rintro e u' w' he
    cases e with
    | returned v => exact ih _ _ he
    | panicked c => exact ih _ _ he
    | outgrown => exact he
/-- What is put into a slot that holds no result turns nothing at the door. -/
theorem door_put {R : Ending → World → Prop} (d : Nat) (hd : 7 ≤ d) (v : Value) (c : List PanicEntry) (a : Act) (w : World) (h : bodyPostD Tryz.prog Tryz.f9 R (.panic c) (a.put (some d) v) w) : bodyPostD Tryz.prog Tryz.f9 R (.panic c) a w := by
  refine leaves_congr (tmps := a.tmps.setIfInBounds d v) (fun w => ?_) _ _ _ h
  have e : ∀ j, j < 7 → (a.tmps.setIfInBounds d v)[j]?.getD undef = a.tmps[j]?.getD undef := fun j hj => by
    rw [Array.getElem?_setIfInBounds, if_neg (by omega)]
  have e4 := e 4 (by omega)
  have e5 := e 5 (by omega)
  have e6 := e 6 (by omega)
  simp [results, Tryz.results9, e4, e5, e6]
section
variable {t : TypeId} {xT xB xS : Value}

set_option maxHeartbeats 4000000 in
set_option maxRecDepth 100000 in
theorem inflate_in (s : ByteArray) (most : Nat) (w : World) (hG : Gl w t xT xB xS) (hm : most ≤ 300000) (hs : s.size ≤ 300000) (hn : 6 ≤ w.heap.size) :
    Calls Tryz.prog 9 #[.string s, .int .i64 (most : Int)] w fun e w' => ∃ r, infl (tv s) (8 * s.size) most = some r ∧ e = .returned (inflV t xT xB r) ∧ Below w.heap.size w w' := by
  have hmf : ∀ (fn : Fn) (first cap : Array Value) (w : World), (Instr.makeFunc fn first cap).run Tryz.prog w = .ok (.func fn first cap) w := fun _ _ _ _ => rfl
  have HB := hide (fun w' => bounded_any s (most : Int) w')
  rw [decide_eq_true (⟨by omega, by omega, by omega⟩ : 0 ≤ (most : Int) ∧ (most : Int) ≤ 300000 ∧ (s.size : Int) ≤ 300000)] at HB
  have HG := hide hG
  have bz0 : Below w.heap.size w (((w.alloc (.cells #[.string ⟨#[]⟩] 9)).alloc (.cells #[.int .i64 0] 3)).alloc (.cells #[.nilIface] 25)) := (((Below.refl _ _).alloc (Nat.le_refl _) _).alloc (by simp) _).alloc (by simp; omega) _
  have cA : (((w.alloc (.cells #[.string ⟨#[]⟩] 9)).alloc (.cells #[.int .i64 0] 3)).alloc (.cells #[.nilIface] 25)).cell? ⟨w.heap.size, 0, none⟩ = some (.string ⟨#[]⟩) := by simp [go_sem]
  have cB : (((w.alloc (.cells #[.string ⟨#[]⟩] 9)).alloc (.cells #[.int .i64 0] 3)).alloc (.cells #[.nilIface] 25)).cell? ⟨w.heap.size + 1, 0, none⟩ = some (.int .i64 0) := by simp [go_sem]
  have cC : (((w.alloc (.cells #[.string ⟨#[]⟩] 9)).alloc (.cells #[.int .i64 0] 3)).alloc (.cells #[.nilIface] 25)).cell? ⟨w.heap.size + 1 + 1, 0, none⟩ = some .nilIface := by simp [go_sem]
  have fA : (((w.alloc (.cells #[.string ⟨#[]⟩] 9)).alloc (.cells #[.int .i64 0] 3)).alloc (.cells #[.nilIface] 25)).frozen? ⟨w.heap.size, 0, none⟩ = false := by simp [go_sem]
  have fB : (((w.alloc (.cells #[.string ⟨#[]⟩] 9)).alloc (.cells #[.int .i64 0] 3)).alloc (.cells #[.nilIface] 25)).frozen? ⟨w.heap.size + 1, 0, none⟩ = false := by simp [go_sem]
  have fC : (((w.alloc (.cells #[.string ⟨#[]⟩] 9)).alloc (.cells #[.int .i64 0] 3)).alloc (.cells #[.nilIface] 25)).frozen? ⟨w.heap.size + 1 + 1, 0, none⟩ = false := by simp [go_sem]
  have hz0 : (((w.alloc (.cells #[.string ⟨#[]⟩] 9)).alloc (.cells #[.int .i64 0] 3)).alloc (.cells #[.nilIface] 25)).heap.size = w.heap.size + 3 := by simp
  clear hG
  go_enter_defers Tryz.func9, Tryz.ntmps9
  go_wp2_with fail
  refine (unhide HB _).mono ?_; rintro e w1 ⟨rfl, rfl⟩
  clear HB
  go_wp2_with fail
  generalize ((w.alloc (.cells #[.string ⟨#[]⟩] 9)).alloc (.cells #[.int .i64 0] 3)).alloc (.cells #[.nilIface] 25) = w0 at *
  obtain ⟨A, hA⟩ : ∃ q, q = w.heap.size := ⟨_, rfl⟩
  rw [← hA] at bz0 cA cB cC fA fB fC hz0 hn ⊢
  have HA := hide hA
  clear hA
  have hG0 := (unhide HG).below bz0 hn
  have HNR := hide (newReader2_any s most w0 (by omega) hm (by omega))
  have HG0 := hide hG0
  clear hG0
  refine (unhide HNR).mono ?_; rintro e w1 ⟨P, p, rfl, hI1, hp, hb1⟩
  have hG1 := (unhide HG0).below hb1 (by omega)
  have HBL := hide (blocks_any w1 hI1 hG1)
  have b1A := hb1.cell (p := ⟨A, 0, none⟩) (by show A < w0.heap.size; omega)
  have b1B := hb1.cell (p := ⟨A + 1, 0, none⟩) (by show A + 1 < w0.heap.size; omega)
  have b1C := hb1.cell (p := ⟨A + 1 + 1, 0, none⟩) (by show A + 1 + 1 < w0.heap.size; omega)
  have g1A := hb1.frozen (p := ⟨A, 0, none⟩) (by show A < w0.heap.size; omega)
  have g1B := hb1.frozen (p := ⟨A + 1, 0, none⟩) (by show A + 1 < w0.heap.size; omega)
  have g1C := hb1.frozen (p := ⟨A + 1 + 1, 0, none⟩) (by show A + 1 + 1 < w0.heap.size; omega)
  have bw1 : Below A w w1 := bz0.trans (hb1.mono (by omega))
  clear hI1 hG1 HNR hb1
  go_wp2_with fail
  refine (unhide HBL).mono ?_
  have HPAN : Hid (∀ (w2 : World) (x : Value), Below p w1 w2 → CallsD Tryz.prog 24 #[.pointer (some ⟨A, 0, none⟩), .pointer (some ⟨A + 1, 0, none⟩), .pointer (some ⟨A + 1 + 1, 0, none⟩)] (.panicking (thrown t x)) w2 fun e u' w' => e = .returned (.tuple #[]) ∧ u' = .panicking [{ v := .iface 48 (.agg #[.iface t x]), recovered := true }] ∧ w'.cell? ⟨A, 0, none⟩ = some (.string ⟨#[]⟩) ∧ w'.cell? ⟨A + 1, 0, none⟩ = some (.int .i64 0) ∧ w'.cell? ⟨A + 1 + 1, 0, none⟩ = some (.iface t x) ∧ Below A w2 w') := fun w2 x hb =>
    catch_thrown A (A + 1) (A + 1 + 1) t x (.string ⟨#[]⟩) (.int .i64 0) .nilIface w2 (by omega) (by omega) ((hb.cell (p := ⟨A, 0, none⟩) (by show A < p; omega)).trans (b1A.trans cA)) ((hb.cell (p := ⟨A + 1, 0, none⟩) (by show A + 1 < p; omega)).trans (b1B.trans cB)) ((hb.cell (p := ⟨A + 1 + 1, 0, none⟩) (by show A + 1 + 1 < p; omega)).trans (b1C.trans cC)) ((hb.frozen (p := ⟨A, 0, none⟩) (by show A < p; omega)).trans (g1A.trans fA)) ((hb.frozen (p := ⟨A + 1, 0, none⟩) (by show A + 1 < p; omega)).trans (g1B.trans fB)) ((hb.frozen (p := ⟨A + 1 + 1, 0, none⟩) (by show A + 1 + 1 < p; omega)).trans (g1C.trans fC))
  rintro e w2 (⟨k, out, fx', hrun, rfl, hI2, hb2⟩ | ⟨hrun, rfl, hb2⟩ | ⟨hrun, rfl, hb2⟩)
  · have HR := hide (run_of hrun)
    have cA2 : w2.cell? ⟨A, 0, none⟩ = some (.string ⟨#[]⟩) := (hb2.cell (p := ⟨A, 0, none⟩) (by show A < p; omega)).trans (b1A.trans cA)
    have cB2 : w2.cell? ⟨A + 1, 0, none⟩ = some (.int .i64 0) := (hb2.cell (p := ⟨A + 1, 0, none⟩) (by show A + 1 < p; omega)).trans (b1B.trans cB)
    have cC2 : w2.cell? ⟨A + 1 + 1, 0, none⟩ = some .nilIface := (hb2.cell (p := ⟨A + 1 + 1, 0, none⟩) (by show A + 1 + 1 < p; omega)).trans (b1C.trans cC)
    have fA2 : w2.frozen? ⟨A, 0, none⟩ = false := (hb2.frozen (p := ⟨A, 0, none⟩) (by show A < p; omega)).trans (g1A.trans fA)
    have fB2 : w2.frozen? ⟨A + 1, 0, none⟩ = false := (hb2.frozen (p := ⟨A + 1, 0, none⟩) (by show A + 1 < p; omega)).trans (g1B.trans fB)
    have fC2 : w2.frozen? ⟨A + 1 + 1, 0, none⟩ = false := (hb2.frozen (p := ⟨A + 1 + 1, 0, none⟩) (by show A + 1 + 1 < p; omega)).trans (g1C.trans fC)
    obtain ⟨a, cp, cv, hown⟩ : ∃ a c, w2.cell? ⟨P, 1, none⟩ = some (.slice a out.length c) ∧ w2.ownsRow (P + 1) 5 1 (.slice a out.length c) out.length (byteVals out) := by
      obtain ⟨a, c, h1, h2, _⟩ := hI2.slice
      exact ⟨a, c, h1, h2⟩
    have hconv := own_text w2.drew (P + 1) _ _ _ (hown.drew)
    have HU := hide (used_any w2.drew (hI2.still ((Below.refl _ _).drew)).1)
    have hPp := hI2.ltp
    have nAP : ¬ A = P := by omega
    have nBP : ¬ A + 1 = P := by omega
    have nCP : ¬ A + 1 + 1 = P := by omega
    have bw2 := bw1.trans (hb2.mono (by omega))
    clear HBL hrun HPAN hI2 b1A b1B b1C g1A g1B g1C cA cB cC fA fB fC hb2
    have entU : ∀ args w, (callFunc 27 args).run Tryz.prog w = .ok (.enter 27 args) w := enters_of Tryz.func27 (by kernel_rfl) rfl
    obtain ⟨us, hus⟩ : ∃ q, q = (k + 7) / 8 := ⟨_, rfl⟩
    rw [← hus] at HU
    have HUS := hide hus
    clear hus hconv
    have h0d : w2.drew.ownsRow (P + 1) 5 1 (.slice a out.length cp) out.length (byteVals out) := hown.drew
    have HFW : Hid (∀ w3, w3 = ((w2.drew.setCell ⟨A, 0, none⟩ (.string ⟨out.toArray⟩)).setCell ⟨A + 1, 0, none⟩ (.int .i64 (us : Nat))).setCell ⟨A + 1 + 1, 0, none⟩ .nilIface → w3.cell? ⟨A, 0, none⟩ = some (.string ⟨out.toArray⟩) ∧ w3.cell? ⟨A + 1, 0, none⟩ = some (.int .i64 (us : Nat)) ∧ w3.cell? ⟨A + 1 + 1, 0, none⟩ = some .nilIface ∧ Below A w w3) := fun w3 e => by
      subst e
      have q : ∀ (X Y : Nat), X ≠ Y → (⟨X, 0, none⟩ : Addr) ≠ ⟨Y, 0, none⟩ := fun X Y h e => h (by injection e)
      refine ⟨?_, ?_, ?_, ?_⟩
      · rw [World.cell?_setCell_other _ _ _ _ (q (A + 1 + 1) A (by omega)), World.cell?_setCell_other _ _ _ _ (q (A + 1) A (by omega))]
        exact World.cell?_setCell_same _ _ _ cA2
      · rw [World.cell?_setCell_other _ _ _ _ (q (A + 1 + 1) (A + 1) (by omega))]
        exact World.cell?_setCell_same _ _ _ ((World.cell?_setCell_other _ _ _ _ (q A (A + 1) (by omega))).trans cB2)
      · exact World.cell?_setCell_same _ _ _ ((World.cell?_setCell_other _ _ _ _ (q (A + 1) (A + 1 + 1) (by omega))).trans ((World.cell?_setCell_other _ _ _ _ (q A (A + 1 + 1) (by omega))).trans cC2))
      · exact ((bw2.drew.setCell (p := ⟨A, 0, none⟩) (Nat.le_refl _) _).setCell (p := ⟨A + 1, 0, none⟩) (by show A ≤ A + 1; omega) _).setCell (p := ⟨A + 1 + 1, 0, none⟩) (by show A ≤ A + 1 + 1; omega) _
    clear hown
    go_wp2_with fail
    refine wp_region_held_drew (S := fun w' => w'.cell? ⟨P, 1, none⟩ = some (.slice a out.length cp) ∧ w'.ownsRow (P + 1) 5 1 (.slice a out.length cp) out.length (byteVals out)) (by kernel_rfl) ⟨cv, h0d⟩ (fun hHeld => ?_)
    refine wpAnyH_take (i := 0) (v := .pointer (some ⟨P, 0, none⟩)) rfl (by kernel_rfl) (by kernel_rfl) (by kernel_rfl) (fun c a w h => door_put 19 (by omega) _ c a w h) (Or.inl ⟨by rfl, ?_⟩) hHeld ?_
    · intro w' hSw
      obtain ⟨q1, q2⟩ := hSw
      go_simp
    simp only [Act.put, List.setIfInBounds_toArray]
    refine wpAnyH_take (i := 1) (v := .pointer (some ⟨P, 0, none⟩)) rfl (by kernel_rfl) (by kernel_rfl) (by kernel_rfl) (fun c a w h => door_put 20 (by omega) _ c a w h) (Or.inl ⟨by rfl, ?_⟩) hHeld ?_
    · intro w' hSw
      obtain ⟨q1, q2⟩ := hSw
      go_simp
    simp only [Act.put]
    refine wpAnyH_take (i := 2) (v := .pointer (some ⟨P, 1, none⟩)) rfl (by kernel_rfl) (by kernel_rfl) (by kernel_rfl) (fun c a w h => door_put 21 (by omega) _ c a w h) (Or.inl ⟨by rfl, ?_⟩) hHeld ?_
    · intro w' hSw
      obtain ⟨q1, q2⟩ := hSw
      go_simp
    simp only [Act.put]
    refine wpAnyH_take (i := 3) (v := .slice a out.length cp) rfl (by kernel_rfl) (by kernel_rfl) (by kernel_rfl) (fun c a w h => door_put 22 (by omega) _ c a w h) (Or.inl ⟨by rfl, ?_⟩) hHeld ?_
    · intro w' hSw
      obtain ⟨q1, q2⟩ := hSw
      go_simp
    simp only [Act.put]
    refine wpAnyH_take (i := 4) (v := .string ⟨out.toArray⟩) rfl (by kernel_rfl) (by kernel_rfl) (by kernel_rfl) (fun c a w h => door_put 23 (by omega) _ c a w h) (Or.inl ⟨by rfl, ?_⟩) hHeld ?_
    · intro w' hSw
      obtain ⟨q1, q2⟩ := hSw
      have q3 := own_text w' (P + 1) _ _ _ q2
      go_simp
    simp only [Act.put]
    refine wpAnyH_take (i := 5) (v := .pointer (some ⟨P, 0, none⟩)) rfl (by kernel_rfl) (by kernel_rfl) (by kernel_rfl) (fun c a w h => door_put 24 (by omega) _ c a w h) (Or.inl ⟨by rfl, ?_⟩) hHeld ?_
    · intro w' hSw
      obtain ⟨q1, q2⟩ := hSw
      go_simp
    simp only [Act.put]
    refine wpAnyH_ready (rs := [6]) (by kernel_rfl) (by simp) ?_
    refine AllReadyH.cons rfl (fun K hK => ?_) AllReadyH.nil
    refine step_calls rfl 27 [.tmp 24] #[49] rfl [.pointer (some ⟨P, 0, none⟩)] (by simp [Act.eval]) entU ?_
    refine (unhide HU).mono ?_
    rintro e wz ⟨rfl, rfl⟩
    refine .inl ⟨_, rfl, ?_⟩
    refine hK.out _ _ hHeld (fun hHeld => ?_)
    clear hK K HU
    simp only [Act.put]
    refine wpAnyH_ready (rs := [7]) (by kernel_rfl) (by simp) ?_
    refine AllReadyH.cons rfl (fun K hK => ?_) AllReadyH.nil
    go_simp
    refine hK.out _ _ ⟨?_, ?_⟩ (fun hHeld => ?_)
    · exact (World.cell?_setCell_other _ _ _ _ (fun e => nAP (by injection e))).trans cv
    · exact ownsRow_setCell_below h0d (by show A < P + 1; omega) _
    clear hK K
    refine wpAnyH_ready (rs := [8]) (by kernel_rfl) (by simp) ?_
    refine AllReadyH.cons rfl (fun K hK => ?_) AllReadyH.nil
    have qB : (w2.drew.setCell ⟨A, 0, none⟩ (.string ⟨out.toArray⟩)).cell? ⟨A + 1, 0, none⟩ = some (.int .i64 0) := (World.cell?_setCell_other _ _ _ _ (fun e => absurd (show A = A + 1 by injection e) (by omega))).trans cB2
    go_simp
    refine hK.out _ _ ⟨?_, ?_⟩ (fun hHeld => ?_)
    · exact (World.cell?_setCell_other _ _ _ _ (fun e => nBP (by injection e))).trans hHeld.1
    · exact ownsRow_setCell_below hHeld.2 (by show A + 1 < P + 1; omega) _
    clear hK K
    refine wpAnyH_ready (rs := [9]) (by kernel_rfl) (by simp) ?_
    refine AllReadyH.cons rfl (fun K hK => ?_) AllReadyH.nil
    go_simp
    refine hK.out _ _ ⟨?_, ?_⟩ (fun hHeld => ?_)
    · exact (World.cell?_setCell_other _ _ _ _ (fun e => nCP (by injection e))).trans hHeld.1
    · exact ownsRow_setCell_below hHeld.2 (by show A + 1 + 1 < P + 1; omega) _
    clear hK K
    refine wpAnyH_done (by kernel_rfl) ?_ _
    obtain ⟨w3, hw3⟩ : ∃ w3, w3 = (((w2.setCell ⟨A, 0, none⟩ (.string ⟨out.toArray⟩)).setCell ⟨A + 1, 0, none⟩ (.int .i64 (us : Nat))).setCell ⟨A + 1 + 1, 0, none⟩ .nilIface).drew := ⟨_, rfl⟩
    rw [← hw3]
    obtain ⟨k1, k2, k3, bw3⟩ := unhide HFW w3 (hw3.trans (by first | rfl | simp [go_sem]))
    clear hHeld qB hw3 HFW
    go_wp2
    refine leaves_cons (f := 24) (args := #[.pointer (some ⟨A, 0, none⟩), .pointer (some ⟨A + 1, 0, none⟩), .pointer (some ⟨A + 1 + 1, 0, none⟩)]) (by simp) (by simp [go_sem]) ?_
    refine (catch_idle _ _ _ w3).mono ?_
    rintro e u' w4 ⟨rfl, rfl, rfl⟩
    have bw4 : Below w.heap.size w w4 := by rw [← unhide HA]; exact bw3
    have HRR : Hid (infl (tv s) (8 * s.size) most = some (.ok k out)) := unhide HR
    simp [Leaves, settle, results, Tryz.results9, go_sem, k1, k2, k3]
    exact ⟨_, unhide HRR, by rw [unhide HUS]; rfl, bw4⟩
  · have HR := hide (run_of hrun)
    have bw2 := bw1.trans (hb2.mono (by omega))
    have HC := hide (unhide HPAN w2 xT hb2)
    clear HBL hrun HPAN
    go_wp2
    refine leaves_cons (f := 24) (args := #[.pointer (some ⟨A, 0, none⟩), .pointer (some ⟨A + 1, 0, none⟩), .pointer (some ⟨A + 1 + 1, 0, none⟩)]) (by simp) (by simp [go_sem]) ?_
    refine (unhide HC).mono ?_
    rintro e u' w3 ⟨rfl, rfl, k1, k2, k3, hb3⟩
    have bw3 : Below w.heap.size w w3 := by rw [← unhide HA]; exact bw2.trans hb3
    have HRR : Hid (infl (tv s) (8 * s.size) most = some (.err .text)) := unhide HR
    simp [Leaves, settle, results, Tryz.results9, go_sem, k1, k2, k3]
    exact ⟨_, unhide HRR, rfl, bw3⟩
  · have HR := hide (run_of hrun)
    have bw2 := bw1.trans (hb2.mono (by omega))
    have HC := hide (unhide HPAN w2 xB hb2)
    clear HBL hrun HPAN
    go_wp2
    refine leaves_cons (f := 24) (args := #[.pointer (some ⟨A, 0, none⟩), .pointer (some ⟨A + 1, 0, none⟩), .pointer (some ⟨A + 1 + 1, 0, none⟩)]) (by simp) (by simp [go_sem]) ?_
    refine (unhide HC).mono ?_
    rintro e u' w3 ⟨rfl, rfl, k1, k2, k3, hb3⟩
    have bw3 : Below w.heap.size w w3 := by rw [← unhide HA]; exact bw2.trans hb3
    have HRR : Hid (infl (tv s) (8 * s.size) most = some (.err .bound)) := unhide HR
    simp [Leaves, settle, results, Tryz.results9, go_sem, k1, k2, k3]
    exact ⟨_, unhide HRR, rfl, bw3⟩
end
end Go.Proofs.YtfeljhikeddodaeGreatDoor
