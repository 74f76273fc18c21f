/- Moving pictures: the program's Read. -/
import Derived.Test.YtjcoahahponabaaGreatDoorMg21
namespace Go.Proofs.YtjcoahahponabaaGreatDoor
open Go.RowKit Lz

/-- A file that is as it would be written. -/
def FilOk (s : List UInt8) (F : Fil) (V : Nat → FrV) : Prop := fewP F.L.length (V 0).f ∧ (∀ j, j < F.L.length → frE (V j).f (V 0).f = 0) ∧ gifL (V 0).f.W.toNat (V 0).f.H.toNat (tfsF V F.L.length) F.loops = s
/-- How what was read would be told: its frames alone say it. -/
def rfF (W H : Nat) (f : Rf) : Fr := ⟨W, H, f.P.length, fun k => f.P.getD k default, f.d⟩
/-- What Read answers. -/
def RdAns (s : List UInt8) (tE : TypeId) (xE : Value) (w' : World) (e : Ending) : Prop :=
  (∃ (F : Fil) (ta : Option Addr) (tc : Nat) (U : Nat → FrV), filA s = some F ∧ F.loops < 65536 ∧ FilOk s F U ∧ e = .returned (.tuple #[.slice ta F.L.length tc, .int .i64 (F.loops : Int), .nilIface]) ∧ IsRw w' 4 ta F.L.length (fun j => (U j).cells) ∧ ∀ j, j < F.L.length → (∃ f a c, F.L[j]? = some f ∧ U j = rfV F.W F.H f a c ∧ f.P.length ≤ 65536 ∧ f.d < 65536) ∧ (U j).in w') ∨
  ((∀ (F : Fil) (U : Nat → FrV), filA s = some F → (∀ j, j < F.L.length → ∃ f a c, F.L[j]? = some f ∧ U j = rfV F.W F.H f a c) → ¬ FilOk s F U) ∧ e = .returned (.tuple #[.slice none 0 0, .int .i64 0, .iface tE xE]))
theorem filOk_same {s : List UInt8} {F : Fil} {U V : Nat → FrV} (hU : ∀ j, j < F.L.length → ∃ f a c, F.L[j]? = some f ∧ U j = rfV F.W F.H f a c) (hV : ∀ j, j < F.L.length → ∃ f a c, F.L[j]? = some f ∧ V j = rfV F.W F.H f a c) (h : FilOk s F V) : FilOk s F U := by
  have e : ∀ j, j < F.L.length → (U j).f = (V j).f := fun j hj => by
    obtain ⟨f, a, c, h1, h2⟩ := hU j hj
    obtain ⟨f', a', c', h3, h4⟩ := hV j hj
    rw [h1] at h3
    injection h3 with h3
    subst h3
    rw [h2, h4]
    rfl
  obtain ⟨h1, h2, h3⟩ := h
  have h0 := e 0 (by have := h1.1.1; omega)
  refine ⟨by rw [h0]; exact h1, fun j hj => by rw [h0, e j hj]; exact h2 j hj, ?_⟩
  rw [h0]
  have : tfsF U F.L.length = tfsF V F.L.length := List.map_congr_left (fun j hj => by rw [e j (List.mem_range.1 hj)])
  rw [this]
  exact h3
theorem arr_eq (l : List UInt8) (s : ByteArray) : (⟨l.toArray⟩ : ByteArray) = s ↔ l = bl s := by
  constructor
  · intro h
    rw [← h]
    simp [bl]
  · intro h
    apply text_ext
    rw [h]
    simp [bl]
theorem px_not1 {w : World} {k b off : Nat} {v : Value} {t : TypeId} {p : Px} (h : w.heap[k]? = some (.cells #[v] t)) (hv : ∀ z, v ≠ .int .u8 z) (hp : PxAt w b off p) : b ≠ k := fun e => by
  subst e
  have h0 := hp.r
  rw [blk_cell h] at h0
  rcases off with _ | off
  · simp at h0
    exact hv _ h0
  · simp at h0
theorem px_set1 {w : World} {k n : Nat} {v : Value} {t : TypeId} {a : Option Addr} {p : Nat → Px} (h : IsPx w a n p) (hk : w.heap[k]? = some (.cells #[v] t)) (hv : ∀ z, v ≠ .int .u8 z) (u : Value) : IsPx (w.setCell ⟨k, 0, none⟩ u) a n p := by
  rcases h with h | ⟨b, off, e, hm, hc⟩
  · exact .inl h
  · exact .inr ⟨b, off, e, hm, fun i hi => (hc i hi).block (Below.heap_setCell _ _ _ _ (px_not1 hk hv (hc i hi)))⟩
theorem IsPx.elim0 {w : World} {n : Nat} {a : Option Addr} {p : Nat → Px} (h : IsPx w a n p) (h0 : 0 < n) : ∃ b off, a = some ⟨b, off, none⟩ ∧ n ≤ maxLen ∧ ∀ i, i < n → PxAt w b (off + i * 4) (p i) := h.resolve_left (by omega)
theorem set_one {w : World} {k : Nat} {v : Value} {t : TypeId} (h : w.heap[k]? = some (.cells #[v] t)) (u : Value) : (w.setCell ⟨k, 0, none⟩ u).heap[k]? = some (.cells #[u] t) := by
  have := set_cells (j := 0) h u
  simpa using this
def RdL (s : ByteArray) : Prop := ∃ F U, filA (bl s) = some F ∧ (∀ j, j < F.L.length → ∃ f a c, F.L[j]? = some f ∧ U j = rfV F.W F.H f a c) ∧ FilOk (bl s) F U
theorem leavesG_congr {fn : Func} {tmps tmps' : Array Value} {R : Ending → World → Prop} (h : ∀ w, (results fn tmps').run Tryz.prog w = (results fn tmps).run Tryz.prog w) : ∀ (ds : List Deferred) (u : FrameMode) (w : World), Leaves Tryz.prog fn tmps R ds u w → Leaves Tryz.prog fn tmps' R ds u w := by
  intro ds
  induction ds with
  | nil =>
    intro u w hl
    cases u with
    | returning => obtain ⟨v, h1, h2⟩ := hl; exact ⟨v, (h w).trans h1, h2⟩
    | panicking c => exact hl
    | run => exact hl
  | cons d ds ih =>
    intro u w hl
    obtain ⟨h1, fv, cap, f, args, h2, h3, hc⟩ := hl
    refine ⟨h1, fv, cap, f, args, h2, h3, hc.mono ?_⟩
    rintro e u' w' he
    cases e with
    | returned v => exact ih _ _ he
    | panicked c => exact ih _ _ he
    | outgrown => exact he

set_option maxHeartbeats 8000000 in
set_option maxRecDepth 100000 in
theorem gread_any (s : ByteArray) (w : World) (aS : Nat → Addr) (hS : Told w [1, 2, 6] aS) {tE : TypeId} {xE : Value} (hG : GT w tE xE) (hs : s.size ≤ 300000) (hn : 10 ≤ w.heap.size) :
    Calls Tryz.prog 29 #[.string s] w fun e w' => RdAns (bl s) tE xE w' e ∧ Below w.heap.size w w' := by
  have hmf : ∀ (fn : Fn) (first cap : Array Value) (w : World), (Instr.makeFunc fn first cap).run Tryz.prog w = .ok (.func fn first cap) w := fun _ _ _ _ => rfl
  have HGl := hide (fun wr (hb : Below w.heap.size w wr) => ((hb.cell (p := ⟨1, 0, none⟩) (World.block_lt_of_cell? _ _ hG)).trans hG : GT wr tE xE))
  have HSl := hide (fun wr (hb : Below w.heap.size w wr) => hS.below hb)
  have bz0 := al3 w (.cells #[.slice none 0 0] 59) (.cells #[.int .i64 0] 3) (.cells #[.nilIface] 41)
  have HA3 := hide bz0
  obtain ⟨A, hA⟩ : ∃ A, A = w.heap.size := ⟨_, rfl⟩
  clear hG hS bz0
  go_enter_defers Tryz.func29, Tryz.ntmps29
  go_wp2_with fail
  generalize ((w.alloc (.cells #[.slice none 0 0] 59)).alloc (.cells #[.int .i64 0] 3)).alloc (.cells #[.nilIface] 41) = w0 at *
  rw [← hA] at HA3 HGl HSl hn ⊢
  obtain ⟨hz0, k0, k1, k2, hb0⟩ := unhide HA3
  have HAE := hide hA
  have HB0 := hide hb0
  have K0 := hide k0
  have K1 := hide k1
  have K2 := hide k2
  clear HA3 hA k0 k1 k2 hb0
  refine (newReaderG_any s w0 hs).mono ?_
  rintro e w1 ⟨R, rfl, hR, hr, hb1⟩
  have HB1 := hide ((unhide HB0).trans (hb1.mono (by omega)))
  have K01 := hide (blk_below (unhide K0) hb1 (by omega))
  have K11 := hide (blk_below (unhide K1) hb1 (by omega))
  have K21 := hide (blk_below (unhide K2) hb1 (by omega))
  have hRl := hr.lt
  have hnT : 1 ≠ R := by omega
  have hnB : 0 ≠ R := by omega
  obtain ⟨tB, xB, hsB⟩ : ∃ t v, sentV aS 1 = .iface t v := ⟨_, _, rfl⟩
  have HFr := hide (rframes_any w1 hr (unhide HGl _ (unhide HB1)) (by have := unhide HSl _ (unhide HB1) 1 (by simp); rw [hsB] at this; exact this) hnT hnB hs)
  have HPAN : Hid (∀ (w2 : World) (x : Value) (va vb vc : Value), w2.heap[A]? = some (.cells #[va] 59) → w2.heap[A + 1]? = some (.cells #[vb] 3) → w2.heap[A + 2]? = some (.cells #[vc] 41) → CallsD Tryz.prog 70 #[.pointer (some ⟨A, 0, none⟩), .pointer (some ⟨A + 1, 0, none⟩), .pointer (some ⟨A + 1 + 1, 0, none⟩)] (.panicking (gthr tE x)) w2 fun e u' w' => e = .returned (.tuple #[]) ∧ u' = .panicking [{ v := .iface 155 (.agg #[.iface tE x]), recovered := true }] ∧ w'.cell? ⟨A, 0, none⟩ = some (.slice none 0 0) ∧ w'.cell? ⟨A + 1, 0, none⟩ = some (.int .i64 0) ∧ w'.cell? ⟨A + 1 + 1, 0, none⟩ = some (.iface tE x) ∧ Below A w2 w') := fun w2 x va vb vc h0 h1 h2 =>
    catchG_thrown A (A + 1) (A + 1 + 1) tE x va vb vc w2 (by omega) (by omega) (blk_cell h0 0) (blk_cell h1 0) (blk_cell h2 0) (blk_frozen h0 0) (blk_frozen h1 0) (blk_frozen h2 0)
  clear hr hb1 HB0 K0 K1 K2 hsB
  go_wp2_with fail
  refine (unhide HFr).mono ?_
  rintro e w2 ⟨hq, hb⟩
  have HH := hide hq
  have HB2 : Hid (Below A w w2) := (unhide HB1).trans (hb.below (by omega) (fun k hk q => by omega))
  have K02 := hide ((hb.block A (by omega) (by omega)).trans (unhide K01))
  have K12 := hide ((hb.block (A + 1) (by omega) (by omega)).trans (unhide K11))
  have K22 := hide ((hb.block (A + 2) (by omega) (by omega)).trans (unhide K21))
  have hz2 : A + 3 ≤ w2.heap.size := by have := hb.size; omega
  clear hq hb HFr HB1 K01 K11 K21
  rcases unhide HH with ⟨F, ta, tc, U, hfil, hFW, hFH, hlp, hL16, rfl, ho, hall⟩ | ⟨hfil, rfl⟩
  rotate_left
  · have HRes : Hid (∀ w', RdAns (bl s) tE xE w' (.returned (.tuple #[.slice none 0 0, .int .i64 0, .iface tE xE]))) := fun w' => .inr ⟨fun F U h => by rw [hfil] at h; simp at h, rfl⟩
    have HC := hide (unhide HPAN w2 xE _ _ _ (unhide K02) (unhide K12) (unhide K22))
    clear hfil HH HPAN
    go_wp2
    refine leaves_cons (f := 70) (args := #[.pointer (some ⟨A, 0, none⟩), .pointer (some ⟨A + 1, 0, none⟩), .pointer (some ⟨A + 1 + 1, 0, none⟩)]) (by simp) (by simp [go_sem]) ?_
    refine (unhide HC).mono ?_
    rintro e u' w3 ⟨rfl, rfl, k1, k2, k3, hb3⟩
    have bw3 : Below w.heap.size w w3 := by rw [← unhide HAE]; exact (unhide HB2).trans hb3
    have HRR := unhide HRes w3
    simp [Leaves, settle, results, Tryz.results29, go_sem, k1, k2, k3]
    exact ⟨HRR, bw3⟩
  obtain ⟨n, hnl⟩ : ∃ n, n = F.L.length := ⟨_, rfl⟩
  rw [← hnl] at ho hall hL16 ⊢
  have HNL := hide hnl
  have HFil := hide hfil
  have HUf : Hid (∀ j, j < n → ∃ f a c, F.L[j]? = some f ∧ U j = rfV F.W F.H f a c ∧ f.P.length ≤ 65536 ∧ f.d < 65536) := fun j hj => by
    obtain ⟨f, a, c, q1, q2, q3, q4⟩ := (hall j hj).eq
    exact ⟨f, a, c, q1, q2, Nat.le_trans q3 (Nat.mul_le_mul hFW.2 hFH.2), q4⟩
  have e0 := set_one (unhide K02) (.slice ta n tc)
  have K13 : (w2.setCell ⟨A, 0, none⟩ (.slice ta n tc)).heap[A + 1]? = some (.cells #[.int .i64 0] 3) := (Below.heap_setCell _ _ _ _ (by show A + 1 ≠ A; omega)).trans (unhide K12)
  have HO4 : Hid (((w2.setCell ⟨A, 0, none⟩ (.slice ta n tc)).setCell ⟨A + 1, 0, none⟩ (.int .i64 (F.loops : Int))).ownsRow w1.heap.size 92 4 (.slice ta n tc) n (rowV (fun j => (U j).cells) n)) := ownsRow_setCell_below (ownsRow_setCell_below ho (by show A < w1.heap.size; omega) _) (by show A + 1 < w1.heap.size; omega) _
  have HI4 : Hid (∀ j, j < n → (U j).in ((w2.setCell ⟨A, 0, none⟩ (.slice ta n tc)).setCell ⟨A + 1, 0, none⟩ (.int .i64 (F.loops : Int)))) := fun j hj => px_set1 (px_set1 (hall j hj).is (unhide K02) (by intro z; simp) _) K13 (by intro z; simp) _
  have K04 := hide ((Below.heap_setCell _ (⟨A + 1, 0, none⟩ : Addr) (.int .i64 (F.loops : Int)) _ (by show A ≠ A + 1; omega)).trans e0)
  have K14 := hide (set_one K13 (.int .i64 (F.loops : Int)))
  have K24 := hide ((Below.heap_setCell (w2.setCell ⟨A, 0, none⟩ (.slice ta n tc)) (⟨A + 1, 0, none⟩ : Addr) (.int .i64 (F.loops : Int)) _ (by show A + 2 ≠ A + 1; omega)).trans ((Below.heap_setCell _ _ _ _ (by show A + 2 ≠ A; omega)).trans (unhide K22)))
  have HB4 := hide (((unhide HB2).setCell (p := ⟨A, 0, none⟩) (Nat.le_refl _) (.slice ta n tc)).setCell (p := ⟨A + 1, 0, none⟩) (by show A ≤ A + 1; omega) (.int .i64 (F.loops : Int)))
  have t0 : w2.cell? ⟨A, 0, none⟩ = some (.slice none 0 0) := blk_cell (unhide K02) 0
  have t1 : w2.cell? ⟨A + 1, 0, none⟩ = some (.int .i64 0) := blk_cell (unhide K12) 0
  have f0 := blk_frozen (unhide K02) 0
  have f1 := blk_frozen (unhide K12) 0
  have hz4 : A + 3 ≤ ((w2.setCell ⟨A, 0, none⟩ (.slice ta n tc)).setCell ⟨A + 1, 0, none⟩ (.int .i64 (F.loops : Int))).heap.size := by simpa [World.setCell] using hz2
  have hnA : A + 1 ≠ A := by omega
  have hnA2 : A ≠ A + 1 := by omega
  have HBk : Hid (∀ b off, ta = some ⟨b, off, none⟩ → 0 < n → A + 3 ≤ b) := fun b off e h0 => by subst e; have := (ho.lt b rfl).1; omega
  clear hfil hnl ho hall HH e0 K13 HB2
  go_upto_region 4 with fail
  generalize (w2.setCell ⟨A, 0, none⟩ (.slice ta n tc)).setCell ⟨A + 1, 0, none⟩ (.int .i64 (F.loops : Int)) = w4 at *
  clear t0 t1 f0 f1 K02 K12 K22
  have q0 : w4.cell? ⟨A, 0, none⟩ = some (.slice ta n tc) := blk_cell (unhide K04) 0
  have q1 : w4.cell? ⟨A + 1, 0, none⟩ = some (.int .i64 (F.loops : Int)) := blk_cell (unhide K14) 0
  have HRw4 : Hid (IsRw w4 4 ta n (fun j => (U j).cells)) := own_rw (unhide HO4) (fun j => rfl) (by unfold maxLen; omega)
  have HW := hide (gwrite_any ta n tc (F.loops : Int) U w4 aS (unhide HSl _ (unhide HB4)) (unhide HRw4) (unhide HI4))
  go_wp2_with fail
  refine (unhide HW).mono ?_
  rintro e w5 ⟨hq, hb⟩
  have HH := hide hq
  have HB5 : Hid (Below A w w5) := (unhide HB4).trans (hb.mono (by omega))
  have K05 := hide (blk_below (unhide K04) hb (by omega))
  have K15 := hide (blk_below (unhide K14) hb (by omega))
  have K25 := hide (blk_below (unhide K24) hb (by omega))
  have HRw5 := hide ((unhide HRw4).below hb)
  have HI5 := hide (fun j hj => (unhide HI4 j hj).below hb)
  have hz5 : A + 3 ≤ w5.heap.size := by have := hb.size; omega
  have hG5 : w5.cell? ⟨1, 0, none⟩ = some (.iface tE xE) := unhide HGl _ (unhide HB5)
  have HResN : Hid (¬ FilOk (bl s) F U → ∀ w', RdAns (bl s) tE xE w' (.returned (.tuple #[.slice none 0 0, .int .i64 0, .iface tE xE]))) := fun hno w' => .inr ⟨fun F' U' h hU' hok => by
    rw [unhide HFil] at h
    injection h with h
    subst h
    exact hno (filOk_same (fun j hj => by
      obtain ⟨f, a, c, q1, q2, _⟩ := unhide HUf j (by rw [unhide HNL]; exact hj)
      exact ⟨f, a, c, q1, q2⟩) hU' hok), rfl⟩
  clear hq hb HW HO4 HI4 HRw4 K04 K14 K24 HB4 q0 q1
  have HC := hide (unhide HPAN w5 xE _ _ _ (unhide K05) (unhide K15) (unhide K25))
  clear HPAN
  rcases unhide HH with ⟨h1, rfl⟩ | ⟨_, i, hi, h1, h2, p, rfl, _⟩ | ⟨h1, h2, rfl⟩
  · have HNo : Hid (¬ FilOk (bl s) F U) := fun q => h1 ⟨by rw [unhide HNL]; exact q.1, by omega, by omega⟩
    have HRes := hide (unhide HResN (unhide HNo))
    obtain ⟨tb, xb, hsb⟩ : ∃ t v, sentV aS 1 = .iface t v := ⟨_, _, rfl⟩
    rw [hsb]
    clear h1 hsb HH HRw5 HI5 K05 K15 K25
    go_wp2_with fail
    refine (gthrow_any tE xE _).mono ?_; rintro e w6 ⟨rfl, rfl⟩
    go_wp2
    refine leaves_cons (f := 70) (args := #[.pointer (some ⟨A, 0, none⟩), .pointer (some ⟨A + 1, 0, none⟩), .pointer (some ⟨A + 1 + 1, 0, none⟩)]) (by simp) (by simp [go_sem]) ?_
    refine (unhide HC).mono ?_
    rintro e u' w7 ⟨rfl, rfl, k1, k2, k3, hb3⟩
    have bw3 : Below w.heap.size w w7 := by rw [← unhide HAE]; exact (unhide HB5).trans hb3
    have HRR := unhide HRes w7
    simp [Leaves, settle, results, Tryz.results29, go_sem, k1, k2, k3]
    exact ⟨HRR, bw3⟩
  · have HNo : Hid (¬ FilOk (bl s) F U) := fun q => h2 (q.2.1 i (by rw [← unhide HNL]; exact hi))
    have HRes := hide (unhide HResN (unhide HNo))
    clear h1 h2 HH HRw5 HI5 K05 K15 K25
    go_wp2_with fail
    refine (gthrow_any tE xE _).mono ?_; rintro e w6 ⟨rfl, rfl⟩
    go_wp2
    refine leaves_cons (f := 70) (args := #[.pointer (some ⟨A, 0, none⟩), .pointer (some ⟨A + 1, 0, none⟩), .pointer (some ⟨A + 1 + 1, 0, none⟩)]) (by simp) (by simp [go_sem]) ?_
    refine (unhide HC).mono ?_
    rintro e u' w7 ⟨rfl, rfl, k1, k2, k3, hb3⟩
    have bw3 : Below w.heap.size w w7 := by rw [← unhide HAE]; exact (unhide HB5).trans hb3
    have HRR := unhide HRes w7
    simp [Leaves, settle, results, Tryz.results29, go_sem, k1, k2, k3]
    exact ⟨HRR, bw3⟩
  by_cases heq : gifL (U 0).f.W.toNat (U 0).f.H.toNat (tfsF U n) ((F.loops : Int)).toNat = bl s
  rotate_left
  · have HNo : Hid (¬ FilOk (bl s) F U) := fun q => heq (by have := q.2.2; rw [← unhide HNL] at this; exact this)
    have HRes := hide (unhide HResN (unhide HNo))
    have hbq : (⟨(gifL (U 0).f.W.toNat (U 0).f.H.toNat (tfsF U n) ((F.loops : Int)).toNat).toArray⟩ : ByteArray) ≠ s := fun q => heq ((arr_eq _ _).1 q)
    generalize (⟨(gifL (U 0).f.W.toNat (U 0).f.H.toNat (tfsF U n) ((F.loops : Int)).toNat).toArray⟩ : ByteArray) = gs at *
    have hbl : (gs.toList == s.toList) = false := by
      rw [beq_eq_false_iff_ne]
      exact fun q => hbq (ByteArray.ext (Array.toList_inj.1 (by rw [← ByteArray.toList_eq, ← ByteArray.toList_eq]; exact q)))
    clear hbq
    clear h1 h2 HH HRw5 HI5 K05 K15 K25 heq
    go_wp2_with fail
    refine (gthrow_any tE xE _).mono ?_; rintro e w6 ⟨rfl, rfl⟩
    go_wp2
    refine leaves_cons (f := 70) (args := #[.pointer (some ⟨A, 0, none⟩), .pointer (some ⟨A + 1, 0, none⟩), .pointer (some ⟨A + 1 + 1, 0, none⟩)]) (by simp) (by simp [go_sem]) ?_
    refine (unhide HC).mono ?_
    rintro e u' w7 ⟨rfl, rfl, k1, k2, k3, hb3⟩
    have bw3 : Below w.heap.size w w7 := by rw [← unhide HAE]; exact (unhide HB5).trans hb3
    have HRR := unhide HRes w7
    simp [Leaves, settle, results, Tryz.results29, go_sem, k1, k2, k3]
    exact ⟨HRR, bw3⟩
  · have HOk : Hid (FilOk (bl s) F U) := ⟨by rw [← unhide HNL]; exact h1.1, by rw [← unhide HNL]; exact h2, by rw [← unhide HNL]; exact heq⟩
    have hgs : (⟨(gifL (U 0).f.W.toNat (U 0).f.H.toNat (tfsF U n) ((F.loops : Int)).toNat).toArray⟩ : ByteArray) = s := (arr_eq _ _).2 heq
    rw [hgs]
    have hbl : (s.toList == s.toList) = true := by simp
    have q0 : w5.cell? ⟨A, 0, none⟩ = some (.slice ta n tc) := blk_cell (unhide K05) 0
    have q1 : w5.cell? ⟨A + 1, 0, none⟩ = some (.int .i64 (F.loops : Int)) := blk_cell (unhide K15) 0
    have q2 : w5.cell? ⟨A + 1 + 1, 0, none⟩ = some .nilIface := blk_cell (unhide K25) 0
    have f0 := blk_frozen (unhide K05) 0
    have f1 := blk_frozen (unhide K15) 0
    have f2 : w5.frozen? ⟨A + 1 + 1, 0, none⟩ = false := blk_frozen (unhide K25) 0
    have HFW : Hid (∀ w6, w6 = ((w5.setCell ⟨A, 0, none⟩ (.slice ta n tc)).setCell ⟨A + 1, 0, none⟩ (.int .i64 (F.loops : Int))).setCell ⟨A + 1 + 1, 0, none⟩ .nilIface → w6.cell? ⟨A, 0, none⟩ = some (.slice ta n tc) ∧ w6.cell? ⟨A + 1, 0, none⟩ = some (.int .i64 (F.loops : Int)) ∧ w6.cell? ⟨A + 1 + 1, 0, none⟩ = some .nilIface ∧ Below A w w6 ∧ w6 = w6) := fun w6 e => by
      subst e
      have q : ∀ (X Y : Nat), X ≠ Y → (⟨X, 0, none⟩ : Addr) ≠ ⟨Y, 0, none⟩ := fun X Y h e => h (by injection e)
      refine ⟨?_, ?_, ?_, ?_, rfl⟩
      · rw [World.cell?_setCell_other _ _ _ _ (q (A + 1 + 1) A (by omega)), World.cell?_setCell_other _ _ _ _ (q (A + 1) A (by omega))]
        exact World.cell?_setCell_same _ _ _ q0
      · rw [World.cell?_setCell_other _ _ _ _ (q (A + 1 + 1) (A + 1) (by omega))]
        exact World.cell?_setCell_same _ _ _ ((World.cell?_setCell_other _ _ _ _ (q A (A + 1) (by omega))).trans q1)
      · exact World.cell?_setCell_same _ _ _ ((World.cell?_setCell_other _ _ _ _ (q (A + 1) (A + 1 + 1) (by omega))).trans ((World.cell?_setCell_other _ _ _ _ (q A (A + 1 + 1) (by omega))).trans q2))
      · exact (((unhide HB5).setCell (p := ⟨A, 0, none⟩) (Nat.le_refl _) _).setCell (p := ⟨A + 1, 0, none⟩) (by show A ≤ A + 1; omega) _).setCell (p := ⟨A + 1 + 1, 0, none⟩) (by show A ≤ A + 1 + 1; omega) _
    clear h1 h2 HH hgs heq HC hG5 HResN
    go_wp2_with fail
    go_region
    have HRw6 : Hid (∀ j o, j < w5.heap.size → j ≠ A → j ≠ A + 1 → j ≠ A + 1 + 1 → o = w5.heap[j]? → ((((w5.setCell ⟨A, 0, none⟩ (.slice ta n tc)).setCell ⟨A + 1, 0, none⟩ (.int .i64 (F.loops : Int))).setCell ⟨A + 1 + 1, 0, none⟩ .nilIface)).heap[j]? = o) := fun j o _ h1 h2 h3 e => by
      rw [e, Below.heap_setCell _ _ _ _ (by show j ≠ A + 1 + 1; omega), Below.heap_setCell _ _ _ _ (by show j ≠ A + 1; omega), Below.heap_setCell _ _ _ _ (by show j ≠ A; omega)]
    have HU6 : Hid (∀ j, j < n → (U j).in ((((w5.setCell ⟨A, 0, none⟩ (.slice ta n tc)).setCell ⟨A + 1, 0, none⟩ (.int .i64 (F.loops : Int))).setCell ⟨A + 1 + 1, 0, none⟩ .nilIface)).drew) := fun j hj => by
      have h := unhide HI5 j hj
      show IsPx _ _ _ _
      refine isPx_block h (fun x e h0 => ?_)
      obtain ⟨b, off, e2, _, hc⟩ := IsPx.elim0 h h0
      rw [e] at e2
      injection e2 with e2
      subst e2
      have hp := hc 0 h0
      refine unhide HRw6 _ _ hp.lt ?_ ?_ ?_ rfl
      · exact px_not1 (unhide K05) (by intro z; simp) hp
      · exact px_not1 (unhide K15) (by intro z; simp) hp
      · exact px_not1 (unhide K25) (by intro z; simp) hp
    have HR6 : Hid (IsRw ((((w5.setCell ⟨A, 0, none⟩ (.slice ta n tc)).setCell ⟨A + 1, 0, none⟩ (.int .i64 (F.loops : Int))).setCell ⟨A + 1 + 1, 0, none⟩ .nilIface)).drew 4 ta n (fun j => (U j).cells)) := by
      rcases unhide HRw5 with q | ⟨b, off, e, hm, hc⟩
      · exact .inl q
      · by_cases hn0 : n = 0
        · exact .inl hn0
        · have hbA : A + 3 ≤ b := by
            have := unhide HBk b off e (by omega)
            omega
          refine .inr ⟨b, off, e, hm, fun i hi j u hu => ?_⟩
          have h := hc i hi j u hu
          have hb := World.block_lt_of_cell? _ _ h
          simp only at hb
          exact (World.cell?_of_block (a := ⟨b, off + i * 4 + j, none⟩) (unhide HRw6 b _ hb (by omega) (by omega) (by omega) rfl)).trans h
    obtain ⟨w6, hw6⟩ : ∃ w6, w6 = ((((w5.setCell ⟨A, 0, none⟩ (.slice ta n tc)).setCell ⟨A + 1, 0, none⟩ (.int .i64 (F.loops : Int))).setCell ⟨A + 1 + 1, 0, none⟩ .nilIface)).drew := ⟨_, rfl⟩
    have hk := unhide HFW _ rfl
    have k1 : w6.cell? ⟨A, 0, none⟩ = some (.slice ta n tc) := by rw [hw6]; exact hk.1
    have k2 : w6.cell? ⟨A + 1, 0, none⟩ = some (.int .i64 (F.loops : Int)) := by rw [hw6]; exact hk.2.1
    have k3 : w6.cell? ⟨A + 1 + 1, 0, none⟩ = some .nilIface := by rw [hw6]; exact hk.2.2.1
    have hb6 : Below A w w6 := by rw [hw6]; exact hk.2.2.2.1.drew
    rw [← hw6] at HU6 HR6
    first | rw [← hw6] | (have hw6' : ((((w5.setCell ⟨A, 0, none⟩ (.slice ta n tc)).setCell ⟨A + 1, 0, none⟩ (.int .i64 (F.loops : Int))).setCell ⟨A + 1 + 1, 0, none⟩ .nilIface)).drew = w6 := hw6.symm; simp only [hw6'])
    clear hk HFW HRw6 hw6 HRw5 HI5 K05 K15 K25 q0 q1 q2 f0 f1 f2 HB5
    have HRes : Hid (RdAns (bl s) tE xE w6 (.returned (.tuple #[.slice ta n tc, .int .i64 (F.loops : Int), .nilIface]))) := by
      refine .inl ⟨F, ta, tc, U, unhide HFil, hlp, unhide HOk, by rw [← unhide HNL], by rw [← unhide HNL]; exact unhide HR6, fun j hj => ?_⟩
      rw [← unhide HNL] at hj
      exact ⟨unhide HUf j hj, unhide HU6 j hj⟩
    go_wp2
    refine leaves_cons (f := 70) (args := #[.pointer (some ⟨A, 0, none⟩), .pointer (some ⟨A + 1, 0, none⟩), .pointer (some ⟨A + 1 + 1, 0, none⟩)]) (by simp) (by simp [go_sem]) ?_
    refine (catchG_idle _ _ _ w6).mono ?_
    rintro e u' w7 ⟨rfl, rfl, rfl⟩
    have bw3 : Below w.heap.size w w7 := by rw [← unhide HAE]; exact hb6
    have HRR := unhide HRes
    simp [Leaves, settle, results, Tryz.results29, go_sem, k1, k2, k3]
    exact ⟨HRR, bw3⟩
end Go.Proofs.YtjcoahahponabaaGreatDoor
