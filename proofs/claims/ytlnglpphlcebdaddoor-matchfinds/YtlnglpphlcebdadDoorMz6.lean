/- The fewest tokens of a text: the program's. -/
import Derived.Test.YtlnglpphlcebdadDoorMz5
import Derived.Deep.DeepCutAuto
namespace Go.Proofs.YtlnglpphlcebdadDoor
open Go.RowKit Mm

theorem bounded_yes (s : ByteArray) (win : Nat) (w : World) (hs : s.size ≤ 300000) (h1 : 1 ≤ win) (h2 : win ≤ 32768) :
    Calls Tryd.prog 17 #[.string s, .int .i64 (win : Int)] w fun e w' => e = .returned (.bool true) ∧ w' = w := by
  have d1 : decide ((s.size : Int) ≤ 300000) = true := decide_eq_true (by omega)
  have d1n : decide (s.size ≤ 300000) = true := decide_eq_true hs
  have d2 : decide ((win : Int) ≥ 1) = true := decide_eq_true (by omega)
  have d2' : decide ((1 : Int) ≤ (win : Int)) = true := d2
  have d3 : decide ((win : Int) ≤ 32768) = true := decide_eq_true (by omega)
  go_enter Tryd.func17, Tryd.ntmps17
  go_wp2
  go_ret
  exact ⟨rfl, rfl⟩
theorem bounded_no (s : ByteArray) (z : Int) (w : World) (hs : s.size ≤ 300000) (hz : z < 1 ∨ 32768 < z) :
    Calls Tryd.prog 17 #[.string s, .int .i64 z] w fun e w' => e = .returned (.bool false) ∧ w' = w := by
  have d1 : decide ((s.size : Int) ≤ 300000) = true := decide_eq_true (by omega)
  have d1n : decide (s.size ≤ 300000) = true := decide_eq_true hs
  rcases hz with hz | hz
  · have d2 : decide (z ≥ 1) = false := decide_eq_false (by omega)
    have d2' : decide (1 ≤ z) = false := d2
    go_enter Tryd.func17, Tryd.ntmps17
    go_wp2
    go_ret
    exact ⟨rfl, rfl⟩
  · have d2 : decide (z ≥ 1) = true := decide_eq_true (by omega)
    have d2' : decide (1 ≤ z) = true := d2
    have d3 : decide (z ≤ 32768) = false := decide_eq_false (by omega)
    go_enter Tryd.func17, Tryd.ntmps17
    go_wp2
    go_ret
    exact ⟨rfl, rfl⟩

/-! ### The row of the fewest -/
/-- A row of numbers of a call's own, by cells. -/
structure NR (w : World) (g n : Nat) (f : Nat → Nat) : Prop where
  cell : ∀ j, j < n → w.cell? ⟨g, j, none⟩ = some (.int .i64 (f j : Int))
  free : ∀ j, j < n → w.frozen? ⟨g, j, none⟩ = false
  lt : g < w.heap.size
theorem NR.set {w : World} {g n : Nat} {f : Nat → Nat} (h : NR w g n f) (j v : Nat) (hj : j < n) : NR (w.setCell ⟨g, j, none⟩ (.int .i64 (v : Int))) g n (fun i => if i = j then v else f i) := by
  refine ⟨fun i hi => ?_, fun i hi => ?_, by have := h.lt; simpa [World.setCell] using this⟩
  · by_cases e : i = j
    · subst e
      have hc := h.cell i hj
      rw [if_pos rfl]
      simp [go_sem, hc]
    · rw [if_neg e]
      rw [World.cell?_setCell_other _ _ _ _ (fun q => e (by injection q with _ q; exact q.symm))]
      exact h.cell i hi
  · have := h.free i hi
    simp [go_sem, this]
theorem NR.keep {w w' : World} {g n : Nat} {f : Nat → Nat} (h : NR w g n f) (hb : w'.heap[g]? = w.heap[g]?) (hs : w.heap.size ≤ w'.heap.size) : NR w' g n f :=
  ⟨fun j hj => (World.cell?_of_block (a := ⟨g, j, none⟩) hb).trans (h.cell j hj), fun j hj => (World.frozen?_of_block (a := ⟨g, j, none⟩) hb).trans (h.free j hj), Nat.lt_of_lt_of_le h.lt hs⟩
theorem NR.congr {w : World} {g n : Nat} {f f' : Nat → Nat} (h : NR w g n f) (he : ∀ j, j < n → f j = f' j) : NR w g n f' :=
  ⟨fun j hj => by rw [← he j hj]; exact h.cell j hj, h.free, h.lt⟩
theorem make_ints2 (n : Nat) (h : n ≤ 3001) (w : World) : (Instr.makeSlice 51 (.int .i64 (n : Int)) (.int .i64 (n : Int))).run Tryd.prog w = .ok (.slice (some ⟨w.heap.size, 0, none⟩) n n) (w.alloc (.cells (madeCells #[.int .i64 0] n) 3)) :=
  run_make_row' (P := Tryd.prog) 51 3 (.int .i64 0) 8 Tryd.underlying51 info_i64 rfl .i64 .i64 n (by omega) (by omega) w
theorem NR.made (w : World) (n : Nat) : NR (w.alloc (.cells (madeCells #[.int .i64 0] n) 3)) w.heap.size n (fun _ => 0) := by
  have h2 := heap_alloc_new w (.cells (madeCells #[.int .i64 0] n) 3)
  refine ⟨fun j hj => ?_, fun j _ => ?_, by simp⟩
  · simp only [World.cell?, h2]
    show (madeCells #[.int .i64 0] n)[j]? = _
    rw [made_at _ _ hj]
    rfl
  · simp only [World.frozen?, h2]
    simp

/-! ### Plainly: the fewest up to each place, going forward -/
/-- What stands in the row: of places up to a all that leads there from places before at is counted. -/
structure Fw (s : Nat → Nat) (n W at_ : Nat) (f : Nat → Nat) : Prop where
  path : ∀ j, j ≤ n → Path s n W 0 j (f j)
  least : ∀ j, j ≤ n → ∀ p, p < at_ → ∀ k, Path s n W 0 p k → Stp s n W p j → f j ≤ k + 1
theorem last_step {s : Nat → Nat} {n W a b c : Nat} (h : Path s n W a b c) : a < b → ∃ p c', c = c' + 1 ∧ Path s n W a p c' ∧ Stp s n W p b := by
  induction h with
  | nil => intro q; omega
  | @cons a m b k h t ih =>
    intro _
    rcases Nat.lt_or_ge m b with q | q
    · obtain ⟨p, c', rfl, h1, h2⟩ := ih q
      exact ⟨p, c' + 1, rfl, .cons h h1, h2⟩
    · have h1 := t.le
      have hk : k = 0 := by omega
      subst hk
      cases t with
      | nil => exact ⟨a, 0, rfl, .nil _, h⟩
theorem Fw.done {s : Nat → Nat} {n W at_ : Nat} {f : Nat → Nat} (h : Fw s n W at_ f) (j : Nat) (hj : j ≤ at_) (hn : j ≤ n) : Least (s := s) (n := n) (W := W) 0 j (f j) := by
  refine ⟨h.path j hn, fun c hc => ?_⟩
  rcases Nat.eq_zero_or_pos j with q | q
  · subst q
    have := (h.path 0 hn).le
    omega
  · obtain ⟨p, c', rfl, h1, h2⟩ := last_step hc q
    exact h.least j hn p (by have := h2.lt; omega) c' h1 h2
theorem Fw.start (s : Nat → Nat) (n W : Nat) : Fw s n W 0 (fun j => j) :=
  ⟨fun j hj => by have := path_bytes (s := s) (n := n) (W := W) 0 j (by omega); rwa [Nat.zero_add] at this, fun j _ p hp => by omega⟩
/-- A place more: what it leads to. -/
def upd (f : Nat → Nat) (a l m : Nat) (j : Nat) : Nat := if j = a + 1 ∨ (a + 3 ≤ j ∧ j ≤ a + l) then min (f j) m else f j
theorem upd_le (f : Nat → Nat) (a l m j : Nat) : upd f a l m j ≤ f j := by unfold upd; split <;> omega
theorem Fw.next {s : Nat → Nat} {n W a l b : Nat} {f : Nat → Nat} (h : Fw s n W a f) (ha : a < n) (hg : Mm.Good s W a (min 258 (n - a)) l b) (hb : Mm.Best s W a (min 258 (n - a)) l) : Fw s n W (a + 1) (upd f a l (f a + 1)) := by
  have hl := h.done a (Nat.le_refl _) (by omega)
  refine ⟨fun j hj => ?_, fun j hj p hp k hk hst => ?_⟩
  · unfold upd
    split
    · rename_i hc
      rcases Nat.le_total (f j) (f a + 1) with q | q
      · rw [Nat.min_eq_left q]; exact h.path j hj
      · rw [Nat.min_eq_right q]
        refine (h.path a (by omega)).snoc ?_
        rcases hc with rfl | ⟨h1, h2⟩
        · exact .inl ⟨ha, rfl⟩
        · rcases hg with ⟨e1, e2⟩ | ⟨g1, g2, g3, g4, g5, g6⟩
          · omega
          · exact .inr ⟨j - a, by omega, ⟨a - b, by omega, by omega, by omega, by omega, fun i hi => g6 i (by omega)⟩, by omega⟩
    · exact h.path j hj
  · rcases Nat.lt_or_ge p a with q | q
    · exact Nat.le_trans (upd_le _ _ _ _ _) (h.least j hj p q k hk hst)
    · obtain rfl : p = a := by omega
      have hle := hl.2 k hk
      have hin : j = p + 1 ∨ (p + 3 ≤ j ∧ j ≤ p + l) := by
        rcases hst with ⟨_, rfl⟩ | ⟨r, hr, ⟨f', f1, f2, f3, f4, f5⟩, rfl⟩
        · exact .inl rfl
        · have := hb f' f1 f2 r (by omega) f5 hr
          exact .inr ⟨by omega, by omega⟩
      unfold upd
      rw [if_pos hin]
      omega

set_option maxHeartbeats 4000000 in
set_option maxRecDepth 100000 in
theorem fewest_in (s : ByteArray) (win : Nat) (w : World) (hs : s.size ≤ 3000) (h1 : 1 ≤ win) (h2 : win ≤ 32768) :
    Calls Tryd.prog 8 #[.string s, .int .i64 (win : Int)] w fun e w' => ∃ k : Nat, e = .returned (.tuple #[.int .i64 (k : Int), .nilIface]) ∧ Least (s := byt s) (n := s.size) (W := win) 0 s.size k ∧ Below w.heap.size w w' := by
  have HBD := hide (bounded_yes s win w (by omega) h1 h2)
  have HNC := hide (fun w => newChains_any s win w hs)
  obtain ⟨n1, hn1⟩ : ∃ q, q = s.size + 1 := ⟨_, rfl⟩
  have zn1 : (s.size : Int) + 1 = (n1 : Int) := by omega
  have hn1l : n1 ≤ 3001 := by omega
  have hmk := make_ints2 n1 hn1l w
  have g1 : decide ((s.size : Int) > 3000) = false := decide_eq_false (by omega)
  have g1i : decide ((3000 : Int) < (s.size : Int)) = false := g1
  have g1n : decide (3000 < s.size) = false := decide_eq_false (by omega)
  have HN0 := hide (NR.made w n1)
  have HB0 := hide (show Below w.heap.size w (w.alloc (.cells (madeCells #[.int .i64 0] n1) 3)) from (Below.refl _ _).alloc (Nat.le_refl _) _)
  have Hn1 := hide hn1
  clear hn1
  go_enter Tryd.func8, Tryd.ntmps8
  go_wp2_with fail
  refine (unhide HBD).mono ?_; rintro e w0 ⟨rfl, rfl⟩
  clear HBD
  go_wp2
  clear hmk
  generalize hwa : w0.alloc (.cells (madeCells #[.int .i64 0] n1) 3) = wa at *
  obtain ⟨g, hg⟩ : ∃ g, g = w0.heap.size := ⟨_, rfl⟩
  rw [← hg] at HN0 HB0 ⊢
  have Hg := hide hg
  clear hwa hg
  go_loopw [30] (fun iv wr => ∃ i : Nat, iv = .int .i64 (i : Int) ∧ i ≤ n1 ∧ Hid (NR wr g n1 (fun j => if j < i then j else 0)) ∧ Hid (Below g w0 wr)) (fun iv _ => n1 - (intOf iv).toNat)
  case atStart => exact ⟨0, rfl, by omega, (unhide HN0).congr (fun j _ => by simp), HB0⟩
  case round =>
    clear HN0 HB0
    obtain ⟨i, rfl, hi, HN, HB⟩ := hrel
    by_cases hlt : i < n1
    · have d1 : decide ((i : Int) < (n1 : Int)) = true := decide_eq_true (by omega)
      have d1n : decide (i < n1) = true := decide_eq_true hlt
      have hii : (i : Int) < (n1 : Int) := by omega
      have hc := (unhide HN).cell i hlt
      have hf := (unhide HN).free i hlt
      have HN2 : Hid (NR (wr.setCell ⟨g, i, none⟩ (.int .i64 (i : Int))) g n1 (fun j => if j < i + 1 then j else 0)) := ((unhide HN).set i i hlt).congr (fun j _ => by
        by_cases e : j = i
        · subst e; simp
        · by_cases q : j < i
          · have : j < i + 1 := by omega
            simp [e, q, this]
          · have : ¬ j < i + 1 := by omega
            simp [e, q, this])
      have HB2 := hide ((unhide HB).setCell (p := ⟨g, i, none⟩) (Nat.le_refl _) (.int .i64 (i : Int)))
      clear HN HB
      go_wp2
      go_roundw
      case rel => exact ⟨i + 1, by go_num, by omega, HN2, HB2⟩
      case measure => simp [intOf]; omega
    · obtain rfl : i = n1 := by omega
      have d1 : decide ((i : Int) < (i : Int)) = false := by simp
      have HX := hide (unhide HNC wr)
      have hgl := (unhide HN).lt
      go_wp2_with fail
      refine (unhide HX).mono ?_; rintro e w1 ⟨c, bm, gb, rfl, hC, hb1, hc0, hm0, hg0⟩
      have HC1 := hide hC
      have HN1 : Hid (NR w1 g i (fun j => j)) := ((unhide HN).keep (hb1.block g hgl) hb1.size).congr (fun j hj => by simp [hj])
      have HB1 := hide ((unhide HB).trans (hb1.mono (by omega)))
      have ne1 : g ≠ c := by omega
      have ne2 : g ≠ bm := by omega
      have ne3 : g ≠ gb := by omega
      have hgc : g ≤ c := by omega
      have hgm : g ≤ bm := by omega
      have hgb : g ≤ gb := by omega
      clear hC hb1 hc0 hm0 hg0 HX HN HB hgl HNC
      go_wp2
      go_loopw [43] (fun av wr => ∃ (a : Nat) (f : Nat → Nat), av = .int .i64 (a : Int) ∧ a ≤ s.size ∧ Hid (CH wr c bm gb s win a) ∧ Hid (NR wr g i f) ∧ Hid (Fw (byt s) s.size win a f) ∧ Hid (Below g w0 wr)) (fun av _ => s.size - (intOf av).toNat)
      case atStart => exact ⟨0, fun j => j, rfl, by omega, HC1, HN1, Fw.start _ _ _, HB1⟩
      case round =>
        clear HC1 HN1 HB1
        obtain ⟨a, f, rfl, ha, HC, HN, HF, HB⟩ := hrel
        by_cases hlt : a < s.size
        · have d2 : decide ((a : Int) < (s.size : Int)) = true := decide_eq_true (by omega)
          have d2n : decide (a < s.size) = true := decide_eq_true hlt
          have hin0 : a + 1 < i := by have := unhide Hn1; omega
          have HX := hide (longest_any c bm gb win a s wr (unhide HC) hs (by omega) h2)
          have hgl := (unhide HN).lt
          go_wp2_with fail
          refine (unhide HX).mono ?_; rintro e w2 ⟨l, b, rfl, hok, hb2⟩
          have HC2 := hide ((unhide HC).below hb2)
          have HN2 := hide ((unhide HN).keep (hb2.block g hgl) hb2.size)
          have HB2 := hide ((unhide HB).trans (hb2.mono (by omega)))
          have HOK := hide hok
          have HX := hide (add_any c bm gb win a s w2 (unhide HC2) hs (by omega))
          have hll : l ≤ 258 ∧ a + l ≤ s.size ∧ (l = 0 ∨ 3 ≤ l) := by
            rcases hok.good with ⟨q, _⟩ | ⟨q1, q2, _⟩ <;> omega
          have hgl2 : g < w2.heap.size := (unhide HN2).lt
          clear hok hb2 HC HN HB hgl
          go_wp2_with fail
          refine (unhide HX).mono ?_; rintro e w3 ⟨rfl, hC3, hbu3⟩
          have HC3 := hide hC3
          have HN3 := hide ((unhide HN2).keep (hbu3.block g hgl2 (fun q => by rcases q with q | q <;> omega)) hbu3.size)
          have HB3 := hide ((unhide HB2).trans (hbu3.below (by omega) (fun k hk q => by rcases q with q | q <;> omega)))
          clear hC3 hbu3 HC2 HN2 HB2 HX hgl2
          have hfj : ∀ j, j ≤ s.size → f j ≤ 3000 := fun j hj => by have := ((unhide HF).path j hj).le; omega
          have HFJ := hide hfj
          obtain ⟨fa, hfa⟩ : ∃ q, q = f a := ⟨_, rfl⟩
          have ca := (unhide HN3).cell a (by omega)
          rw [← hfa] at ca
          have hfa3 : fa ≤ 3000 := by rw [hfa]; exact hfj a (by omega)
          obtain ⟨m, hm⟩ : ∃ q, q = fa + 1 := ⟨_, rfl⟩
          have zm : (fa : Int) + 1 = (m : Int) := by omega
          obtain ⟨a1, ha1⟩ : ∃ q, q = a + 1 := ⟨_, rfl⟩
          have za1 : (a : Int) + 1 = (a1 : Int) := by omega
          obtain ⟨fb, hfb⟩ : ∃ q, q = f a1 := ⟨_, rfl⟩
          have cb := (unhide HN3).cell a1 (by omega)
          have fb0 := (unhide HN3).free a1 (by omega)
          rw [← hfb] at cb
          have hfb3 : fb ≤ 3000 := by rw [hfb]; exact hfj a1 (by omega)
          have hai : (a : Int) < (i : Int) := by omega
          have ha1i : (a1 : Int) < (i : Int) := by omega
          have Hm := hide hm
          have Hfa := hide hfa
          have Hfb := hide hfb
          have Ha1 := hide ha1
          have hai2 : a1 ≤ s.size := by omega
          have hm3 : m ≤ 3001 := by omega
          clear hfj hm hfa hfb ha1
          go_upto_region 16 with fail
          go_cut [12] (fun v wz => v = .int .i64 (m : Int) ∧ Hid (NR wz g i (upd f a 2 m)) ∧ Hid (CH wz c bm gb s win (a + 1)) ∧ Hid (Below g w0 wz))
          case first =>
            have hset : ∀ v, v = min fb m → NR (w3.setCell ⟨g, a1, none⟩ (.int .i64 (v : Int))) g i (upd f a 2 m) ∧ CH (w3.setCell ⟨g, a1, none⟩ (.int .i64 (v : Int))) c bm gb s win (a + 1) ∧ Below g w0 (w3.setCell ⟨g, a1, none⟩ (.int .i64 (v : Int))) := fun v hv => by
              refine ⟨((unhide HN3).set a1 v (by have := unhide Ha1; omega)).congr (fun j _ => ?_), (unhide HC3).keep (Below.heap_setCell _ _ _ _ (fun q => ne1 (by exact q.symm))) (Below.heap_setCell _ _ _ _ (fun q => ne2 (by exact q.symm))) (Below.heap_setCell _ _ _ _ (fun q => ne3 (by exact q.symm))) (by simp [World.setCell]), (unhide HB3).setCell (p := ⟨g, a1, none⟩) (Nat.le_refl _) _⟩
              by_cases e : j = a1
              · subst e
                rw [if_pos rfl, hv, unhide Hfb]
                unfold upd
                rw [if_pos (.inl (unhide Ha1))]
              · rw [if_neg e]
                unfold upd
                rw [if_neg (fun q => by have := unhide Ha1; omega)]
            have HST := hide hset
            clear hset
            by_cases hmf : m < fb
            · have q1 : (m : Int) < (fb : Int) := by omega
              have q2 : ¬ (fb : Int) ≤ (m : Int) := by omega
              obtain ⟨r1, r2, r3⟩ := unhide HST m (by omega)
              have R1 := hide r1
              have R2 := hide r2
              have R3 := hide r3
              clear r1 r2 r3 HST hmf
              go_wp2
              go_meet
              case rel => exact ⟨rfl, R1, R2, R3⟩
            · have q1 : ¬ (m : Int) < (fb : Int) := by omega
              have q2 : (fb : Int) ≤ (m : Int) := by omega
              obtain ⟨r1, r2, r3⟩ := unhide HST fb (by omega)
              have R1 := hide r1
              have R2 := hide r2
              have R3 := hide r3
              clear r1 r2 r3 HST hmf
              go_wp2
              go_meet
              case rel => exact ⟨rfl, R1, R2, R3⟩
          case rest =>
            obtain ⟨rfl, HN4, HC4, HB4⟩ := hcut
            clear HN3 HC3 HB3 ca cb fb0
            go_wp2
            go_loopw [13] (fun kv wq => ∃ k : Nat, kv = .int .i64 (k : Int) ∧ 3 ≤ k ∧ k ≤ 300 ∧ (k ≤ l + 1 ∨ k = 3) ∧ Hid (NR wq g i (upd f a (k - 1) m)) ∧ Hid (CH wq c bm gb s win (a + 1)) ∧ Hid (Below g w0 wq)) (fun kv _ => l + 4 - (intOf kv).toNat)
            case atStart => exact ⟨3, rfl, by omega, by omega, .inr rfl, HN4, HC4, HB4⟩
            case round =>
              clear HN4 HC4 HB4
              obtain ⟨k, rfl, hk3, hk300, hkl, HN, HCk, HBk⟩ := hrel
              by_cases hle : k ≤ l
              · have d3 : decide ((k : Int) ≤ (l : Int)) = true := decide_eq_true (by omega)
                have d3n : decide (k ≤ l) = true := decide_eq_true hle
                obtain ⟨q, hq⟩ : ∃ q, q = a + k := ⟨_, rfl⟩
                have zq : (a : Int) + (k : Int) = (q : Int) := by omega
                have hqi : q < i := by have := unhide Hn1; omega
                have hqii : (q : Int) < (i : Int) := by omega
                obtain ⟨fq, hfq⟩ : ∃ z, z = f q := ⟨_, rfl⟩
                have hu : upd f a (k - 1) m q = fq := by unfold upd; rw [if_neg (fun z => by omega), hfq]
                have cq := (unhide HN).cell q hqi
                have eq0 := (unhide HN).free q hqi
                rw [hu] at cq
                have hfq3 : fq ≤ 3000 := by rw [hfq]; exact unhide HFJ q (by have := unhide Hn1; omega)
                have hset : ∀ v, v = min fq m → NR (wr.setCell ⟨g, q, none⟩ (.int .i64 (v : Int))) g i (upd f a (k + 1 - 1) m) ∧ CH (wr.setCell ⟨g, q, none⟩ (.int .i64 (v : Int))) c bm gb s win (a + 1) ∧ Below g w0 (wr.setCell ⟨g, q, none⟩ (.int .i64 (v : Int))) := fun v hv => by
                  refine ⟨((unhide HN).set q v hqi).congr (fun j _ => ?_), (unhide HCk).keep (Below.heap_setCell _ _ _ _ (fun z => ne1 (by exact z.symm))) (Below.heap_setCell _ _ _ _ (fun z => ne2 (by exact z.symm))) (Below.heap_setCell _ _ _ _ (fun z => ne3 (by exact z.symm))) (by simp [World.setCell]), (unhide HBk).setCell (p := ⟨g, q, none⟩) (Nat.le_refl _) _⟩
                  by_cases e : j = q
                  · subst e
                    rw [if_pos rfl, hv, hfq]
                    unfold upd
                    rw [if_pos (.inr ⟨by omega, by omega⟩)]
                  · rw [if_neg e]
                    unfold upd
                    by_cases z : j = a + 1 ∨ (a + 3 ≤ j ∧ j ≤ a + (k - 1))
                    · rw [if_pos z, if_pos (by omega)]
                    · rw [if_neg z, if_neg (by omega)]
                have HST := hide hset
                clear hset hu hfq hq hkl HN HCk HBk
                by_cases hmf : m < fq
                · have q1 : (m : Int) < (fq : Int) := by omega
                  have q2 : ¬ (fq : Int) ≤ (m : Int) := by omega
                  obtain ⟨r1, r2, r3⟩ := unhide HST m (by omega)
                  have R1 := hide r1
                  have R2 := hide r2
                  have R3 := hide r3
                  clear r1 r2 r3 HST hmf
                  go_wp2
                  go_roundw
                  case rel => exact ⟨k + 1, by go_num, by omega, by omega, by omega, R1, R2, R3⟩
                  case measure => simp [intOf]; omega
                · have q1 : ¬ (m : Int) < (fq : Int) := by omega
                  have q2 : (fq : Int) ≤ (m : Int) := by omega
                  obtain ⟨r1, r2, r3⟩ := unhide HST fq (by omega)
                  have R1 := hide r1
                  have R2 := hide r2
                  have R3 := hide r3
                  clear r1 r2 r3 HST hmf
                  go_wp2
                  go_roundw
                  case rel => exact ⟨k + 1, by go_num, by omega, by omega, by omega, R1, R2, R3⟩
                  case measure => simp [intOf]; omega
              · have d3 : decide ((k : Int) ≤ (l : Int)) = false := decide_eq_false (by omega)
                have d3n : decide (k ≤ l) = false := decide_eq_false hle
                have HNF : Hid (NR wr g i (upd f a l m)) := (unhide HN).congr (fun j _ => by
                  unfold upd
                  by_cases z : j = a + 1 ∨ (a + 3 ≤ j ∧ j ≤ a + (k - 1))
                  · rw [if_pos z, if_pos (by omega)]
                  · rw [if_neg z, if_neg (by omega)])
                have HFN : Hid (Fw (byt s) s.size win (a + 1) (upd f a l m)) := by
                  have := (unhide HF).next hlt (unhide HOK).good (unhide HOK).best
                  rw [unhide Hm, unhide Hfa]
                  exact this
                clear HN hkl
                go_wp2
                go_roundw
                case rel => exact ⟨a + 1, upd f a l m, by go_num, by omega, HCk, HNF, HFN, HBk⟩
                case measure => simp [intOf]; omega
        · obtain rfl : a = s.size := by omega
          have d2 : decide ((s.size : Int) < (s.size : Int)) = false := by simp
          have hcl := (unhide HN).cell s.size (by have := unhide Hn1; omega)
          have hsi : (s.size : Int) < (i : Int) := by have := unhide Hn1; omega
          have HLE := hide ((unhide HF).done s.size (Nat.le_refl _) (Nat.le_refl _))
          generalize f s.size = k at *
          go_wp2
          go_ret2
          exact ⟨k, rfl, unhide HLE, by rw [← unhide Hg]; exact unhide HB⟩
end Go.Proofs.YtlnglpphlcebdadDoor
