/- A document checked: the program's. -/
import Derived.Test.YtkdckcengmkhhajDoorLy4
namespace Go.Proofs.YtkdckcengmkhhajDoor
open Go.RowKit

/-- Sides that may be, and not too many layers. -/
def Sd (W H : Int) (n : Nat) : Prop := (1 ≤ W ∧ W ≤ 256) ∧ (1 ≤ H ∧ H ≤ 256) ∧ n ≤ 8
/-- What a document's check says: an error's number and its place. -/
def Chk (W H : Int) (n : Nat) (L : Nat → Ly) (c : Nat) (z : Int) : Prop :=
  (¬ Sd W H n ∧ c = 2 ∧ z = -1) ∨ (Sd W H n ∧ c = 0 ∧ z = -1 ∧ ∀ j, j < n → wrN L j = 0) ∨ (Sd W H n ∧ ∃ i : Nat, i < n ∧ c = wrN L i ∧ c ≠ 0 ∧ z = (i : Int) ∧ ∀ j, j < i → wrN L j = 0)
theorem Chk.unique {W H : Int} {n : Nat} {L : Nat → Ly} {c c' : Nat} {z z' : Int} (h : Chk W H n L c z) (g : Chk W H n L c' z') : c = c' ∧ z = z' := by
  rcases h with ⟨s, rfl, rfl⟩ | ⟨s, rfl, rfl, h⟩ | ⟨s, i, hi, e, e0, rfl, h⟩
  · rcases g with ⟨_, rfl, rfl⟩ | ⟨s', _⟩ | ⟨s', _⟩
    · exact ⟨rfl, rfl⟩
    · exact absurd s' s
    · exact absurd s' s
  · rcases g with ⟨s', _⟩ | ⟨_, rfl, rfl, g⟩ | ⟨_, j, hj, e', e0', rfl, g⟩
    · exact absurd s s'
    · exact ⟨rfl, rfl⟩
    · exact absurd (h j hj) (by omega)
  · rcases g with ⟨s', _⟩ | ⟨_, rfl, rfl, g⟩ | ⟨_, j, hj, e', e0', rfl, g⟩
    · exact absurd s s'
    · exact absurd (g i hi) (by omega)
    · rcases Nat.lt_trichotomy i j with q | rfl | q
      · exact absurd (g i q) (by omega)
      · exact ⟨by omega, rfl⟩
      · exact absurd (h j q) (by omega)
theorem chk_ex (W H : Int) (n : Nat) (L : Nat → Ly) : ∃ c z, Chk W H n L c z := by
  by_cases s : Sd W H n
  · suffices q : ∀ k, (∀ j, j < k → wrN L j = 0) ∨ ∃ i : Nat, i < k ∧ wrN L i ≠ 0 ∧ ∀ j, j < i → wrN L j = 0 by
      rcases q n with q | ⟨i, hi, e, q⟩
      · exact ⟨0, -1, .inr (.inl ⟨s, rfl, rfl, q⟩)⟩
      · exact ⟨wrN L i, i, .inr (.inr ⟨s, i, hi, rfl, e, rfl, q⟩)⟩
    intro k
    induction k with
    | zero => exact .inl fun j hj => by omega
    | succ k ih =>
      rcases ih with ih | ⟨i, hi, e, q⟩
      · by_cases e : wrN L k = 0
        · exact .inl fun j hj => by
            rcases Nat.lt_succ_iff_lt_or_eq.1 hj with q | rfl
            · exact ih j q
            · exact e
        · exact .inr ⟨k, by omega, e, ih⟩
      · exact .inr ⟨i, by omega, e, q⟩
  · exact ⟨2, -1, .inl ⟨s, rfl, rfl⟩⟩
/-- An error that says so. -/
def ErrIs (w : World) (a : Nat → Addr) (c : Nat) (z : Int) (v : Value) : Prop :=
  (c = 0 ∧ z = -1 ∧ v = .nilIface) ∨ (c = 2 ∧ z = -1 ∧ v = sentV a 1) ∨ ∃ q i : Nat, 1 ≤ c ∧ c ≤ 9 ∧ z = (i : Int) ∧ v = .iface 82 (.pointer (some ⟨q, 0, none⟩)) ∧ w.cell? ⟨q, 0, none⟩ = some (.int .i64 (i : Int)) ∧ w.cell? ⟨q, 1, none⟩ = some (sentV a (c - 1))
theorem ErrIs.below {w w' : World} {a : Nat → Addr} {c : Nat} {z : Int} {v : Value} (h : ErrIs w a c z v) (hb : Below w.heap.size w w') : ErrIs w' a c z v := by
  rcases h with h | h | ⟨q, i, h1, h2, h3, h4, h5, h6⟩
  · exact .inl h
  · exact .inr (.inl h)
  · have hq := World.block_lt_of_cell? _ _ h5
    exact .inr (.inr ⟨q, i, h1, h2, h3, h4, (hb.cell (p := ⟨q, 0, none⟩) hq).trans h5, (hb.cell (p := ⟨q, 1, none⟩) hq).trans h6⟩)

set_option maxHeartbeats 4000000 in
set_option maxRecDepth 100000 in
theorem check_any (W H : Int) (s : Option Addr) (n c : Nat) (L : Nat → Ly) (a : Nat → Option Addr) (cp : Nat → Nat) (w : World) (aS : Nat → Addr) (hS : Er3 w aS) (hL : IsLy w s n L a cp) (cc : Nat) (zz : Int) (hC : Chk W H n L cc zz) (hnc : n ≤ c) :
    Calls Tryd.prog 14 #[.agg #[.int .i64 W, .int .i64 H, .slice s n c]] w fun e w' => ∃ v, e = .returned v ∧ ErrIs w' aS cc zz v ∧ Below w.heap.size w w' := by
  have hM := hL.le
  unfold maxLen at hM
  have hHA := hide (al1 w (.cells #[.int .i64 W, .int .i64 H, .slice s n c] 39))
  have HW := hide (fun i wr (hi : i < n) (hb : Below w.heap.size w wr) => wrong_any s i c L a cp wr aS (hS.below hb) ((hL.below hb).take i (by omega)))
  have HS := hide (fun wr (hb : Below w.heap.size w wr) => hS.below hb)
  have HL := hide (fun wr (hb : Below w.heap.size w wr) => hL.below hb)
  have HU := hide (fun c' z' (h : Chk W H n L c' z') => hC.unique h)
  have HSW := hide (isSide_any W)
  have HSH := hide (isSide_any H)
  clear hS hL hC
  obtain ⟨B, hB⟩ : ∃ B, B = w.heap.size := ⟨_, rfl⟩
  go_enter Tryd.func14, Tryd.ntmps14
  go_wp2_with fail
  generalize w.alloc (.cells #[.int .i64 W, .int .i64 H, .slice s n c] 39) = w1 at *
  rw [← hB] at HW HS HL hHA ⊢
  obtain ⟨hs1, k0, hb1⟩ := unhide hHA
  have HB := hide hb1
  have HBE := hide hB
  have hBs : B ≤ w1.heap.size := by omega
  have hlB : B < w1.heap.size := by omega
  have c0 : w1.cell? ⟨B, 0, none⟩ = some (.int .i64 W) := by rw [blk_cell k0]; rfl
  have c1 : w1.cell? ⟨B, 1, none⟩ = some (.int .i64 H) := by rw [blk_cell k0]; rfl
  have c2 : w1.cell? ⟨B, 2, none⟩ = some (.slice s n c) := by rw [blk_cell k0]; rfl
  clear hHA hb1 hs1 hB
  refine (unhide HSW w1).mono ?_
  rintro e w2 ⟨rfl, rfl⟩
  by_cases h1 : 1 ≤ W ∧ W ≤ 256
  rotate_left
  · rw [decide_eq_false h1]
    have e1 : w2.cell? ⟨0, 0, none⟩ = some (sentV aS 1) := (unhide HS _ (unhide HB)).cell 1 (by omega)
    have HE := hide (unhide HU 2 (-1) (.inl ⟨fun q => h1 q.1, rfl, rfl⟩))
    clear HW HL HSW HSH HS HU h1
    unfold sentV at e1
    go_wp2
    go_ret
    exact ⟨_, rfl, .inr (.inl ⟨(unhide HE).1, (unhide HE).2, rfl⟩), bel_at (unhide HBE) (unhide HB)⟩
  rw [decide_eq_true h1]
  clear HSW
  go_wp2_with fail
  refine (unhide HSH w2).mono ?_
  rintro e w3 ⟨rfl, rfl⟩
  by_cases h2 : 1 ≤ H ∧ H ≤ 256
  rotate_left
  · rw [decide_eq_false h2]
    have e1 : w3.cell? ⟨0, 0, none⟩ = some (sentV aS 1) := (unhide HS _ (unhide HB)).cell 1 (by omega)
    have HE := hide (unhide HU 2 (-1) (.inl ⟨fun q => h2 q.2.1, rfl, rfl⟩))
    clear HW HL HSH HS HU h1 h2
    unfold sentV at e1
    go_wp2
    go_ret
    exact ⟨_, rfl, .inr (.inl ⟨(unhide HE).1, (unhide HE).2, rfl⟩), bel_at (unhide HBE) (unhide HB)⟩
  rw [decide_eq_true h2]
  clear HSH
  by_cases h3 : n ≤ 8
  rotate_left
  · have d3 : decide ((n : Int) > 8) = true := decide_eq_true (by omega)
    have d3' : decide ((8 : Int) < (n : Int)) = true := d3
    have d3n : decide (8 < n) = true := decide_eq_true (by omega)
    have e1 : w3.cell? ⟨0, 0, none⟩ = some (sentV aS 1) := (unhide HS _ (unhide HB)).cell 1 (by omega)
    have HE := hide (unhide HU 2 (-1) (.inl ⟨fun q => h3 q.2.2, rfl, rfl⟩))
    clear HW HL HS HU h1 h2 h3
    unfold sentV at e1
    go_wp2
    go_ret
    exact ⟨_, rfl, .inr (.inl ⟨(unhide HE).1, (unhide HE).2, rfl⟩), bel_at (unhide HBE) (unhide HB)⟩
  have d3 : decide ((n : Int) > 8) = false := decide_eq_false (by omega)
  have d3' : decide ((8 : Int) < (n : Int)) = false := d3
  have d3n : decide (8 < n) = false := decide_eq_false (by omega)
  have HSd : Hid (Sd W H n) := ⟨h1, h2, h3⟩
  clear h1 h2 HS
  go_wp2
  go_loopw [26] (fun iv wr => ∃ i : Nat, i ≤ n ∧ iv = .int .i64 (i : Int) ∧ Hid (∀ j, j < i → wrN L j = 0) ∧ Hid (Below B w wr) ∧ wr.heap[B]? = some (.cells #[.int .i64 W, .int .i64 H, .slice s n c] 39) ∧ B < wr.heap.size) (fun iv _ => n - (intOf iv).toNat)
  case atStart => exact ⟨0, by omega, rfl, fun j hj => by omega, HB, k0, hlB⟩
  case round =>
    clear HB k0 hlB c0 c1 c2 hBs d3 d3' d3n
    obtain ⟨i, hi, rfl, HK, HB, k0, hlB⟩ := hrel
    by_cases hlt : i < n
    · have g1 : decide ((i : Int) < (n : Int)) = true := decide_eq_true (by omega)
      have g1n : decide (i < n) = true := decide_eq_true hlt
      have c2 : wr.cell? ⟨B, 2, none⟩ = some (.slice s n c) := by rw [blk_cell k0]; rfl
      obtain ⟨b, off, rfl, hm, hc⟩ := (unhide HL _ (unhide HB)).row.resolve_left (by omega)
      obtain ⟨l0, l1, l2, l3, l4, l5, l6, l7, l8⟩ := hc i hlt
      have ha1 : (i : Int) < (n : Int) := by omega
      clear hc hm
      go_wp2_with fail
      have hA2 := al1 wr (.cells #[.string (L i).name, .int .i64 (L i).x, .int .i64 (L i).y, .bool (L i).hid, .int .i64 (L i).op, .int .i64 (L i).mo, .int .i64 (L i).wd, .int .i64 (L i).hg, .slice (a i) (L i).n (cp i)] 54)
      have k0 := blk_below k0 hA2.below (blk_lt k0)
      have hHA2 := hide hA2
      clear hA2 c2 l0 l1 l2 l3 l4 l5 l6 l7 l8
      have HWi := hide (unhide HW i)
      unfold Ly.val at HWi
      have HEi : Hid (wrN L i = 0 ∨ (wrN L i ≠ 0 ∧ cc = wrN L i ∧ zz = (i : Int))) := by
        by_cases e0 : wrN L i = 0
        · exact .inl e0
        · exact .inr ⟨e0, unhide HU _ _ (.inr (.inr ⟨unhide HSd, i, hlt, rfl, e0, rfl, unhide HK⟩))⟩
      have HNx : Hid (wrN L i = 0 → ∀ j, j < i + 1 → wrN L j = 0) := fun e j hj => by
        rcases Nat.lt_succ_iff_lt_or_eq.1 hj with q | rfl
        · exact unhide HK j q
        · exact e
      have HCs := hide (wrN_cases L i)
      clear HK
      generalize wrN L i = N at *
      generalize L i = l at *
      obtain ⟨nm, x, y, hi', op, mo, wd, hg, m, q⟩ := l
      simp only at *
      generalize wr.alloc (.cells #[.string nm, .int .i64 x, .int .i64 y, .bool hi', .int .i64 op, .int .i64 mo, .int .i64 wd, .int .i64 hg, .slice (a i) m (cp i)] 54) = w2 at *
      obtain ⟨hs2, kL, hb2⟩ := unhide hHA2
      have HB2 := hide ((unhide HB).trans (hb2.mono (by omega)))
      obtain ⟨Q, hQ⟩ : ∃ Q, Q = wr.heap.size := ⟨_, rfl⟩
      rw [← hQ] at kL ⊢
      have c2 : w2.cell? ⟨B, 2, none⟩ = some (.slice (some ⟨b, off, none⟩) n c) := by rw [blk_cell k0]; rfl
      obtain ⟨⟨l0, l1, l2, l3, l4⟩, l5, l6, l7, l8⟩ := nine kL
      have hlB2 : B < w2.heap.size := by omega
      have hlQ : Q < w2.heap.size := by omega
      have hin : (i : Int) ≤ (c : Int) := by omega
      clear hHA2 hs2 hb2 HB hlB hQ HW
      have hdr := (Below.refl w2.heap.size w2).drew
      go_region_held (fun w' => w'.cell? ⟨B, 2, none⟩ = some (.slice (some ⟨b, off, none⟩) n c) ∧ w'.cell? ⟨Q, 0, none⟩ = some (.string nm) ∧ w'.cell? ⟨Q, 1, none⟩ = some (.int .i64 x) ∧ w'.cell? ⟨Q, 2, none⟩ = some (.int .i64 y) ∧ w'.cell? ⟨Q, 3, none⟩ = some (.bool hi') ∧ w'.cell? ⟨Q, 4, none⟩ = some (.int .i64 op) ∧ w'.cell? ⟨Q, 5, none⟩ = some (.int .i64 mo) ∧ w'.cell? ⟨Q, 6, none⟩ = some (.int .i64 wd) ∧ w'.cell? ⟨Q, 7, none⟩ = some (.int .i64 hg) ∧ w'.cell? ⟨Q, 8, none⟩ = some (.slice (a i) m (cp i)))
        (first | with_reducible exact ⟨(unhide hk3 _ _ hlB2).trans c2, (unhide hk3 _ _ hlQ).trans l0, (unhide hk3 _ _ hlQ).trans l1, (unhide hk3 _ _ hlQ).trans l2, (unhide hk3 _ _ hlQ).trans l3, (unhide hk3 _ _ hlQ).trans l4, (unhide hk3 _ _ hlQ).trans l5, (unhide hk3 _ _ hlQ).trans l6, (unhide hk3 _ _ hlQ).trans l7, (unhide hk3 _ _ hlQ).trans l8⟩ | exact ⟨c2, l0, l1, l2, l3, l4, l5, l6, l7, l8⟩)
        (first | (go_at_call 42; refine (unhide HWi w2.drew hlt ((unhide HB2).trans (hdr.mono (by omega)))).mono ?_; rintro e w3 ⟨rfl, hb3⟩; have hq3 := hdr.trans (hb3.mono (by exact Nat.le_refl _)); have hk3 := hide (fun (k o : Nat) (h : k < w2.heap.size) => hq3.cell (p := ⟨k, o, none⟩) h)))
      have k0 := blk_below k0 hq3 (blk_lt k0)
      have HB3 := hide ((unhide HB2).trans (hq3.mono (by omega)))
      have hs3 := hq3.size
      clear HB2 kL c2 l0 l1 l2 l3 l4 l5 l6 l7 l8 hdr hb3 hq3 hk3 hlQ HWi HL
      rcases unhide HEi with e0 | ⟨e0, e1, e2⟩
      · subst e0
        have HK2 := hide (unhide HNx rfl)
        have ev : errV aS 0 = .nilIface := rfl
        rw [ev]
        clear HEi HNx HCs ev
        go_wp2
        go_roundw
        case rel => exact ⟨i + 1, by omega, by go_num, HK2, HB3, k0, by omega⟩
        case measure => simp [intOf]; omega
      · rw [errV_some aS N e0]
        have HE := hide (show cc = N ∧ zz = (i : Int) ∧ 1 ≤ N ∧ N ≤ 9 from ⟨e1, e2, by omega, by have := unhide HCs; omega⟩)
        have HBF := hide ((unhide HB3).alloc (by omega) (.cells #[.int .i64 (i : Int), sentV aS (N - 1)] 84))
        clear HEi HNx HCs e0 e1 e2 k0
        have hv : sentV aS (N - 1) = .iface 165 (.pointer (some (aS (N - 1)))) := rfl
        rw [hv] at HBF ⊢
        go_wp2
        go_ret
        obtain ⟨e1, e2, e3, e4⟩ := unhide HE
        refine ⟨_, rfl, .inr (.inr ⟨_, i, by omega, by omega, e2, rfl, ?_, ?_⟩), bel_at (unhide HBE) (unhide HBF)⟩
        · simp
        · rw [e1]; simp [sentV]
    · obtain rfl : i = n := by omega
      have g1 : decide ((i : Int) < (i : Int)) = false := by simp
      have HE := hide (unhide HU 0 (-1) (.inr (.inl ⟨unhide HSd, rfl, rfl, unhide HK⟩)))
      go_wp2
      go_ret
      exact ⟨_, rfl, .inl ⟨(unhide HE).1, (unhide HE).2, rfl⟩, bel_at (unhide HBE) (unhide HB)⟩
end Go.Proofs.YtkdckcengmkhhajDoor
