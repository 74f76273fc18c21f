/- Walks: stepsOfRun, steps; used lengths. A package's two cells: what it costs, and its symbols; a row of such in the kit's words. Walks of a stable sort of packages: exchanges. Walks of a stable sort of packages: parts turned round. -/
import Derived.Test.YtfeljhikeddodadGreatDoorDy3
import Derived.Test.YtfeljhikeddodadGreatDoorMh1
import Derived.Test.YtfeljhikeddodadGreatDoorMh5
import Derived.Shelf.SlSortCmp.KitK
import Derived.Sort.WalkA
import Derived.Sort.WalkB2
import Derived.Sort.WalkB12
import Derived.Deep.LoopGhost
import Derived.RegionTactic
import Derived.ChangeAlike
import Derived.BigRegion
import Derived.BigQuiet
namespace Go.Proofs.YtfeljhikeddodadGreatDoor
open Go.RowKit Ps Nf

set_option maxHeartbeats 2000000 in
theorem stepsOfRun_any (L T : Nat) (w : World) (hL : L ≤ 15) (hT : 1 ≤ T) (hT3 : T ≤ 1000) :
    Calls Tryz.prog 152 #[.int .i64 (L : Int), .int .i64 (T : Int)] w fun e w' => ∃ a c ss, e = .returned (.slice a ss.length c) ∧ w'.ownsRow w.heap.size 176 2 (.slice a ss.length c) ss.length (stV ss) ∧ Tells ss L T ∧ Below w.heap.size w w' := by
  by_cases h0 : L = 0
  · subst h0
    have hb1 : Below w.heap.size w (w.alloc (.cells #[.int .i64 18, .int .i64 17] 3)) := (Below.refl _ _).alloc (Nat.le_refl _) _
    have HX := hide (dagain_any w.heap.size (.slice none 0 0) [] 0 0 T w.heap.size 0 2 2 (fun i => if i = 0 then 18 else 17) (w.alloc (.cells #[.int .i64 18, .int .i64 17] 3)) (World.ownsRow_nil _ _ _ _) hb1.size (fun i hi => by
      rcases (show i = 0 ∨ i = 1 by omega) with rfl | rfl
      · simp [go_sem]
      · simp [go_sem]) (by simp [Value.ownBlock]) (.inl ⟨rfl, rfl, rfl, rfl⟩) (by omega) (fun R => by simpa using Dec.nil R))
    have HB1 := hide hb1
    clear hb1
    go_enter Tryz.func152, Tryz.ntmps152
    go_wp2_with fail
    refine (unhide HX).mono ?_; rintro e w2 ⟨a, c, ss, rfl, ho, ht, hb2⟩
    have HO := hide ho
    rw [Nat.zero_add] at ht
    have HT := hide ht
    have HB2 := hide ((unhide HB1).trans hb2)
    clear HX ho ht hb2 HB1
    go_wp2
    go_ret
    exact ⟨a, c, ss, rfl, unhide HO, unhide HT, unhide HB2⟩
  · have d0 : ((L : Int) == 0) = false := by rw [beq_eq_false_iff_ne]; omega
    obtain ⟨T1, hT1⟩ : ∃ q, q = T - 1 := ⟨_, rfl⟩
    have zT : (T : Int) - 1 = (T1 : Int) := by omega
    have hb1 : Below w.heap.size w (w.alloc (.cells #[.int .i64 (L : Int), .int .i64 0] 176)) := (Below.refl _ _).alloc (Nat.le_refl _) _
    have hb2 : Below w.heap.size w ((w.alloc (.cells #[.int .i64 (L : Int), .int .i64 0] 176)).alloc (.cells #[.int .i64 16] 3)) := hb1.alloc hb1.size _
    have hlit := World.ownsRow_lit (base := w.heap.size) (e := 176) (size := 2) w #[.int .i64 (L : Int), .int .i64 0] 1 (Nat.le_refl _) (by decide) rfl
    have hown : ((w.alloc (.cells #[.int .i64 (L : Int), .int .i64 0] 176)).alloc (.cells #[.int .i64 16] 3)).ownsRow w.heap.size 176 2 (.slice (some ⟨w.heap.size, 0, none⟩) 1 1) [(L, 0)].length (stV [(L, 0)]) := by
      refine own_keepS ?_ (fun k _ hk => Below.heap_alloc _ _ k hk)
      exact hlit
    have HX := hide (dagain_any w.heap.size (.slice (some ⟨w.heap.size, 0, none⟩) 1 1) [(L, 0)] L 1 T1 (w.heap.size + 1) 0 1 1 (fun _ => 16) _ hown hb2.size (fun i hi => by
      obtain rfl : i = 0 := by omega
      simp [go_sem]) (by simp [Value.ownBlock]) (.inr ⟨rfl, by omega, hL, Nat.le_refl _, rfl⟩) (by omega) (fun R => by
        have := Tells.plain (ss := []) (L := L) (j := 0) (fun R => by simpa using Dec.nil R) hL
        simpa using this R))
    have HB2 := hide hb2
    have HT1 := hide hT1
    clear hb1 hb2 hown hlit hT1
    go_enter Tryz.func152, Tryz.ntmps152
    go_wp2_with fail
    refine (unhide HX).mono ?_; rintro e w2 ⟨a, c, ss, rfl, ho, ht, hb3⟩
    have HO := hide ho
    rw [show 1 + T1 = T by have := unhide HT1; omega] at ht
    have HT := hide ht
    have HB3 := hide ((unhide HB2).trans hb3)
    clear HX ho ht hb3 HB2
    go_wp2
    go_ret
    exact ⟨a, c, ss, rfl, unhide HO, unhide HT, unhide HB3⟩
theorem Dec.none {r r' : List Nat} (h : Dec r [] r') : r' = r := by cases h; rfl
theorem Tells.some {ss : List Sp} {L j : Nat} (h : Tells ss L j) (hj : 1 ≤ j) : 0 < ss.length := by
  rcases Nat.eq_zero_or_pos ss.length with z | z
  · exfalso
    have hz : ss = [] := List.eq_nil_of_length_eq_zero z
    have h1 := h []
    rw [hz] at h1
    have h2 := congrArg List.length (Dec.none h1)
    simp at h2
    omega
  · exact z
/-- A row and what is left of it. -/
theorem take_run {l : List Nat} {p k : Nat} (h : p + k ≤ l.length) (he : ∀ j, j < k → l.getD (p + j) 0 = l.getD p 0) : l.take (p + k) = l.take p ++ List.replicate k (l.getD p 0) := by
  rw [List.take_add]
  congr 1
  apply List.ext_getElem
  · rw [List.length_take, List.length_drop, List.length_replicate]; omega
  · intro i h1 h2
    rw [List.length_replicate] at h2
    rw [List.getElem_take, List.getElem_drop, List.getElem_replicate]
    have := he i h2
    rw [List.getD_eq_getElem?_getD, List.getElem?_eq_getElem (by omega)] at this
    exact this
set_option maxHeartbeats 4000000 in
set_option maxRecDepth 100000 in
theorem steps_any (b o cap : Nat) (l : List Nat) (w : World) (hP : ∀ i, i < l.length → w.cell? ⟨b, o + i, none⟩ = some (.int .i64 (l.getD i 0 : Int))) (hl0 : 0 < l.length) (hl : l.length ≤ 1000) (hle : ∀ x ∈ l, x ≤ 15) (hNc : l.length ≤ cap) :
    Calls Tryz.prog 119 #[.slice (some ⟨b, o, none⟩) l.length cap] w fun e w' => ∃ a c ss, e = .returned (.slice a ss.length c) ∧ w'.ownsRow w.heap.size 176 2 (.slice a ss.length c) ss.length (stV ss) ∧ Dec [] ss l ∧ Below w.heap.size w w' := by
  have hbl : b < w.heap.size := World.block_lt_of_cell? _ _ (hP 0 hl0)
  have HP := hide hP
  have HLE := hide hle
  obtain ⟨N, hN⟩ : ∃ N, N = l.length := ⟨_, rfl⟩
  rw [← hN]
  have HN := hide hN
  rw [← hN] at hl hl0 hNc
  clear hP hle hN
  go_enter Tryz.func119, Tryz.ntmps119
  go_wp2
  go_loopw [0, 3] (fun rv lv wr => ∃ (p k cp n c : Nat) (a ar : Option Addr) (ss : List Sp), rv = .slice ar k cp ∧ lv = .slice a n c ∧ p + k = N ∧ k ≤ cp ∧ Hid (0 < k → ar = some ⟨b, o + p, none⟩) ∧ Hid (n = ss.length) ∧ n ≤ p ∧ Hid (Dec [] ss (l.take p)) ∧ Hid (wr.ownsRow w.heap.size 176 2 (.slice a n c) ss.length (stV ss)) ∧ Hid (Below w.heap.size w wr)) (fun rv _ _ => match rv with | .slice _ k _ => k | _ => 0)
  case atStart => exact ⟨0, N, cap, 0, 0, none, some ⟨b, o, none⟩, [], rfl, rfl, by omega, hNc, fun _ => rfl, rfl, by omega, Dec.nil _, World.ownsRow_nil _ _ _ _, Below.refl _ _⟩
  case round =>
    obtain ⟨p, k, cp, n, c, a, ar, ss, rfl, rfl, hpk, hkc, HAr, Hn, hnp, HD, HO, HB⟩ := hrel
    rcases Nat.eq_zero_or_pos k with h0 | h0
    · subst h0
      obtain rfl : p = N := by omega
      have hn := unhide Hn
      have HO2 : Hid (wr.ownsRow w.heap.size 176 2 (.slice a ss.length c) ss.length (stV ss)) := by
        have := unhide HO
        rw [hn] at this
        exact this
      have HD2 : Hid (Dec [] ss l) := by
        have := unhide HD
        rwa [unhide HN, List.take_length] at this
      subst hn
      go_wp2
      go_ret
      exact ⟨a, c, ss, rfl, unhide HO2, unhide HD2, unhide HB⟩
    · have har := unhide HAr h0
      subst har
      have d1 : decide ((k : Int) > 0) = true := decide_eq_true (by omega)
      have d1' : decide ((0 : Int) < (k : Int)) = true := d1
      have h0k : (0 : Int) < (k : Int) := by omega
      have hcell : ∀ i, i < k → wr.cell? ⟨b, o + p + i, none⟩ = some (.int .i64 (l.getD (p + i) 0 : Int)) := fun i hi => by
        have := unhide HP (p + i) (by have := unhide HN; omega)
        rw [← Nat.add_assoc] at this
        exact ((unhide HB).cell (p := ⟨b, o + p + i, none⟩) hbl).trans this
      have HX := hide (drun_any b (o + p) k cp (fun i => (l.getD (p + i) 0 : Int)) wr hcell h0 (by omega))
      obtain ⟨L, hL⟩ : ∃ q, q = l.getD p 0 := ⟨_, rfl⟩
      have c0 := hcell 0 h0
      rw [Nat.add_zero, Nat.add_zero, ← hL] at c0
      have hL15 : L ≤ 15 := by
        have hpl : p < l.length := by have := unhide HN; omega
        rw [hL, List.getD_eq_getElem?_getD, List.getElem?_eq_getElem hpl]
        exact unhide HLE _ (List.getElem_mem hpl)
      have HL := hide hL
      have HC := hide hcell
      clear hcell hL
      go_wp2_with fail
      refine (unhide HX).mono ?_; rintro e w1 ⟨q, rfl, hq1, hqk, heq, nn, rfl⟩
      have hd1 : Below wr.heap.size wr (wr.drewN nn) := ⟨rfl, rfl, rfl, Nat.le_refl _, fun _ _ => rfl⟩
      have HO1 : Hid ((wr.drewN nn).ownsRow w.heap.size 176 2 (.slice a n c) ss.length (stV ss)) := own_keepS (unhide HO) (fun k _ hk => hd1.block k hk)
      have HB1 := hide ((unhide HB).trans (hd1.mono (unhide HB).size))
      have c1 : (wr.drewN nn).cell? ⟨b, o + p, none⟩ = some (.int .i64 (L : Int)) := c0
      have HEQ : Hid (∀ j, j < q → l.getD (p + j) 0 = l.getD p 0) := fun j hj => by
        have := heq j hj
        simp only [Nat.add_zero] at this
        omega
      clear HX hd1 HO HB c0 heq HC
      generalize wr.drewN nn = w2 at *
      have HX := hide (stepsOfRun_any L q w2 hL15 hq1 (by omega))
      go_wp2_with fail
      refine (unhide HX).mono ?_; rintro e w3 ⟨a3, c3, s3, rfl, ho3, ht3, hb3⟩
      have HO3 : Hid (w3.ownsRow w.heap.size 176 2 (.slice a n c) ss.length (stV ss)) := own_keepS (unhide HO1) (fun k _ hk => hb3.block k hk)
      have HB3 := hide ((unhide HB1).trans (hb3.mono (unhide HB1).size))
      have HIN := hide (own_inS (unhide HO3))
      have hs3 : 0 < s3.length := ht3.some hq1
      have hsf := ht3.few
      rcases ho3.2 with ⟨_, z⟩ | ⟨g3, cap3, cur, hv, hg3, hh3, r3⟩
      · omega
      injection hv with e1 e2 e3
      subst e1
      obtain rfl : cap3 = c3 := e3.symm
      clear e2 e3
      have HQ : Hid (∀ j u, (stV s3)[j]? = some u → w3.cell? ⟨g3, j, none⟩ = some u) := fun j u hu => by
        have := ho3.cells (g := g3) rfl j u hu
        rwa [addr_add, Nat.zero_add] at this
      have HDD : Hid (Dec [] (ss ++ s3) (l.take (p + q))) := by
        show Dec [] (ss ++ s3) (l.take (p + q))
        rw [take_run (by have := unhide HN; omega) (unhide HEQ), ← unhide HL]
        exact (unhide HD).append (ht3 _)
      have hsn : ss.length + s3.length ≤ 1000000 := by have := unhide Hn; omega
      have HSN := hide hsn
      have hBw3 : w.heap.size ≤ w3.heap.size := (unhide HB3).size
      clear HX HO1 HB1 ho3 ht3 hb3 hh3 r3 hg3 hsn HEQ
      go_wp2_with (at_builtin; refine wpList_appSt _ rfl (.tmp 10) (.tmp 15) rfl w.heap.size g3 s3.length _ (.slice a n c) ss s3 rfl rfl rfl (unhide HO3) (unhide HQ) (unhide HSN) hBw3 ?_)
      intro v4 w4 ho4 hg4 _
      obtain ⟨a4, c4, rfl⟩ := own_sliceS ho4
      have HB4 := hide ((unhide HB3).grown hg4 hBw3 (fun k e => (unhide HIN k e).1))
      have HO4 : Hid (w4.ownsRow w.heap.size 176 2 (.slice a4 (ss.length + s3.length) c4) (ss ++ s3).length (stV (ss ++ s3))) := by
        show World.ownsRow _ _ _ _ _ _ _
        have e : (ss ++ s3).length = ss.length + s3.length := List.length_append
        rw [e]
        first
          | exact ho4
          | (rw [e] at ho4; exact ho4)
      obtain ⟨k2, hk2⟩ : ∃ x, x = k - q := ⟨_, rfl⟩
      obtain ⟨cp2, hcp2⟩ : ∃ x, x = cp - q := ⟨_, rfl⟩
      have zk : (k : Int) - (q : Int) = (k2 : Int) := by omega
      have zc : (cp : Int) - (q : Int) = (cp2 : Int) := by omega
      have nk : k - q = k2 := hk2.symm
      have nc : cp - q = cp2 := hcp2.symm
      have iqk : (q : Int) ≤ (k : Int) := by omega
      have hpk2 : p + q + k2 = N := by omega
      have hkk : k2 < k := by omega
      have hkc2 : k2 ≤ cp2 := by omega
      have hss : ss.length + s3.length ≤ p + q := by have := unhide Hn; omega
      have HK2 := hide hk2
      have HC2 := hide hcp2
      clear ho4 hg4 HO3 HB3 hk2 hcp2 HQ
      by_cases hqc : q < cp
      · have hqi : (q : Int) < (cp : Int) := by omega
        go_wp2
        go_roundw
        case rel => exact ⟨p + q, k2, cp2, ss.length + s3.length, c4, a4, _, ss ++ s3, rfl, rfl, hpk2, hkc2, fun _ => by simp [Nat.add_assoc], by show _ = _; rw [List.length_append], hss, HDD, HO4, HB4⟩
        case measure => simp; omega
      · obtain rfl : q = cp := by omega
        have hk0 : k2 = 0 := by have := unhide HK2; omega
        go_wp2
        go_roundw
        case rel => exact ⟨p + q, 0, cp2, ss.length + s3.length, c4, a4, _, ss ++ s3, rfl, rfl, by omega, by omega, fun z => by omega, by show _ = _; rw [List.length_append], hss, HDD, HO4, HB4⟩
        case measure => simp; omega
end Go.Proofs.YtfeljhikeddodadGreatDoor
namespace Go.Proofs.YtfeljhikeddodadGreatDoor
open Go.Shelf Go.RowKit Go.Lib Go.Sort St

/-- What it costs; where its symbols lie, how many, the room. -/
abbrev PkV := Int × Option Addr × Nat × Nat
def encP (x : PkV) : List Value := [.int .i64 x.1, .slice x.2.1 x.2.2.1 x.2.2.2]
theorem encP_len (x : PkV) : (encP x).length = 2 := rfl
theorem encP_one (x : PkV) : ∀ v ∈ encP x, v.oneCell' = true := fun v hv => by simp [encP] at hv; rcases hv with rfl | rfl <;> rfl
theorem cellsP {w0 W : World} {blk off : Nat} {dk d0 : Array PkV} (h : SWK encP 2 w0 blk off dk W) (R : RowK encP 2 w0 blk off d0) (hs : dk.size = d0.size) (i : Nat) (hi : i < dk.size) :
    W.cell? ⟨blk, off + i * 2, none⟩ = some (.int .i64 (dk[i]!).1) ∧ W.cell? ⟨blk, off + i * 2 + 1, none⟩ = some (.slice (dk[i]!).2.1 (dk[i]!).2.2.1 (dk[i]!).2.2.2) ∧ W.frozen? ⟨blk, off + i * 2, none⟩ = false ∧ W.frozen? ⟨blk, off + i * 2 + 1, none⟩ = false := by
  have hh := h.holds R.hblk R.hH hs
  obtain ⟨a1, a2⟩ := HoldsK.cell hh (i := i) (c := 0) hi (by omega)
  obtain ⟨b1, b2⟩ := HoldsK.cell hh (i := i) (c := 1) hi (by omega)
  exact ⟨a1, b1, a2, b2⟩
theorem gcellsP {w0 W : World} {blk off : Nat} {dk d0 : Array PkV} (h : SWK encP 2 w0 blk off dk W) (R : RowK encP 2 w0 blk off d0) (hs : dk.size = d0.size) (i : Nat) (hi : i < dk.size) :
    (∀ n os, (grow (W.drewN n) os).cell? ⟨blk, off + i * 2, none⟩ = some (.int .i64 (dk[i]!).1)) ∧ (∀ n os, (grow (W.drewN n) os).cell? ⟨blk, off + i * 2 + 1, none⟩ = some (.slice (dk[i]!).2.1 (dk[i]!).2.2.1 (dk[i]!).2.2.2)) :=
  ⟨fun n os => (cellsP (h.grown n os) R hs i hi).1, fun n os => (cellsP (h.grown n os) R hs i hi).2.1⟩
theorem some_set {w : World} {p q : Addr} {v u : Value} (h : w.cell? q = some u) : ∃ u', (w.setCell p v).cell? q = some u' := by
  by_cases e : p = q
  · subst e; exact ⟨v, World.cell?_setCell_same _ _ _ h⟩
  · exact ⟨u, (World.cell?_setCell_other _ _ _ _ e).trans h⟩
theorem afterP {w0 W : World} {blk off : Nat} {dk d0 : Array PkV} (h : SWK encP 2 w0 blk off dk W) (R : RowK encP 2 w0 blk off d0) (hs : dk.size = d0.size) (i j : Nat) (hi : i < dk.size) (hj : j < dk.size) (v0 v1 v2 : Value) :
    ∃ u1 u2 u3, (W.setCell ⟨blk, off + i * 2, none⟩ v0).cell? ⟨blk, off + i * 2 + 1, none⟩ = some u1 ∧
      ((W.setCell ⟨blk, off + i * 2, none⟩ v0).setCell ⟨blk, off + i * 2 + 1, none⟩ v1).cell? ⟨blk, off + j * 2, none⟩ = some u2 ∧
      (((W.setCell ⟨blk, off + i * 2, none⟩ v0).setCell ⟨blk, off + i * 2 + 1, none⟩ v1).setCell ⟨blk, off + j * 2, none⟩ v2).cell? ⟨blk, off + j * 2 + 1, none⟩ = some u3 := by
  obtain ⟨_, a1, _, _⟩ := cellsP h R hs i hi
  obtain ⟨b0, b1, _, _⟩ := cellsP h R hs j hj
  obtain ⟨u1, h1⟩ := some_set (p := ⟨blk, off + i * 2, none⟩) (v := v0) a1
  obtain ⟨q1, k1⟩ := some_set (p := ⟨blk, off + i * 2, none⟩) (v := v0) b0
  obtain ⟨u2, h2⟩ := some_set (p := ⟨blk, off + i * 2 + 1, none⟩) (v := v1) k1
  obtain ⟨q2, k2⟩ := some_set (p := ⟨blk, off + i * 2, none⟩) (v := v0) b1
  obtain ⟨q3, k3⟩ := some_set (p := ⟨blk, off + i * 2 + 1, none⟩) (v := v1) k2
  obtain ⟨u3, h3⟩ := some_set (p := ⟨blk, off + j * 2, none⟩) (v := v2) k3
  exact ⟨u1, u2, u3, h1, h2, h3⟩
theorem swappedP {w0 W : World} {blk off : Nat} {dk d0 : Array PkV} (h : SWK encP 2 w0 blk off dk W) (R : RowK encP 2 w0 blk off d0) (i j : Nat) (hi : i < dk.size) (hj : j < dk.size) :
    SWK encP 2 w0 blk off (swp dk i j) ((((W.setCell ⟨blk, off + i * 2, none⟩ (.int .i64 (dk[j]!).1)).setCell ⟨blk, off + i * 2 + 1, none⟩ (.slice (dk[j]!).2.1 (dk[j]!).2.2.1 (dk[j]!).2.2.2)).setCell ⟨blk, off + j * 2, none⟩ (.int .i64 (dk[i]!).1)).setCell ⟨blk, off + j * 2 + 1, none⟩ (.slice (dk[i]!).2.1 (dk[i]!).2.2.1 (dk[i]!).2.2.2)).drew :=
  h.swapped R i j hi hj
end Go.Proofs.YtfeljhikeddodadGreatDoor
namespace Go.Proofs.YtfeljhikeddodadGreatDoor
open Go.Shelf Go.RowKit Go.Lib Go.Sort St
set_option maxHeartbeats 16000000 in
set_option maxRecDepth 1000000 in
/-- n places from a on, exchanged with those from b on. -/
theorem swapRangeK_any (g : Nat) (cb : Array Value) (blk off cap a b n : Nat) (d0 d : Array PkV) (w0 w : World) (R : RowK encP 2 w0 blk off d0) (hs : d0.size = d.size) (S : SWK encP 2 w0 blk off d w) (hab : a + n ≤ b) (hb : b + n ≤ d.size) (hsz : d.size < 4611686018427387904) :
    Calls Tryz.prog 176 #[.slice (some ⟨blk, off, none⟩) d.size cap, .int .i64 a, .int .i64 b, .int .i64 n, .func (.func g) #[] cb] w fun e w' => e = .returned (.tuple #[]) ∧ ∃ d' : Array PkV, SWK encP 2 w0 blk off d' w' ∧ SwR d d' a b n ∧ PermIn a (b + n) d d' := by
  have mixed : Tryz.prog.follows .mixedOrders = true := by kernel_rfl
  have S0 : Aside (SWK encP 2 w0 blk off d w) := S
  clear S
  go_enter Tryz.func176, Tryz.ntmps176
  go_wp2
  go_loopg [10] n (fun g1 vi wr => ∃ (i : Nat) (dk : Array PkV), vi = .int .i64 i ∧ i ≤ n ∧ n - i ≤ g1 ∧ dk.size = d.size ∧ Aside (SWK encP 2 w0 blk off dk wr) ∧ Hid (SwR d dk a b i) ∧ Hid (PermIn a (b + n) d dk))
  case atStart => exact ⟨0, d, rfl, by omega, by omega, rfl, S0, SwR.zero d a b, permIn_refl _ _ _⟩
  case round =>
    clear S0
    obtain ⟨i, dk, rfl, hi, hg1, hsk, S1, H1, H2⟩ := hrel
    by_cases hlt : i < n
    · have hltz : decide ((i : Int) < (n : Int)) = true := by simp; omega
      obtain ⟨ai, hai⟩ : ∃ q, q = a + i := ⟨_, rfl⟩
      obtain ⟨bi, hbi⟩ : ∃ q, q = b + i := ⟨_, rfl⟩
      have zai : (a : Int) + (i : Int) = (ai : Int) := by omega
      have zbi : (b : Int) + (i : Int) = (bi : Int) := by omega
      have H3 : Hid (SwR d (swp dk ai bi) a b (i + 1)) := by rw [hai, hbi]; exact SwR.step (unhide H1) (by omega) (by omega) (by omega)
      have H4 : Hid (PermIn a (b + n) d (swp dk ai bi)) := permIn_trans _ _ _ _ _ (unhide H2) (swp_permIn dk a (b + n) ai bi (by omega) (by omega) (by omega) (by omega) (by omega))
      clear H1 H2
      obtain ⟨qa15, hqa15⟩ : ∃ q, q = ai := ⟨_, rfl⟩
      have ea15 : ((ai : Int)).toNat = qa15 := by omega
      have pa15 : (0 : Int) ≤ (ai : Int) := by omega
      have ba15 : (ai : Int) < (d.size : Int) := by omega
      have ra15 : IntKind.i64.wrap ((ai : Int)) = (ai : Int) := by rw [IntKind.wrap_i64]; omega
      obtain ⟨qb15, hqb15⟩ : ∃ q, q = bi := ⟨_, rfl⟩
      have eb15 : ((bi : Int)).toNat = qb15 := by omega
      have pb15 : (0 : Int) ≤ (bi : Int) := by omega
      have bb15 : (bi : Int) < (d.size : Int) := by omega
      have rb15 : IntKind.i64.wrap ((bi : Int)) = (bi : Int) := by rw [IntKind.wrap_i64]; omega
      obtain ⟨x15, hx15⟩ : ∃ x, x = dk[ai]! := ⟨_, rfl⟩
      obtain ⟨y15, hy15⟩ : ∃ x, x = dk[bi]! := ⟨_, rfl⟩
      have S2 : Aside (SWK encP 2 w0 blk off (swp dk (ai) (bi)) ((((wr.setCell ⟨blk, off + qa15 * 2, none⟩ (.int .i64 y15.1)).setCell ⟨blk, off + qa15 * 2 + 1, none⟩ (.slice y15.2.1 y15.2.2.1 y15.2.2.2)).setCell ⟨blk, off + qb15 * 2, none⟩ (.int .i64 x15.1)).setCell ⟨blk, off + qb15 * 2 + 1, none⟩ (.slice x15.2.1 x15.2.2.1 x15.2.2.2)).drew) := by rw [hqa15, hqb15, hx15, hy15]; exact swappedP S1.out R (ai) (bi) (by omega) (by omega)
      obtain ⟨ca15, cA15, fa15, fA15⟩ := cellsP S1.out R (by omega) (ai) (by omega)
      obtain ⟨cb15, cB15, fb15, fB15⟩ := cellsP S1.out R (by omega) (bi) (by omega)
      obtain ⟨u15, uu15, uuu15, cc15, cC15, cD15⟩ := afterP S1.out R (by omega) (ai) (bi) (by omega) (by omega) (.int .i64 y15.1) (.slice y15.2.1 y15.2.2.1 y15.2.2.2) (.int .i64 x15.1)
      rw [← hqb15, ← hqa15] at cC15 cD15
      rw [← hqa15] at cc15
      rw [← hx15, ← hqa15] at ca15 cA15
      rw [← hy15, ← hqb15] at cb15 cB15
      rw [← hqa15] at fa15 fA15
      rw [← hqb15] at fb15 fB15
      clear S1 hx15 hy15 hqa15 hqb15 hai hbi
      go_wp2_with fail
      go_region
      clear ca15 cb15 cA15 cB15 cc15 cC15 cD15 fa15 fb15 fA15 fB15
      generalize ((((wr.setCell ⟨blk, off + qa15 * 2, none⟩ (.int .i64 y15.1)).setCell ⟨blk, off + qa15 * 2 + 1, none⟩ (.slice y15.2.1 y15.2.2.1 y15.2.2.2)).setCell ⟨blk, off + qb15 * 2, none⟩ (.int .i64 x15.1)).setCell ⟨blk, off + qb15 * 2 + 1, none⟩ (.slice x15.2.1 x15.2.2.1 x15.2.2.2)).drew = w2 at S2 ⊢
      clear ea15 eb15 pa15 pb15 ba15 bb15 ra15 rb15
      go_wp2
      go_roundg (n - (i + 1))
      case measure => omega
      case rel => exact ⟨i + 1, swp dk ai bi, by go_num, by omega, Nat.le_refl _, by rw [size_swp]; exact hsk, S2, H3, H4⟩
    · have hltz : decide ((i : Int) < (n : Int)) = false := by simp; omega
      obtain rfl : i = n := by omega
      go_wp2
      go_end0
      exact ⟨rfl, dk, S1.out, unhide H1, unhide H2⟩
end Go.Proofs.YtfeljhikeddodadGreatDoor
namespace Go.Proofs.YtfeljhikeddodadGreatDoor
open Go.Shelf Go.RowKit Go.Lib Go.Sort St
set_option maxHeartbeats 16000000 in
set_option maxRecDepth 1000000 in
/-- [a, m) and [m, b), turned round. -/
theorem rotateK_any (g : Nat) (cb : Array Value) (blk off cap a m b : Nat) (d0 d : Array PkV) (w0 w : World) (R : RowK encP 2 w0 blk off d0) (hs : d0.size = d.size) (S : SWK encP 2 w0 blk off d w) (ham : a < m) (hmb : m < b) (hb : b ≤ d.size) (hsz : d.size < 4611686018427387904) :
    Calls Tryz.prog 174 #[.slice (some ⟨blk, off, none⟩) d.size cap, .int .i64 a, .int .i64 m, .int .i64 b, .func (.func g) #[] cb] w fun e w' => e = .returned (.tuple #[]) ∧ ∃ d' : Array PkV, SWK encP 2 w0 blk off d' w' ∧ Rot d d' a m b ∧ PermIn a b d d' := by
  have S0 : Aside (SWK encP 2 w0 blk off d w) := S
  clear S
  obtain ⟨i0, hi0⟩ : ∃ q, q = m - a := ⟨_, rfl⟩
  obtain ⟨j0, hj0⟩ : ∃ q, q = b - m := ⟨_, rfl⟩
  have zi0 : (m : Int) - (a : Int) = (i0 : Int) := by omega
  have zj0 : (b : Int) - (m : Int) = (j0 : Int) := by omega
  have Hi0 := hide hi0
  have Hj0 := hide hj0
  clear hi0 hj0
  go_enter Tryz.func174, Tryz.ntmps174
  go_wp2
  go_loopg [10, 11] (i0 + j0) (fun g1 vi vj wr => ∃ (i j : Nat) (dk : Array PkV), vi = .int .i64 i ∧ vj = .int .i64 j ∧ 0 < i ∧ 0 < j ∧ a + i ≤ m ∧ m + j ≤ b ∧ i + j ≤ g1 ∧ dk.size = d.size ∧ Aside (SWK encP 2 w0 blk off dk wr) ∧
    Hid (∀ t, rt (fun i => d[i]!) a m b t = rt (fun i => dk[i]!) (m - i) m (m + j) t) ∧ Hid (PermIn a b d dk))
  case atStart => exact ⟨i0, j0, d, rfl, rfl, by omega, by omega, by omega, by omega, Nat.le_refl _, rfl, S0, fun t => by rw [show m - i0 = a by omega, show m + j0 = b by omega], permIn_refl _ _ _⟩
  case round =>
    clear S0 Hi0 Hj0 zi0 zj0
    obtain ⟨i, j, dk, rfl, rfl, hi, hj, hai, hjb, hg1, hsk, S1, H1, H2⟩ := hrel
    obtain ⟨mi, hmi⟩ : ∃ q, q = m - i := ⟨_, rfl⟩
    have zmi : (m : Int) - (i : Int) = (mi : Int) := by omega
    have zij : (i : Int) - (j : Int) = ((i : Int) - (j : Int)) := rfl
    clear zij
    rcases Nat.lt_trichotomy i j with hlt | heq | hgt
    · have d1 : ((i : Int) == (j : Int)) = false := by simp; omega
      have d2 : decide ((i : Int) = (j : Int)) = false := by simp; omega
      have d3 : decide ((j : Int) < (i : Int)) = false := by simp; omega
      have d4 : decide ((i : Int) > (j : Int)) = false := by simp; omega
      obtain ⟨ji, hji⟩ : ∃ q, q = j - i := ⟨_, rfl⟩
      obtain ⟨mji, hmji⟩ : ∃ q, q = m + j - i := ⟨_, rfl⟩
      have zji : (j : Int) - (i : Int) = (ji : Int) := by omega
      have zmji : (m : Int) + (j : Int) - (i : Int) = (mji : Int) := by omega
      have Hmi := hide hmi
      have Hji := hide hji
      have Hmji := hide hmji
      have Hlt := hide hlt
      have hcon := swapRangeK_any g cb blk off cap mi mji i d0 dk w0 wr R (by omega) S1.out (by omega) (by omega) (by omega)
      rw [hsk] at hcon
      have HCON := hide hcon
      clear S1 hcon hmi hji hmji hlt
      go_wp2_with fail
      refine (unhide HCON).mono ?_
      rintro e w2 ⟨rfl, d2, S2, h1, h2⟩
      clear HCON
      have S3 : Aside (SWK encP 2 w0 blk off d2 w2) := S2
      clear S2
      have h3 := h2.1
      go_wp2
      go_roundg (i + ji)
      case measure => have := unhide Hji; have := unhide Hlt; omega
      case rel =>
        have q1 := unhide Hmi
        have q2 := unhide Hji
        have q3 := unhide Hmji
        have q4 := unhide Hlt
        refine ⟨i, ji, d2, rfl, rfl, hi, by omega, hai, by omega, Nat.le_refl _, h3.trans hsk, S3, fun t => ?_, permIn_trans _ _ _ _ _ (unhide H2) (permIn_mono _ _ mi (mji + i) a b (by omega) (by omega) (by omega) h2)⟩
        subst q1 q2 q3
        exact (unhide H1 t).trans (rt_right (by omega) q4 h1 t)
    · subst heq
      have Hmi := hide hmi
      have hcon := swapRangeK_any g cb blk off cap mi m i d0 dk w0 wr R (by omega) S1.out (by omega) (by omega) (by omega)
      rw [hsk] at hcon
      have HCON := hide hcon
      clear S1 hcon hmi
      go_wp2_with fail
      refine (unhide HCON).mono ?_
      rintro e w2 ⟨rfl, d2, S2, h1, h2⟩
      clear HCON
      have S3 : Aside (SWK encP 2 w0 blk off d2 w2) := S2
      clear S2
      have h3 := h2.1
      go_wp2
      go_end0
      refine ⟨rfl, d2, S3.out, fun t => ?_, permIn_trans _ _ _ _ _ (unhide H2) (permIn_mono _ _ mi (m + i) a b (by have := unhide Hmi; omega) (by omega) (by omega) h2)⟩
      have q1 := unhide Hmi
      subst q1
      exact ((unhide H1 t).trans (rt_same (by omega) h1 t)).symm
    · have d1 : ((i : Int) == (j : Int)) = false := by simp; omega
      have d2 : decide ((i : Int) = (j : Int)) = false := by simp; omega
      have d3 : decide ((j : Int) < (i : Int)) = true := by simp; omega
      have d4 : decide ((i : Int) > (j : Int)) = true := by simp; omega
      obtain ⟨ij, hij⟩ : ∃ q, q = i - j := ⟨_, rfl⟩
      have zij : (i : Int) - (j : Int) = (ij : Int) := by omega
      have Hmi := hide hmi
      have Hij := hide hij
      have Hgt := hide hgt
      have hcon := swapRangeK_any g cb blk off cap mi m j d0 dk w0 wr R (by omega) S1.out (by omega) (by omega) (by omega)
      rw [hsk] at hcon
      have HCON := hide hcon
      clear S1 hcon hmi hij hgt
      go_wp2_with fail
      refine (unhide HCON).mono ?_
      rintro e w2 ⟨rfl, d2, S2, h1, h2⟩
      clear HCON
      have S3 : Aside (SWK encP 2 w0 blk off d2 w2) := S2
      clear S2
      have h3 := h2.1
      go_wp2
      go_roundg (ij + j)
      case measure => have := unhide Hij; have := unhide Hgt; omega
      case rel =>
        have q1 := unhide Hmi
        have q2 := unhide Hij
        have q4 := unhide Hgt
        refine ⟨ij, j, d2, rfl, rfl, by omega, hj, by omega, hjb, Nat.le_refl _, h3.trans hsk, S3, fun t => ?_, permIn_trans _ _ _ _ _ (unhide H2) (permIn_mono _ _ mi (m + j) a b (by omega) (by omega) (by omega) h2)⟩
        subst q1 q2
        exact (unhide H1 t).trans (rt_left (by omega) q4 h1 t)
end Go.Proofs.YtfeljhikeddodadGreatDoor
