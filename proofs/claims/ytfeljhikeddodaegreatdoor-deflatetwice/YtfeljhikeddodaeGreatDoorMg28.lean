/- Walks of the chains of places: their small parts. Chains of places in memory: made. Chains of places in memory: a place more. -/
import Derived.Test.YtfeljhikeddodaeGreatDoorMg27
import Derived.Test.YtfeljhikeddodaeGreatDoorMg8
import Derived.Test.YtfeljhikeddodaeGreatDoorMg5
import Derived.Deep.RegionHeld
import Derived.Laws.ResultCell
import Derived.Deep.RegionWith
import Derived.Laws.OwnMore
import Derived.Deep.OwnRows
namespace Go.Proofs.YtfeljhikeddodaeGreatDoor
open Go.RowKit Mm

/-- The i-th byte of a text. -/
def byt (s : ByteArray) (i : Nat) : Nat := if h : i < s.size then s[i].toNat else 0
theorem byt_at (s : ByteArray) (i : Nat) (h : i < s.size) : byt s i = s[i].toNat := by unfold byt; rw [dif_pos h]
theorem byt_lt (s : ByteArray) (i : Nat) : byt s i < 256 := by
  unfold byt
  split
  · exact s[i].toNat_lt
  · omega

/-- How many places are tried. -/
def trs (n : Nat) : Nat := if n ≤ 3000 then 3000 else 256
theorem trs_le (n : Nat) : trs n ≤ 3000 := by unfold trs; split <;> omega
theorem trs_pos (n : Nat) : 1 ≤ trs n := by unfold trs; split <;> omega
theorem trs_few {n : Nat} (h : n ≤ 3000) : trs n = 3000 := by unfold trs; rw [if_pos h]
theorem triesOf_any (s : ByteArray) (w : World) (hs : s.size ≤ 20000) :
    Calls Tryz.prog 31 #[.string s] w fun e w' => e = .returned (.int .i64 (trs s.size : Int)) ∧ w' = w := by
  unfold trs
  by_cases h : s.size ≤ 3000
  · have d1 : decide ((s.size : Int) ≤ 3000) = true := by simp; omega
    have d1n : decide (s.size ≤ 3000) = true := decide_eq_true h
    rw [if_pos h]
    clear h
    go_enter Tryz.func31, Tryz.ntmps31
    go_wp2
    go_ret
    exact ⟨rfl, rfl⟩
  · have d1 : decide ((s.size : Int) ≤ 3000) = false := decide_eq_false (by omega)
    have d1n : decide (s.size ≤ 3000) = false := decide_eq_false h
    rw [if_neg h]
    clear h
    go_enter Tryz.func31, Tryz.ntmps31
    go_wp2
    go_ret
    exact ⟨rfl, rfl⟩

theorem begins_any (c a : Nat) (s : ByteArray) (w : World) (c0 : w.cell? ⟨c, 0, none⟩ = some (.string s)) (hs : s.size ≤ 300000) (ha : a ≤ s.size) :
    Calls Tryz.prog 33 #[.pointer (some ⟨c, 0, none⟩), .int .i64 (a : Int)] w fun e w' => e = .returned (.bool (decide (a + 3 ≤ s.size))) ∧ w' = w := by
  obtain ⟨d, hd⟩ : ∃ d, d = s.size - a := ⟨_, rfl⟩
  have zd : (s.size : Int) - (a : Int) = (d : Int) := by omega
  have hdl : d ≤ 300000 := by omega
  by_cases h : a + 3 ≤ s.size
  · have d1 : decide ((d : Int) ≥ 3) = true := by simp; omega
    have d1' : decide ((3 : Int) ≤ (d : Int)) = true := d1
    rw [decide_eq_true h]
    clear h hd
    go_enter Tryz.func33, Tryz.ntmps33
    go_wp2
    go_ret
    exact ⟨rfl, rfl⟩
  · have d1 : decide ((d : Int) ≥ 3) = false := by simp; omega
    have d1' : decide ((3 : Int) ≤ (d : Int)) = false := d1
    rw [decide_eq_false h]
    clear h hd
    go_enter Tryz.func33, Tryz.ntmps33
    go_wp2
    go_ret
    exact ⟨rfl, rfl⟩

set_option maxHeartbeats 2000000 in
theorem csame_any (c a b most : Nat) (s : ByteArray) (w : World) (c0 : w.cell? ⟨c, 0, none⟩ = some (.string s)) (hs : s.size ≤ 300000) (hab : a ≤ b) (hb : b + most ≤ s.size) :
    Calls Tryz.prog 56 #[.pointer (some ⟨c, 0, none⟩), .int .i64 (a : Int), .int .i64 (b : Int), .int .i64 (most : Int)] w fun e w' => ∃ m : Nat, e = .returned (.int .i64 (m : Int)) ∧ IsCl (byt s) a b most m ∧ ∃ nn, w' = w.drewN nn := by
  go_enter Tryz.func56, Tryz.ntmps56
  go_wp2
  go_loopw [9] (fun v wr => ∃ m : Nat, m ≤ most ∧ v = .int .i64 (m : Int) ∧ Hid (∀ i, i < m → byt s (a + i) = byt s (b + i)) ∧ ∃ nn, wr = w.drewN nn) (fun v _ => most - (intOf v).toNat)
  case atStart => exact ⟨0, by omega, rfl, fun i hi => by omega, 0, rfl⟩
  case round =>
    obtain ⟨m, hm, rfl, HE, nn, rfl⟩ := hrel
    by_cases hlt : m < most
    · have g1 : decide ((m : Int) < (most : Int)) = true := by simp; omega
      obtain ⟨x, hx⟩ : ∃ x, x = a + m := ⟨_, rfl⟩
      obtain ⟨y, hy⟩ : ∃ y, y = b + m := ⟨_, rfl⟩
      have zx : (a : Int) + (m : Int) = (x : Int) := by omega
      have zy : (b : Int) + (m : Int) = (y : Int) := by omega
      have hxl : x < s.size := by omega
      have hyl : y < s.size := by omega
      have hxi : (x : Int) < (s.size : Int) := by omega
      have hyi : (y : Int) < (s.size : Int) := by omega
      have hx3 : x ≤ 300000 := by omega
      have hy3 : y ≤ 300000 := by omega
      have ex := byt_at s x hxl
      have ey := byt_at s y hyl
      have HX := hide hx
      have HY := hide hy
      have HEX := hide ex
      have HEY := hide ey
      clear hx hy ex ey
      by_cases he : s[x].toNat = s[y].toNat
      · have g2 : ((s[x].toNat : Int) == (s[y].toNat : Int)) = true := by rw [he]; simp
        have HN : Hid (∀ i, i < m + 1 → byt s (a + i) = byt s (b + i)) := fun i hi => by
          by_cases e : i = m
          · subst e; rw [← unhide HX, ← unhide HY, unhide HEX, unhide HEY, he]
          · exact unhide HE i (by omega)
        clear he
        go_wp2
        go_quiet (fail)
        go_wp2
        go_roundw
        case rel => exact ⟨m + 1, by omega, by go_num, HN, _, rfl⟩
        case measure => simp [intOf]; omega
      · have g2 : ((s[x].toNat : Int) == (s[y].toNat : Int)) = false := by simp; omega
        have HC : Hid (IsCl (byt s) a b most m) := ⟨hm, unhide HE, fun _ => by rw [← unhide HX, ← unhide HY, unhide HEX, unhide HEY]; exact he⟩
        clear he
        go_wp2
        go_quiet (fail)
        go_wp2
        go_ret
        exact ⟨m, rfl, unhide HC, _, World.drewN_drewN _ _ _⟩
    · have : m = most := by omega
      subst this
      have g1 : decide ((m : Int) < (m : Int)) = false := by simp
      have HC : Hid (IsCl (byt s) a b m m) := ⟨hm, unhide HE, fun h => absurd h (by omega)⟩
      go_wp2
      go_quiet (fail)
      go_wp2
      go_ret
      exact ⟨m, rfl, unhide HC, _, World.drewN_drewN _ _ _⟩

theorem results_cellK {fn : Func} {p : Tmp} {ty : TypeId} (h : fn.results = #[.cell p ty]) (tmps : Array Value) (P : Program) (w : World) :
    (results fn tmps).run P w = ((asAddr (tmps.getD p undef)).run P w).andThen fun a w₁ => (loadVar ty a).run P w₁ := by
  simp only [results, h]
  simp [Sem.run_bind, Result.andThen]

set_option maxHeartbeats 8000000 in
set_option maxRecDepth 100000 in
theorem key_any (c a : Nat) (s : ByteArray) (w : World) (c0 : w.cell? ⟨c, 0, none⟩ = some (.string s)) (hs : s.size ≤ 300000) (ha : a + 3 ≤ s.size) :
    Calls Tryz.prog 34 #[.pointer (some ⟨c, 0, none⟩), .int .i64 (a : Int)] w fun e w' => e = .returned (keyV (byt s a) (byt s (a + 1)) (byt s (a + 2))) ∧ Below w.heap.size w w' := by
  obtain ⟨b, hb⟩ : ∃ b, b = a + 1 := ⟨_, rfl⟩
  obtain ⟨d, hd⟩ : ∃ d, d = a + 2 := ⟨_, rfl⟩
  have zb : (a : Int) + 1 = (b : Int) := by omega
  have zd : (a : Int) + 2 = (d : Int) := by omega
  have wb : IntKind.i64.wrap (b : Int) = (b : Int) := by rw [IntKind.wrap_i64]; omega
  have wd : IntKind.i64.wrap (d : Int) = (d : Int) := by rw [IntKind.wrap_i64]; omega
  have hal : a < s.size := by omega
  have hbl : b < s.size := by omega
  have hdl : d < s.size := by omega
  have hai : (a : Int) < (s.size : Int) := by omega
  have hbi : (b : Int) < (s.size : Int) := by omega
  have hdi : (d : Int) < (s.size : Int) := by omega
  rw [← hb, ← hd, byt_at s a hal, byt_at s b hbl, byt_at s d hdl]
  unfold keyV
  have HB : Hid (Below w.heap.size w (w.alloc (.cells #[.int .u8 (s[a].toNat : Int), .int .u8 (s[b].toNat : Int), .int .u8 (s[d].toNat : Int)] 67)).drew) := ((Below.refl _ _).alloc (Nat.le_refl _) _).drew
  have hcl := World.block_lt_of_cell? _ _ c0
  simp only at hcl
  have cA : (w.alloc (.cells #[.int .u8 0, .int .u8 0, .int .u8 0] 67)).drew.cell? ⟨c, 0, none⟩ = some (.string s) := ((((Below.refl w.heap.size w).alloc (Nat.le_refl _) (.cells #[.int .u8 0, .int .u8 0, .int .u8 0] 67)).drew).cell hcl).trans c0
  have hcn : c ≠ w.heap.size := by omega
  have HcA := hide cA
  have Hc0 := hide c0
  clear hb hd cA c0
  go_enter Tryz.func34, Tryz.ntmps34
  go_wp2_with fail
  refine wp_region_held_drew (S := fun w' => w'.cell? ⟨c, 0, none⟩ = some (.string s)) (by kernel_rfl) (unhide HcA) (fun hHeld => ?_)
  refine wpAnyH_take (i := 0) (v := .pointer (some ⟨c, 0, none⟩)) rfl (by kernel_rfl) (by kernel_rfl) (by kernel_rfl) (fun _ _ _ h => h) (Or.inl ⟨by rfl, ?_⟩) hHeld ?_
  · intro w' hSw
    go_simp
  simp only [Act.put, List.setIfInBounds_toArray]
  refine wpAnyH_take (i := 1) (v := .pointer (some ⟨c, 0, none⟩)) rfl (by kernel_rfl) (by kernel_rfl) (by kernel_rfl) (fun _ _ _ h => h) (Or.inl ⟨by rfl, ?_⟩) hHeld ?_
  · intro w' hSw
    go_simp
  simp only [Act.put]
  refine wpAnyH_take (i := 2) (v := .pointer (some ⟨c, 0, none⟩)) rfl (by kernel_rfl) (by kernel_rfl) (by kernel_rfl) (fun _ _ _ h => h) (Or.inl ⟨by rfl, ?_⟩) hHeld ?_
  · intro w' hSw
    go_simp
  simp only [Act.put]
  refine wpAnyH_take (i := 3) (v := .string s) rfl (by kernel_rfl) (by kernel_rfl) (by kernel_rfl) (fun _ _ _ h => h) (Or.inl ⟨by rfl, ?_⟩) hHeld ?_
  · intro w' hSw
    go_simp
  simp only [Act.put]
  refine wpAnyH_take (i := 4) (v := .int .i64 (a : Int)) rfl (by kernel_rfl) (by kernel_rfl) (by kernel_rfl) (fun _ _ _ h => h) (Or.inl ⟨by rfl, ?_⟩) hHeld ?_
  · intro w' hSw
    go_simp
  simp only [Act.put]
  refine wpAnyH_take (i := 5) (v := .int .u8 (s[a].toNat : Int)) rfl (by kernel_rfl) (by kernel_rfl) (by kernel_rfl) (fun _ _ _ h => h) (Or.inl ⟨by rfl, ?_⟩) hHeld ?_
  · intro w' hSw
    go_simp
  simp only [Act.put]
  refine wpAnyH_take (i := 6) (v := .pointer (some ⟨c, 0, none⟩)) rfl (by kernel_rfl) (by kernel_rfl) (by kernel_rfl) (fun _ _ _ h => h) (Or.inl ⟨by rfl, ?_⟩) hHeld ?_
  · intro w' hSw
    go_simp
  simp only [Act.put]
  refine wpAnyH_take (i := 7) (v := .pointer (some ⟨c, 0, none⟩)) rfl (by kernel_rfl) (by kernel_rfl) (by kernel_rfl) (fun _ _ _ h => h) (Or.inl ⟨by rfl, ?_⟩) hHeld ?_
  · intro w' hSw
    go_simp
  simp only [Act.put]
  refine wpAnyH_take (i := 8) (v := .pointer (some ⟨c, 0, none⟩)) rfl (by kernel_rfl) (by kernel_rfl) (by kernel_rfl) (fun _ _ _ h => h) (Or.inl ⟨by rfl, ?_⟩) hHeld ?_
  · intro w' hSw
    go_simp
  simp only [Act.put]
  refine wpAnyH_take (i := 9) (v := .string s) rfl (by kernel_rfl) (by kernel_rfl) (by kernel_rfl) (fun _ _ _ h => h) (Or.inl ⟨by rfl, ?_⟩) hHeld ?_
  · intro w' hSw
    go_simp
  simp only [Act.put]
  refine wpAnyH_take (i := 10) (v := .int .i64 (a : Int)) rfl (by kernel_rfl) (by kernel_rfl) (by kernel_rfl) (fun _ _ _ h => h) (Or.inl ⟨by rfl, ?_⟩) hHeld ?_
  · intro w' hSw
    go_simp
  simp only [Act.put]
  refine wpAnyH_take (i := 11) (v := .int .i64 (b : Int)) rfl (by kernel_rfl) (by kernel_rfl) (by kernel_rfl) (fun _ _ _ h => h) (Or.inl ⟨by rfl, ?_⟩) hHeld ?_
  · intro w' hSw
    go_simp
  simp only [Act.put]
  refine wpAnyH_take (i := 12) (v := .int .u8 (s[b].toNat : Int)) rfl (by kernel_rfl) (by kernel_rfl) (by kernel_rfl) (fun _ _ _ h => h) (Or.inl ⟨by rfl, ?_⟩) hHeld ?_
  · intro w' hSw
    go_simp
  simp only [Act.put]
  refine wpAnyH_take (i := 13) (v := .pointer (some ⟨c, 0, none⟩)) rfl (by kernel_rfl) (by kernel_rfl) (by kernel_rfl) (fun _ _ _ h => h) (Or.inl ⟨by rfl, ?_⟩) hHeld ?_
  · intro w' hSw
    go_simp
  simp only [Act.put]
  refine wpAnyH_take (i := 14) (v := .pointer (some ⟨c, 0, none⟩)) rfl (by kernel_rfl) (by kernel_rfl) (by kernel_rfl) (fun _ _ _ h => h) (Or.inl ⟨by rfl, ?_⟩) hHeld ?_
  · intro w' hSw
    go_simp
  simp only [Act.put]
  refine wpAnyH_take (i := 15) (v := .pointer (some ⟨c, 0, none⟩)) rfl (by kernel_rfl) (by kernel_rfl) (by kernel_rfl) (fun _ _ _ h => h) (Or.inl ⟨by rfl, ?_⟩) hHeld ?_
  · intro w' hSw
    go_simp
  simp only [Act.put]
  refine wpAnyH_take (i := 16) (v := .string s) rfl (by kernel_rfl) (by kernel_rfl) (by kernel_rfl) (fun _ _ _ h => h) (Or.inl ⟨by rfl, ?_⟩) hHeld ?_
  · intro w' hSw
    go_simp
  simp only [Act.put]
  refine wpAnyH_take (i := 17) (v := .int .i64 (a : Int)) rfl (by kernel_rfl) (by kernel_rfl) (by kernel_rfl) (fun _ _ _ h => h) (Or.inl ⟨by rfl, ?_⟩) hHeld ?_
  · intro w' hSw
    go_simp
  simp only [Act.put]
  refine wpAnyH_take (i := 18) (v := .int .i64 (d : Int)) rfl (by kernel_rfl) (by kernel_rfl) (by kernel_rfl) (fun _ _ _ h => h) (Or.inl ⟨by rfl, ?_⟩) hHeld ?_
  · intro w' hSw
    go_simp
  simp only [Act.put]
  refine wpAnyH_take (i := 19) (v := .int .u8 (s[d].toNat : Int)) rfl (by kernel_rfl) (by kernel_rfl) (by kernel_rfl) (fun _ _ _ h => h) (Or.inl ⟨by rfl, ?_⟩) hHeld ?_
  · intro w' hSw
    go_simp
  simp only [Act.put]
  refine wpAnyH_take (i := 20) (v := .agg #[.int .u8 (s[a].toNat : Int), .int .u8 (s[b].toNat : Int), .int .u8 (s[d].toNat : Int)]) rfl (by kernel_rfl) (by kernel_rfl) (by kernel_rfl) (fun _ _ _ h => h) (Or.inl ⟨by rfl, ?_⟩) hHeld ?_
  · intro w' hSw
    go_simp
  simp only [Act.put]
  refine wpAnyH_ready (rs := [21]) (by kernel_rfl) (by simp) ?_
  refine AllReadyH.cons rfl (fun K hK => ?_) AllReadyH.nil
  go_simp
  have cE : (w.alloc (.cells #[.int .u8 (s[a].toNat : Int), .int .u8 (s[b].toNat : Int), .int .u8 (s[d].toNat : Int)] 67)).drew.cell? ⟨c, 0, none⟩ = some (.string s) := ((unhide HB).cell hcl).trans (unhide Hc0)
  refine hK.out _ _ cE (fun hHeld => ?_)
  clear hK K
  refine wpAnyH_done (by kernel_rfl) ?_ _
  go_wp2
  refine bodyPost_ret (v := .agg #[.int .u8 (s[a].toNat : Int), .int .u8 (s[b].toNat : Int), .int .u8 (s[d].toNat : Int)]) ?_ rfl ⟨rfl, unhide HB⟩
  rw [results_cellK (p := 4) (ty := 67) (by kernel_rfl)]
  go_simp
end Go.Proofs.YtfeljhikeddodaeGreatDoor
namespace Go.Proofs.YtfeljhikeddodaeGreatDoor
open Go.RowKit Mm

/-- What stands at the j-th place of the row of places before, once a places are in. -/
def befN (s : ByteArray) (a j : Nat) : Nat := if j < a ∧ j + 3 ≤ s.size then prev (byt s) s.size (keyAt (byt s) j) j else 0
/-- The chains in memory, a places in. -/
structure CH (w : World) (c bm gb : Nat) (s : ByteArray) (win a : Nat) : Prop where
  c0 : w.cell? ⟨c, 0, none⟩ = some (.string s)
  c1 : w.cell? ⟨c, 1, none⟩ = some (.int .i64 (win : Int))
  c2 : w.cell? ⟨c, 2, none⟩ = some (.int .i64 (trs s.size : Int))
  c3 : w.cell? ⟨c, 3, none⟩ = some (.map (some bm))
  c4 : w.cell? ⟨c, 4, none⟩ = some (.slice (some ⟨gb, 0, none⟩) s.size s.size)
  map : ∃ nn, nn ≤ a ∧ LM w bm nn (fun x y z => prev (byt s) s.size (x, y, z) a)
  row : ∀ j, j < s.size → w.cell? ⟨gb, j, none⟩ = some (.int .i64 (befN s a j : Int)) ∧ w.frozen? ⟨gb, j, none⟩ = false
  ne1 : c ≠ bm
  ne2 : c ≠ gb
  ne3 : bm ≠ gb
  lt : gb < w.heap.size

theorem info_i64m : (Tryz.prog.info? 3).map (fun i => (i.zero, i.size, i.bytes)) = some (some (.int .i64 0), 1, 8) := by kernel_rfl
theorem make_ints (n : Nat) (h : n ≤ 20000) (w : World) : (Instr.makeSlice 60 (.int .i64 (n : Int)) (.int .i64 (n : Int))).run Tryz.prog w = .ok (.slice (some ⟨w.heap.size, 0, none⟩) n n) (w.alloc (.cells (madeCells #[.int .i64 0] n) 3)) :=
  run_make_row' (P := Tryz.prog) 60 3 (.int .i64 0) 8 Tryz.underlying60 info_i64m rfl .i64 .i64 n (by omega) (by omega) w
theorem made_at (n j : Nat) (h : j < n) : (madeCells #[.int .i64 0] n)[j]? = some (.int .i64 0) := by
  have e := toList_madeCells_one (.int .i64 0) n
  have : (madeCells #[.int .i64 0] n).toList[j]? = some (.int .i64 0) := by rw [e, List.getElem?_replicate, if_pos h]
  simpa using this

theorem LM.blank {w : World} {bm : Nat} (h : w.heap[bm]? = some (.map #[] 0)) : LM w bm 0 (fun _ _ _ => 0) := by
  obtain ⟨D, ⟨es, clock, h1, h2, h3, h4⟩, h5⟩ := LM.made w
  have e : (w.alloc (.map #[] 0)).heap[w.heap.size]? = some (.map #[] 0) := heap_alloc_new w _
  rw [e] at h1
  injection h1 with h1
  injection h1 with e1 e2
  subst e1 e2
  exact ⟨D, ⟨_, _, h, h2, h3, h4⟩, h5⟩

theorem CH.made {w : World} {c bm gb : Nat} (s : ByteArray) (win : Nat) (h0 : w.heap[c]? = some (.cells #[.string s, .int .i64 (win : Int), .int .i64 (trs s.size : Int), .map (some bm), .slice (some ⟨gb, 0, none⟩) s.size s.size] 62 (0, 0)))
    (h1 : w.heap[bm]? = some (.map #[] 0)) (h2 : w.heap[gb]? = some (.cells (madeCells #[.int .i64 0] s.size) 3 (0, 0))) (n1 : c ≠ bm) (n2 : c ≠ gb) (n3 : bm ≠ gb) : CH w c bm gb s win 0 := by
  have hlt : gb < w.heap.size := by
    rcases Nat.lt_or_ge gb w.heap.size with q | q
    · exact q
    · simp [Array.getElem?_eq_none q] at h2
  refine ⟨by simp [World.cell?, h0], by simp [World.cell?, h0], by simp [World.cell?, h0], by simp [World.cell?, h0], by simp [World.cell?, h0], ⟨0, Nat.le_refl _, LM.blank h1⟩, fun j hj => ⟨?_, ?_⟩, n1, n2, n3, hlt⟩
  · simp only [World.cell?, h2]
    show (madeCells #[.int .i64 0] s.size)[j]? = _
    rw [made_at _ _ hj]
    simp [befN]
  · simp [World.frozen?, h2]

theorem three_heap (w : World) (x y z : Obj) : (((w.alloc x).alloc y).alloc z).heap[w.heap.size]? = some x ∧ (((w.alloc x).alloc y).alloc z).heap[w.heap.size + 1]? = some y ∧ (((w.alloc x).alloc y).alloc z).heap[w.heap.size + 1 + 1]? = some z := by
  have s1 : (w.alloc x).heap.size = w.heap.size + 1 := by simp
  have s2 : ((w.alloc x).alloc y).heap.size = w.heap.size + 1 + 1 := by simp
  refine ⟨?_, ?_, ?_⟩
  · rw [Below.heap_alloc _ _ _ (by rw [s2]; omega), Below.heap_alloc _ _ _ (by rw [s1]; omega)]
    exact heap_alloc_new w x
  · rw [Below.heap_alloc _ _ _ (by rw [s2]; omega), ← s1]
    exact heap_alloc_new _ y
  · rw [← s2]
    exact heap_alloc_new _ z

set_option maxHeartbeats 4000000 in
set_option maxRecDepth 100000 in
theorem newChains_any (s : ByteArray) (win : Nat) (w : World) (hs : s.size ≤ 20000) :
    Calls Tryz.prog 13 #[.string s, .int .i64 (win : Int)] w fun e w' => ∃ c bm gb, e = .returned (.pointer (some ⟨c, 0, none⟩)) ∧ CH w' c bm gb s win 0 ∧ Below w.heap.size w w' ∧ w.heap.size ≤ c ∧ w.heap.size ≤ bm ∧ w.heap.size ≤ gb := by
  have HT := hide (fun w => triesOf_any s w hs)
  have hmk := make_ints s.size hs
  have hmm := @run_makeMap Tryz.prog
  go_enter Tryz.func13, Tryz.ntmps13
  go_wp2_with fail
  go_region_with (first | (go_at_call 31; refine (unhide HT _).mono ?_; rintro e w1 ⟨rfl, rfl⟩))
  all_goals
    go_wp2
    go_ret
    first
    | (obtain ⟨h1, h2, h3⟩ := three_heap w (.map #[] 0) (.cells (madeCells #[.int .i64 0] s.size) 3) (.cells #[.string s, .int .i64 (win : Int), .int .i64 (trs s.size : Int), .map (some w.heap.size), .slice (some ⟨w.heap.size + 1, 0, none⟩) s.size s.size] 62)
       exact ⟨w.heap.size + 1 + 1, w.heap.size, w.heap.size + 1, rfl, CH.made s win h3 h1 h2 (by omega) (by omega) (by omega), (((Below.refl _ _).alloc (Nat.le_refl _) _).alloc (by simp) _).alloc (by simp; omega) _ |>.drew, by omega, by omega, by omega⟩)
    | (obtain ⟨h1, h2, h3⟩ := three_heap w (.cells (madeCells #[.int .i64 0] s.size) 3) (.map #[] 0) (.cells #[.string s, .int .i64 (win : Int), .int .i64 (trs s.size : Int), .map (some (w.heap.size + 1)), .slice (some ⟨w.heap.size, 0, none⟩) s.size s.size] 62)
       exact ⟨w.heap.size + 1 + 1, w.heap.size + 1, w.heap.size, rfl, CH.made s win h3 h2 h1 (by omega) (by omega) (by omega), (((Below.refl _ _).alloc (Nat.le_refl _) _).alloc (by simp) _).alloc (by simp; omega) _ |>.drew, by omega, by omega, by omega⟩)
end Go.Proofs.YtfeljhikeddodaeGreatDoor
namespace Go.Proofs.YtfeljhikeddodaeGreatDoor
open Go.RowKit Mm

theorem LM.same {w w' : World} {bm nn : Nat} {f : Nat → Nat → Nat → Nat} (h : LM w bm nn f) (hb : w'.heap[bm]? = w.heap[bm]?) : LM w' bm nn f := by
  obtain ⟨D, ⟨es, clock, h1, r⟩, h5⟩ := h
  exact ⟨D, ⟨es, clock, hb.trans h1, r⟩, h5⟩
theorem LM.congr {w : World} {bm nn : Nat} {f g : Nat → Nat → Nat → Nat} (h : LM w bm nn f) (he : ∀ x y z, f x y z = g x y z) : LM w bm nn g := by
  have : f = g := funext fun x => funext fun y => funext fun z => he x y z
  rw [← this]; exact h
theorem CH.ltc {w : World} {c bm gb : Nat} {s : ByteArray} {win a : Nat} (h : CH w c bm gb s win a) : c < w.heap.size := World.block_lt_of_cell? _ _ h.c0
theorem CH.ltm {w : World} {c bm gb : Nat} {s : ByteArray} {win a : Nat} (h : CH w c bm gb s win a) : bm < w.heap.size := by
  obtain ⟨nn, _, hm⟩ := h.map
  exact hm.lt
/-- What is not changed. -/
theorem CH.keep {w w' : World} {c bm gb : Nat} {s : ByteArray} {win a : Nat} (h : CH w c bm gb s win a) (h1 : w'.heap[c]? = w.heap[c]?) (h2 : w'.heap[bm]? = w.heap[bm]?) (h3 : w'.heap[gb]? = w.heap[gb]?) (hs : w.heap.size ≤ w'.heap.size) : CH w' c bm gb s win a := by
  have e : ∀ j, w'.cell? ⟨c, j, none⟩ = w.cell? ⟨c, j, none⟩ := fun j => World.cell?_of_block h1
  obtain ⟨nn, hn, hm⟩ := h.map
  exact ⟨(e 0).trans h.c0, (e 1).trans h.c1, (e 2).trans h.c2, (e 3).trans h.c3, (e 4).trans h.c4, ⟨nn, hn, hm.same h2⟩, fun j hj => ⟨(World.cell?_of_block (a := ⟨gb, j, none⟩) h3).trans (h.row j hj).1, (World.frozen?_of_block (a := ⟨gb, j, none⟩) h3).trans (h.row j hj).2⟩, h.ne1, h.ne2, h.ne3, by have := h.lt; omega⟩
theorem CH.below {w w' : World} {c bm gb : Nat} {s : ByteArray} {win a : Nat} (h : CH w c bm gb s win a) (hb : Below w.heap.size w w') : CH w' c bm gb s win a :=
  h.keep (hb.block c h.ltc) (hb.block bm h.ltm) (hb.block gb h.lt) hb.size

theorem befN_in (s : ByteArray) (a j : Nat) (h : j ≠ a) : befN s (a + 1) j = befN s a j := by
  unfold befN
  by_cases q : j < a
  · have : j < a + 1 := by omega
    simp [q, this]
  · have : ¬ j < a + 1 := by omega
    simp [q, this]
theorem befN_at (s : ByteArray) (a : Nat) (h : a + 3 ≤ s.size) : befN s (a + 1) a = prev (byt s) s.size (keyAt (byt s) a) a := by
  unfold befN
  rw [if_pos ⟨by omega, h⟩]
theorem befN_no (s : ByteArray) (a j : Nat) (h : s.size < a + 3) : befN s (a + 1) j = befN s a j := by
  by_cases q : j = a
  · subst q
    unfold befN
    rw [if_neg (by omega), if_neg (by omega)]
  · exact befN_in s a j q
theorem prev_no (s : ByteArray) (a : Nat) (k : Nat × Nat × Nat) (h : s.size < a + 3) : prev (byt s) s.size k (a + 1) = prev (byt s) s.size k a := by
  rw [prev, if_neg (fun q => by omega)]
theorem prev_yes (s : ByteArray) (a x y z : Nat) (h : a + 3 ≤ s.size) : prev (byt s) s.size (x, y, z) (a + 1) = if x = byt s a ∧ y = byt s (a + 1) ∧ z = byt s (a + 2) then a + 1 else prev (byt s) s.size (x, y, z) a := by
  rw [prev]
  by_cases q : x = byt s a ∧ y = byt s (a + 1) ∧ z = byt s (a + 2)
  · rw [if_pos q, if_pos ⟨h, by unfold keyAt; rw [q.1, q.2.1, q.2.2]⟩]
  · rw [if_neg q, if_neg]
    rintro ⟨_, e⟩
    unfold keyAt at e
    injection e with e1 e2
    injection e2 with e2 e3
    exact q ⟨e1.symm, e2.symm, e3.symm⟩

theorem add_no (c bm gb win a : Nat) (s : ByteArray) (w : World) (h : CH w c bm gb s win a) (hs : s.size ≤ 20000) (ha : a ≤ s.size) (hn : s.size < a + 3) :
    Calls Tryz.prog 16 #[.pointer (some ⟨c, 0, none⟩), .int .i64 (a : Int)] w fun e w' => e = .returned (.tuple #[]) ∧ CH w' c bm gb s win (a + 1) ∧ But (fun k => k = bm ∨ k = gb) w w' := by
  have HB := hide (begins_any c a s w h.c0 (by omega) ha)
  rw [decide_eq_false (by omega)] at HB
  have HC : Hid (CH w c bm gb s win (a + 1)) := by
    obtain ⟨nn, hn2, hm⟩ := h.map
    exact ⟨h.c0, h.c1, h.c2, h.c3, h.c4, ⟨nn, by omega, hm.congr (fun x y z => (prev_no s a (x, y, z) hn).symm)⟩, fun j hj => by rw [befN_no s a j hn]; exact h.row j hj, h.ne1, h.ne2, h.ne3, h.lt⟩
  clear h
  go_enter Tryz.func16, Tryz.ntmps16
  go_wp2_with fail
  refine (unhide HB).mono ?_; rintro e w1 ⟨rfl, rfl⟩
  go_wp2
  refine bodyPost_ret (results_none rfl _ _ _) rfl ?_
  exact ⟨rfl, unhide HC, But.refl _ _⟩

theorem three_newM (w : World) (x y z : Value) (t : TypeId) : (w.alloc (.cells #[x, y, z] t)).cell? ⟨w.heap.size, 0, none⟩ = some x ∧ (w.alloc (.cells #[x, y, z] t)).cell? ⟨w.heap.size, 1, none⟩ = some y ∧ (w.alloc (.cells #[x, y, z] t)).cell? ⟨w.heap.size, 2, none⟩ = some z := by simp

set_option maxHeartbeats 4000000 in
set_option maxRecDepth 100000 in
theorem add_yes (c bm gb win a : Nat) (s : ByteArray) (w : World) (h : CH w c bm gb s win a) (hs : s.size ≤ 20000) (hn : a + 3 ≤ s.size) :
    Calls Tryz.prog 16 #[.pointer (some ⟨c, 0, none⟩), .int .i64 (a : Int)] w fun e w' => e = .returned (.tuple #[]) ∧ CH w' c bm gb s win (a + 1) ∧ But (fun k => k = bm ∨ k = gb) w w' := by
  have HB := hide (begins_any c a s w h.c0 (by omega) (by omega))
  rw [decide_eq_true hn] at HB
  have HK := hide (key_any c a s w h.c0 (by omega) hn)
  obtain ⟨x, hx⟩ : ∃ x, x = byt s a := ⟨_, rfl⟩
  obtain ⟨y, hy⟩ : ∃ y, y = byt s (a + 1) := ⟨_, rfl⟩
  obtain ⟨z, hz⟩ : ∃ z, z = byt s (a + 2) := ⟨_, rfl⟩
  have hxl : x < 256 := by rw [hx]; exact byt_lt _ _
  have hyl : y < 256 := by rw [hy]; exact byt_lt _ _
  have hzl : z < 256 := by rw [hz]; exact byt_lt _ _
  rw [← hx, ← hy, ← hz] at HK
  have Hx := hide hx
  have Hy := hide hy
  have Hz := hide hz
  have HC := hide h
  have hal : a < s.size := by omega
  have hai : (a : Int) < (s.size : Int) := by omega
  unfold keyV at HK
  clear h hx hy hz
  go_enter Tryz.func16, Tryz.ntmps16
  go_wp2_with fail
  refine (unhide HB).mono ?_; rintro e w0 ⟨rfl, rfl⟩
  go_wp2_with fail
  refine (unhide HK).mono ?_; rintro e w1 ⟨rfl, hb1⟩
  have hC1 := (unhide HC).below hb1
  obtain ⟨k0, k1, k2⟩ := three_newM w1 (.int .u8 (x : Int)) (.int .u8 (y : Int)) (.int .u8 (z : Int)) 67
  have hb2 : Below w1.heap.size w1 (w1.alloc (.cells #[.int .u8 (x : Int), .int .u8 (y : Int), .int .u8 (z : Int)] 67)) := (Below.refl _ _).alloc (Nat.le_refl _) _
  have hC2 := hC1.below hb2
  have hBu : But (fun k => k = bm ∨ k = gb) w0 (w1.alloc (.cells #[.int .u8 (x : Int), .int .u8 (y : Int), .int .u8 (z : Int)] 67)) := (((But.refl _ _).of_below hb1 (fun k h1 h2 => by omega))).alloc _
  have hkc : c ≠ w1.heap.size := by have := hC1.ltc; omega
  have hkm : bm ≠ w1.heap.size := by have := hC1.ltm; omega
  have hkg : gb ≠ w1.heap.size := by have := hC1.lt; omega
  have HBU := hide hBu
  have HC2 := hide hC2
  clear hC1 hb1 hb2 hC2 hBu HB HK HC
  go_wp2_with fail
  generalize w1.alloc (.cells #[.int .u8 (x : Int), .int .u8 (y : Int), .int .u8 (z : Int)] 67) = w2 at *
  generalize w1.heap.size = kb at *
  obtain ⟨nn, hnn, hM⟩ := (unhide HC2).map
  obtain ⟨v, hv⟩ : ∃ v, v = prev (byt s) s.size (x, y, z) a := ⟨_, rfl⟩
  have hvl : v ≤ a := by rw [hv]; exact prev_le _ _
  have hlk0 := hM.look x y z hxl hyl hzl
  rw [← hv] at hlk0
  unfold keyV at hlk0
  have hr0 := (unhide HC2).row a hal
  have s30 := (unhide HC2).c3
  have s40 := (unhide HC2).c4
  have hne2 := (unhide HC2).ne2
  have hne3 := (unhide HC2).ne3
  have hgs : ∀ u, (w2.setCell ⟨gb, a, none⟩ u).heap[bm]? = w2.heap[bm]? := fun u => Below.heap_setCell _ _ _ _ (fun e => hne3 (by exact e))
  have HM := hide hM
  have Hv := hide hv
  have HR := hide hr0
  have hrd : w2.drew.cell? ⟨gb, a, none⟩ = some (.int .i64 (befN s a a : Int)) := hr0.1
  have hrf : w2.drew.frozen? ⟨gb, a, none⟩ = false := hr0.2
  clear hM hv hr0
  have hlkd : (Instr.lookup 59 (.map (some bm)) (.agg #[.int .u8 (x : Int), .int .u8 (y : Int), .int .u8 (z : Int)]) false).run Tryz.prog w2.drew = .ok (.int .i64 (v : Int)) w2.drew := by
    have hM2 : LM w2.drew bm nn (fun x y z => prev (byt s) s.size (x, y, z) a) := (unhide HM).same rfl
    have := hM2.look x y z hxl hyl hzl
    rw [← unhide Hv] at this
    exact this
  refine wp_region_held_drew (S := fun w' => w'.cell? ⟨c, 3, none⟩ = some (.map (some bm)) ∧ w'.cell? ⟨c, 4, none⟩ = some (.slice (some ⟨gb, 0, none⟩) s.size s.size) ∧ w'.cell? ⟨kb, 0, none⟩ = some (.int .u8 (x : Int)) ∧ w'.cell? ⟨kb, 1, none⟩ = some (.int .u8 (y : Int)) ∧ w'.cell? ⟨kb, 2, none⟩ = some (.int .u8 (z : Int)) ∧ (Instr.lookup 59 (.map (some bm)) (.agg #[.int .u8 (x : Int), .int .u8 (y : Int), .int .u8 (z : Int)]) false).run Tryz.prog w' = .ok (.int .i64 (v : Int)) w') (by kernel_rfl) ⟨s30, s40, k0, k1, k2, hlkd⟩ (fun hHeld => ?_)
  refine wpAnyH_take (i := 0) (v := .pointer (some ⟨c, 0, none⟩)) rfl (by kernel_rfl) (by kernel_rfl) (by kernel_rfl) (fun _ _ _ h => h) (Or.inl ⟨by rfl, ?_⟩) hHeld ?_
  · intro w' hSw
    obtain ⟨s3, s4, k0, k1, k2, hlk⟩ := hSw
    go_simp
  simp only [Act.put, List.setIfInBounds_toArray]
  refine wpAnyH_take (i := 1) (v := .pointer (some ⟨c, 0, none⟩)) rfl (by kernel_rfl) (by kernel_rfl) (by kernel_rfl) (fun _ _ _ h => h) (Or.inl ⟨by rfl, ?_⟩) hHeld ?_
  · intro w' hSw
    obtain ⟨s3, s4, k0, k1, k2, hlk⟩ := hSw
    go_simp
  simp only [Act.put]
  refine wpAnyH_take (i := 2) (v := .pointer (some ⟨c, 4, none⟩)) rfl (by kernel_rfl) (by kernel_rfl) (by kernel_rfl) (fun _ _ _ h => h) (Or.inl ⟨by rfl, ?_⟩) hHeld ?_
  · intro w' hSw
    obtain ⟨s3, s4, k0, k1, k2, hlk⟩ := hSw
    go_simp
  simp only [Act.put]
  refine wpAnyH_take (i := 3) (v := .slice (some ⟨gb, 0, none⟩) s.size s.size) rfl (by kernel_rfl) (by kernel_rfl) (by kernel_rfl) (fun _ _ _ h => h) (Or.inl ⟨by rfl, ?_⟩) hHeld ?_
  · intro w' hSw
    obtain ⟨s3, s4, k0, k1, k2, hlk⟩ := hSw
    go_simp
  simp only [Act.put]
  refine wpAnyH_take (i := 4) (v := .int .i64 (a : Int)) rfl (by kernel_rfl) (by kernel_rfl) (by kernel_rfl) (fun _ _ _ h => h) (Or.inl ⟨by rfl, ?_⟩) hHeld ?_
  · intro w' hSw
    obtain ⟨s3, s4, k0, k1, k2, hlk⟩ := hSw
    go_simp
  simp only [Act.put]
  refine wpAnyH_take (i := 5) (v := .pointer (some ⟨c, 0, none⟩)) rfl (by kernel_rfl) (by kernel_rfl) (by kernel_rfl) (fun _ _ _ h => h) (Or.inl ⟨by rfl, ?_⟩) hHeld ?_
  · intro w' hSw
    obtain ⟨s3, s4, k0, k1, k2, hlk⟩ := hSw
    go_simp
  simp only [Act.put]
  refine wpAnyH_take (i := 6) (v := .pointer (some ⟨c, 0, none⟩)) rfl (by kernel_rfl) (by kernel_rfl) (by kernel_rfl) (fun _ _ _ h => h) (Or.inl ⟨by rfl, ?_⟩) hHeld ?_
  · intro w' hSw
    obtain ⟨s3, s4, k0, k1, k2, hlk⟩ := hSw
    go_simp
  simp only [Act.put]
  refine wpAnyH_take (i := 7) (v := .pointer (some ⟨c, 3, none⟩)) rfl (by kernel_rfl) (by kernel_rfl) (by kernel_rfl) (fun _ _ _ h => h) (Or.inl ⟨by rfl, ?_⟩) hHeld ?_
  · intro w' hSw
    obtain ⟨s3, s4, k0, k1, k2, hlk⟩ := hSw
    go_simp
  simp only [Act.put]
  refine wpAnyH_take (i := 8) (v := .map (some bm)) rfl (by kernel_rfl) (by kernel_rfl) (by kernel_rfl) (fun _ _ _ h => h) (Or.inl ⟨by rfl, ?_⟩) hHeld ?_
  · intro w' hSw
    obtain ⟨s3, s4, k0, k1, k2, hlk⟩ := hSw
    go_simp
  simp only [Act.put, List.getElem_toArray, List.getElem_cons_succ, List.getElem_cons_zero]
  refine wpAnyH_take (i := 9) (v := .agg #[.int .u8 (x : Int), .int .u8 (y : Int), .int .u8 (z : Int)]) rfl (by kernel_rfl) (by kernel_rfl) (by kernel_rfl) (fun _ _ _ h => h) (Or.inl ⟨by rfl, ?_⟩) hHeld ?_
  · intro w' hSw
    obtain ⟨s3, s4, k0, k1, k2, hlk⟩ := hSw
    go_simp
  simp only [Act.put, List.getElem_toArray, List.getElem_cons_succ, List.getElem_cons_zero]
  refine wpAnyH_take (i := 10) (v := .int .i64 (v : Int)) rfl (by kernel_rfl) (by kernel_rfl) (by kernel_rfl) (fun _ _ _ h => h) (Or.inl ⟨by rfl, ?_⟩) hHeld ?_
  · intro w' hSw
    obtain ⟨s3, s4, k0, k1, k2, hlk⟩ := hSw
    go_simp
  simp only [Act.put, List.getElem_toArray, List.getElem_cons_succ, List.getElem_cons_zero]
  refine wpAnyH_take (i := 11) (v := .pointer (some ⟨gb, a, none⟩)) rfl (by kernel_rfl) (by kernel_rfl) (by kernel_rfl) (fun _ _ _ h => h) (Or.inl ⟨by rfl, ?_⟩) hHeld ?_
  · intro w' hSw
    obtain ⟨s3, s4, k0, k1, k2, hlk⟩ := hSw
    go_simp
  simp only [Act.put, List.getElem_toArray, List.getElem_cons_succ, List.getElem_cons_zero]
  refine wpAnyH_ready (rs := [12]) (by kernel_rfl) (by simp) ?_
  refine AllReadyH.cons rfl (fun K hK => ?_) AllReadyH.nil
  go_simp
  have hX3 : LM (w2.setCell ⟨gb, a, none⟩ (.int .i64 (v : Int))).drew bm nn (fun x y z => prev (byt s) s.size (x, y, z) a) := (unhide HM).same (hgs _)
  have hXc : ∀ q j, q ≠ gb → (w2.setCell ⟨gb, a, none⟩ (.int .i64 (v : Int))).drew.cell? ⟨q, j, none⟩ = w2.cell? ⟨q, j, none⟩ := fun q j hq => World.cell?_of_block (Below.heap_setCell _ _ _ _ (fun e => hq (by exact e)))
  have hlk3 : (Instr.lookup 59 (.map (some bm)) (.agg #[.int .u8 (x : Int), .int .u8 (y : Int), .int .u8 (z : Int)]) false).run Tryz.prog (w2.setCell ⟨gb, a, none⟩ (.int .i64 (v : Int))).drew = .ok (.int .i64 (v : Int)) (w2.setCell ⟨gb, a, none⟩ (.int .i64 (v : Int))).drew := by
    have := hX3.look x y z hxl hyl hzl
    rw [← unhide Hv] at this
    exact this
  refine hK.out _ _ ⟨(hXc c 3 hne2).trans s30, (hXc c 4 hne2).trans s40, (hXc kb 0 (Ne.symm hkg)).trans k0, (hXc kb 1 (Ne.symm hkg)).trans k1, (hXc kb 2 (Ne.symm hkg)).trans k2, hlk3⟩ (fun hHeld => ?_)
  clear hK K
  refine wpAnyH_done (by kernel_rfl) ?_ _
  obtain ⟨m3, _, m0, m1, m2, _⟩ := hHeld
  have HX3 := hide hX3
  have hx0 : (w2.setCell ⟨gb, a, none⟩ (.int .i64 (v : Int))).drew.cell? ⟨gb, a, none⟩ = some (.int .i64 (v : Int)) := by
    have hrc : w2.cell? ⟨gb, a, none⟩ = some (.int .i64 (befN s a a : Int)) := (unhide HR).1
    simp [go_sem, hrc]
  have hxo : ∀ j, j ≠ a → (w2.setCell ⟨gb, a, none⟩ (.int .i64 (v : Int))).drew.cell? ⟨gb, j, none⟩ = w2.cell? ⟨gb, j, none⟩ := fun j hj => World.cell?_setCell_other _ _ _ _ (fun e => hj (by injection e with _ e; exact e.symm))
  have hxf : ∀ j, (w2.setCell ⟨gb, a, none⟩ (.int .i64 (v : Int))).drew.frozen? ⟨gb, j, none⟩ = w2.frozen? ⟨gb, j, none⟩ := fun j => by simp [go_sem]
  have hxs : w2.heap.size = (w2.setCell ⟨gb, a, none⟩ (.int .i64 (v : Int))).drew.heap.size := by simp [World.setCell]
  have HBU3 := hide ((unhide HBU).setCell (p := ⟨gb, a, none⟩) (.inr rfl) (.int .i64 (v : Int))).drew
  have HX0 := hide hx0
  have HXO := hide hxo
  have HXF := hide hxf
  have HXC := hide hXc
  clear hlk3 hlkd hlk0 hrd hrf hX3 hx0 hxo hxf hXc hgs s30 s40 k0 k1 k2
  generalize (w2.setCell ⟨gb, a, none⟩ (.int .i64 (v : Int))).drew = w3 at *
  obtain ⟨a1, ha1⟩ : ∃ a1, a1 = a + 1 := ⟨_, rfl⟩
  have za1 : (a : Int) + 1 = (a1 : Int) := by omega
  have wa1 : IntKind.i64.wrap (a1 : Int) = (a1 : Int) := by rw [IntKind.wrap_i64]; omega
  have hM4 : LM w3.drew bm nn (fun x y z => prev (byt s) s.size (x, y, z) a) := (unhide HX3).same rfl
  obtain ⟨w4, hput, hM5, hgr4⟩ := hM4.put x y z a1 hxl hyl hzl (by omega) (by omega)
  unfold keyV at hput
  have HM5 := hide hM5
  have HG4 := hide hgr4
  have Ha1 := hide ha1
  clear hM4 hM5 hgr4 ha1
  go_wp2_with fail
  refine wp_region_held_drew (S := fun w' => w'.cell? ⟨c, 3, none⟩ = some (.map (some bm)) ∧ w'.cell? ⟨kb, 0, none⟩ = some (.int .u8 (x : Int)) ∧ w'.cell? ⟨kb, 1, none⟩ = some (.int .u8 (y : Int)) ∧ w'.cell? ⟨kb, 2, none⟩ = some (.int .u8 (z : Int))) (by kernel_rfl) ⟨m3, m0, m1, m2⟩ (fun hHeld => ?_)
  refine wpAnyH_take (i := 0) (v := .pointer (some ⟨c, 0, none⟩)) rfl (by kernel_rfl) (by kernel_rfl) (by kernel_rfl) (fun _ _ _ h => h) (Or.inl ⟨by rfl, ?_⟩) hHeld ?_
  · intro w' hSw
    obtain ⟨s3, k0, k1, k2⟩ := hSw
    go_simp
  simp only [Act.put, List.setIfInBounds_toArray]
  refine wpAnyH_take (i := 1) (v := .pointer (some ⟨c, 0, none⟩)) rfl (by kernel_rfl) (by kernel_rfl) (by kernel_rfl) (fun _ _ _ h => h) (Or.inl ⟨by rfl, ?_⟩) hHeld ?_
  · intro w' hSw
    obtain ⟨s3, k0, k1, k2⟩ := hSw
    go_simp
  simp only [Act.put]
  refine wpAnyH_take (i := 2) (v := .pointer (some ⟨c, 3, none⟩)) rfl (by kernel_rfl) (by kernel_rfl) (by kernel_rfl) (fun _ _ _ h => h) (Or.inl ⟨by rfl, ?_⟩) hHeld ?_
  · intro w' hSw
    obtain ⟨s3, k0, k1, k2⟩ := hSw
    go_simp
  simp only [Act.put]
  refine wpAnyH_take (i := 3) (v := .map (some bm)) rfl (by kernel_rfl) (by kernel_rfl) (by kernel_rfl) (fun _ _ _ h => h) (Or.inl ⟨by rfl, ?_⟩) hHeld ?_
  · intro w' hSw
    obtain ⟨s3, k0, k1, k2⟩ := hSw
    go_simp
  simp only [Act.put]
  refine wpAnyH_take (i := 4) (v := .agg #[.int .u8 (x : Int), .int .u8 (y : Int), .int .u8 (z : Int)]) rfl (by kernel_rfl) (by kernel_rfl) (by kernel_rfl) (fun _ _ _ h => h) (Or.inl ⟨by rfl, ?_⟩) hHeld ?_
  · intro w' hSw
    obtain ⟨s3, k0, k1, k2⟩ := hSw
    go_simp
  simp only [Act.put]
  refine wpAnyH_take (i := 5) (v := .int .i64 (a : Int)) rfl (by kernel_rfl) (by kernel_rfl) (by kernel_rfl) (fun _ _ _ h => h) (Or.inl ⟨by rfl, ?_⟩) hHeld ?_
  · intro w' hSw
    obtain ⟨s3, k0, k1, k2⟩ := hSw
    go_simp
  simp only [Act.put]
  refine wpAnyH_take (i := 6) (v := .int .i64 (a1 : Int)) rfl (by kernel_rfl) (by kernel_rfl) (by kernel_rfl) (fun _ _ _ h => h) (Or.inl ⟨by rfl, ?_⟩) hHeld ?_
  · intro w' hSw
    obtain ⟨s3, k0, k1, k2⟩ := hSw
    go_simp
  simp only [Act.put]
  refine wpAnyH_ready (rs := [7]) (by kernel_rfl) (by simp) ?_
  refine AllReadyH.cons rfl (fun K hK => ?_) AllReadyH.nil
  have hgb : ∀ q, q < w3.heap.size → q ≠ bm → w4.heap[q]? = w3.heap[q]? := fun q h hq => (unhide HG4).block q h (fun e => hq (by injection e))
  have lc : c < w3.heap.size := World.block_lt_of_cell? _ _ m3
  have lk : kb < w3.heap.size := World.block_lt_of_cell? _ _ m0
  have lg : gb < w3.heap.size := World.block_lt_of_cell? _ _ (unhide HX0)
  have hne1 := (unhide HC2).ne1
  go_simp
  refine hK.out _ _ ⟨(World.cell?_of_block (hgb c lc hne1)).trans m3, (World.cell?_of_block (hgb kb lk (Ne.symm hkm))).trans m0, (World.cell?_of_block (hgb kb lk (Ne.symm hkm))).trans m1, (World.cell?_of_block (hgb kb lk (Ne.symm hkm))).trans m2⟩ (fun hHeld => ?_)
  clear hK K
  refine wpAnyH_done (by kernel_rfl) ?_ _
  have HFIN : Hid (CH w4 c bm gb s win (a + 1)) := by
    have h := unhide HC2
    have e1 : ∀ j, w4.cell? ⟨c, j, none⟩ = w2.cell? ⟨c, j, none⟩ := fun j => (World.cell?_of_block (a := ⟨c, j, none⟩) (hgb c lc hne1)).trans (unhide HXC c j hne2)
    have e2 : ∀ j, w4.cell? ⟨gb, j, none⟩ = w3.cell? ⟨gb, j, none⟩ := fun j => World.cell?_of_block (a := ⟨gb, j, none⟩) (hgb gb lg (Ne.symm hne3))
    have e3 : ∀ j, w4.frozen? ⟨gb, j, none⟩ = w3.frozen? ⟨gb, j, none⟩ := fun j => World.frozen?_of_block (a := ⟨gb, j, none⟩) (hgb gb lg (Ne.symm hne3))
    refine ⟨(e1 0).trans h.c0, (e1 1).trans h.c1, (e1 2).trans h.c2, (e1 3).trans h.c3, (e1 4).trans h.c4, ⟨nn + 1, by omega, (unhide HM5).congr (fun p q r => ?_)⟩, fun j hj => ⟨?_, ?_⟩, h.ne1, h.ne2, h.ne3, ?_⟩
    · rw [prev_yes s a p q r hn, ← unhide Hx, ← unhide Hy, ← unhide Hz, unhide Ha1]
    · rw [e2]
      by_cases hja : j = a
      · subst hja
        rw [unhide HX0, unhide Hv, befN_at s j hn]
        unfold keyAt
        rw [← unhide Hx, ← unhide Hy, ← unhide Hz]
      · rw [unhide HXO j hja, befN_in s a j hja]
        exact (h.row j hj).1
    · rw [e3, unhide HXF]
      exact (h.row j hj).2
    · have h1 := (unhide HG4).size
      have h2 := h.lt
      have h3 : w3.heap.size = w3.drew.heap.size := rfl
      omega
  have HBF := hide ((unhide HBU3).drew.grown (unhide HG4) (fun k e _ => .inl (by injection e with e; exact e.symm)))
  go_wp2
  go_end0
  exact ⟨rfl, unhide HFIN, unhide HBF⟩
end Go.Proofs.YtfeljhikeddodaeGreatDoor
