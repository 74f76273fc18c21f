/- Walks of the chains of places: their small parts. -/
import Derived.Test.YtlnglpphlcebdadDoorMc
import Derived.Test.YtlnglpphlcebdadDoorMk
import Derived.Test.YtlnglpphlcebdadDoorQB
import Derived.Test.YtlnglpphlcebdadDoorBu
import Derived.Deep.RegionHeld
import Derived.Laws.ResultCell
namespace Go.Proofs.YtlnglpphlcebdadDoor
open Go.RowKit Mm

/-- The i-th byte of a text. -/
def byt (s : ByteArray) (i : Nat) : Nat := if h : i < s.size then s[i].toNat else 0
theorem byt_at (s : ByteArray) (i : Nat) (h : i < s.size) : byt s i = s[i].toNat := by unfold byt; rw [dif_pos h]
theorem byt_lt (s : ByteArray) (i : Nat) : byt s i < 256 := by
  unfold byt
  split
  · exact s[i].toNat_lt
  · omega

theorem triesOf_any (s : ByteArray) (w : World) (hs : s.size ≤ 3000) :
    Calls Tryd.prog 33 #[.string s] w fun e w' => e = .returned (.int .i64 3000) ∧ w' = w := by
  have d1 : decide ((s.size : Int) ≤ 3000) = true := by simp; omega
  go_enter Tryd.func33, Tryd.ntmps33
  go_wp2
  go_ret
  exact ⟨rfl, rfl⟩

theorem begins_any (c a : Nat) (s : ByteArray) (w : World) (c0 : w.cell? ⟨c, 0, none⟩ = some (.string s)) (hs : s.size ≤ 300000) (ha : a ≤ s.size) :
    Calls Tryd.prog 34 #[.pointer (some ⟨c, 0, none⟩), .int .i64 (a : Int)] w fun e w' => e = .returned (.bool (decide (a + 3 ≤ s.size))) ∧ w' = w := by
  obtain ⟨d, hd⟩ : ∃ d, d = s.size - a := ⟨_, rfl⟩
  have zd : (s.size : Int) - (a : Int) = (d : Int) := by omega
  have hdl : d ≤ 300000 := by omega
  by_cases h : a + 3 ≤ s.size
  · have d1 : decide ((d : Int) ≥ 3) = true := by simp; omega
    have d1' : decide ((3 : Int) ≤ (d : Int)) = true := d1
    rw [decide_eq_true h]
    clear h hd
    go_enter Tryd.func34, Tryd.ntmps34
    go_wp2
    go_ret
    exact ⟨rfl, rfl⟩
  · have d1 : decide ((d : Int) ≥ 3) = false := by simp; omega
    have d1' : decide ((3 : Int) ≤ (d : Int)) = false := d1
    rw [decide_eq_false h]
    clear h hd
    go_enter Tryd.func34, Tryd.ntmps34
    go_wp2
    go_ret
    exact ⟨rfl, rfl⟩

set_option maxHeartbeats 2000000 in
theorem csame_any (c a b most : Nat) (s : ByteArray) (w : World) (c0 : w.cell? ⟨c, 0, none⟩ = some (.string s)) (hs : s.size ≤ 300000) (hab : a ≤ b) (hb : b + most ≤ s.size) :
    Calls Tryd.prog 36 #[.pointer (some ⟨c, 0, none⟩), .int .i64 (a : Int), .int .i64 (b : Int), .int .i64 (most : Int)] w fun e w' => ∃ m : Nat, e = .returned (.int .i64 (m : Int)) ∧ IsCl (byt s) a b most m ∧ ∃ nn, w' = w.drewN nn := by
  go_enter Tryd.func36, Tryd.ntmps36
  go_wp2
  go_loopw [9] (fun v wr => ∃ m : Nat, m ≤ most ∧ v = .int .i64 (m : Int) ∧ Hid (∀ i, i < m → byt s (a + i) = byt s (b + i)) ∧ ∃ nn, wr = w.drewN nn) (fun v _ => most - (intOf v).toNat)
  case atStart => exact ⟨0, by omega, rfl, fun i hi => by omega, 0, rfl⟩
  case round =>
    obtain ⟨m, hm, rfl, HE, nn, rfl⟩ := hrel
    by_cases hlt : m < most
    · have g1 : decide ((m : Int) < (most : Int)) = true := by simp; omega
      obtain ⟨x, hx⟩ : ∃ x, x = a + m := ⟨_, rfl⟩
      obtain ⟨y, hy⟩ : ∃ y, y = b + m := ⟨_, rfl⟩
      have zx : (a : Int) + (m : Int) = (x : Int) := by omega
      have zy : (b : Int) + (m : Int) = (y : Int) := by omega
      have hxl : x < s.size := by omega
      have hyl : y < s.size := by omega
      have hxi : (x : Int) < (s.size : Int) := by omega
      have hyi : (y : Int) < (s.size : Int) := by omega
      have hx3 : x ≤ 300000 := by omega
      have hy3 : y ≤ 300000 := by omega
      have ex := byt_at s x hxl
      have ey := byt_at s y hyl
      have HX := hide hx
      have HY := hide hy
      have HEX := hide ex
      have HEY := hide ey
      clear hx hy ex ey
      by_cases he : s[x].toNat = s[y].toNat
      · have g2 : ((s[x].toNat : Int) == (s[y].toNat : Int)) = true := by rw [he]; simp
        have HN : Hid (∀ i, i < m + 1 → byt s (a + i) = byt s (b + i)) := fun i hi => by
          by_cases e : i = m
          · subst e; rw [← unhide HX, ← unhide HY, unhide HEX, unhide HEY, he]
          · exact unhide HE i (by omega)
        clear he
        go_wp2
        go_quiet (fail)
        go_wp2
        go_roundw
        case rel => exact ⟨m + 1, by omega, by go_num, HN, _, rfl⟩
        case measure => simp [intOf]; omega
      · have g2 : ((s[x].toNat : Int) == (s[y].toNat : Int)) = false := by simp; omega
        have HC : Hid (IsCl (byt s) a b most m) := ⟨hm, unhide HE, fun _ => by rw [← unhide HX, ← unhide HY, unhide HEX, unhide HEY]; exact he⟩
        clear he
        go_wp2
        go_quiet (fail)
        go_wp2
        go_ret
        exact ⟨m, rfl, unhide HC, _, World.drewN_drewN _ _ _⟩
    · have : m = most := by omega
      subst this
      have g1 : decide ((m : Int) < (m : Int)) = false := by simp
      have HC : Hid (IsCl (byt s) a b m m) := ⟨hm, unhide HE, fun h => absurd h (by omega)⟩
      go_wp2
      go_quiet (fail)
      go_wp2
      go_ret
      exact ⟨m, rfl, unhide HC, _, World.drewN_drewN _ _ _⟩

theorem results_cellK {fn : Func} {p : Tmp} {ty : TypeId} (h : fn.results = #[.cell p ty]) (tmps : Array Value) (P : Program) (w : World) :
    (results fn tmps).run P w = ((asAddr (tmps.getD p undef)).run P w).andThen fun a w₁ => (loadVar ty a).run P w₁ := by
  simp only [results, h]
  simp [Sem.run_bind, Result.andThen]

set_option maxHeartbeats 8000000 in
set_option maxRecDepth 100000 in
theorem key_any (c a : Nat) (s : ByteArray) (w : World) (c0 : w.cell? ⟨c, 0, none⟩ = some (.string s)) (hs : s.size ≤ 300000) (ha : a + 3 ≤ s.size) :
    Calls Tryd.prog 35 #[.pointer (some ⟨c, 0, none⟩), .int .i64 (a : Int)] w fun e w' => e = .returned (keyV (byt s a) (byt s (a + 1)) (byt s (a + 2))) ∧ Below w.heap.size w w' := by
  obtain ⟨b, hb⟩ : ∃ b, b = a + 1 := ⟨_, rfl⟩
  obtain ⟨d, hd⟩ : ∃ d, d = a + 2 := ⟨_, rfl⟩
  have zb : (a : Int) + 1 = (b : Int) := by omega
  have zd : (a : Int) + 2 = (d : Int) := by omega
  have wb : IntKind.i64.wrap (b : Int) = (b : Int) := by rw [IntKind.wrap_i64]; omega
  have wd : IntKind.i64.wrap (d : Int) = (d : Int) := by rw [IntKind.wrap_i64]; omega
  have hal : a < s.size := by omega
  have hbl : b < s.size := by omega
  have hdl : d < s.size := by omega
  have hai : (a : Int) < (s.size : Int) := by omega
  have hbi : (b : Int) < (s.size : Int) := by omega
  have hdi : (d : Int) < (s.size : Int) := by omega
  rw [← hb, ← hd, byt_at s a hal, byt_at s b hbl, byt_at s d hdl]
  unfold keyV
  have HB : Hid (Below w.heap.size w (w.alloc (.cells #[.int .u8 (s[a].toNat : Int), .int .u8 (s[b].toNat : Int), .int .u8 (s[d].toNat : Int)] 75)).drew) := ((Below.refl _ _).alloc (Nat.le_refl _) _).drew
  have hcl := World.block_lt_of_cell? _ _ c0
  simp only at hcl
  have cA : (w.alloc (.cells #[.int .u8 0, .int .u8 0, .int .u8 0] 75)).drew.cell? ⟨c, 0, none⟩ = some (.string s) := ((((Below.refl w.heap.size w).alloc (Nat.le_refl _) (.cells #[.int .u8 0, .int .u8 0, .int .u8 0] 75)).drew).cell hcl).trans c0
  have hcn : c ≠ w.heap.size := by omega
  have HcA := hide cA
  have Hc0 := hide c0
  clear hb hd cA c0
  go_enter Tryd.func35, Tryd.ntmps35
  go_wp2_with fail
  refine wp_region_held_drew (S := fun w' => w'.cell? ⟨c, 0, none⟩ = some (.string s)) (by kernel_rfl) (unhide HcA) (fun hHeld => ?_)
  refine wpAnyH_take (i := 0) (v := .pointer (some ⟨c, 0, none⟩)) rfl (by kernel_rfl) (by kernel_rfl) (by kernel_rfl) (fun _ _ _ h => h) (Or.inl ⟨by rfl, ?_⟩) hHeld ?_
  · intro w' hSw
    go_simp
  simp only [Act.put, List.setIfInBounds_toArray]
  refine wpAnyH_take (i := 1) (v := .pointer (some ⟨c, 0, none⟩)) rfl (by kernel_rfl) (by kernel_rfl) (by kernel_rfl) (fun _ _ _ h => h) (Or.inl ⟨by rfl, ?_⟩) hHeld ?_
  · intro w' hSw
    go_simp
  simp only [Act.put]
  refine wpAnyH_take (i := 2) (v := .pointer (some ⟨c, 0, none⟩)) rfl (by kernel_rfl) (by kernel_rfl) (by kernel_rfl) (fun _ _ _ h => h) (Or.inl ⟨by rfl, ?_⟩) hHeld ?_
  · intro w' hSw
    go_simp
  simp only [Act.put]
  refine wpAnyH_take (i := 3) (v := .string s) rfl (by kernel_rfl) (by kernel_rfl) (by kernel_rfl) (fun _ _ _ h => h) (Or.inl ⟨by rfl, ?_⟩) hHeld ?_
  · intro w' hSw
    go_simp
  simp only [Act.put]
  refine wpAnyH_take (i := 4) (v := .int .i64 (a : Int)) rfl (by kernel_rfl) (by kernel_rfl) (by kernel_rfl) (fun _ _ _ h => h) (Or.inl ⟨by rfl, ?_⟩) hHeld ?_
  · intro w' hSw
    go_simp
  simp only [Act.put]
  refine wpAnyH_take (i := 5) (v := .int .u8 (s[a].toNat : Int)) rfl (by kernel_rfl) (by kernel_rfl) (by kernel_rfl) (fun _ _ _ h => h) (Or.inl ⟨by rfl, ?_⟩) hHeld ?_
  · intro w' hSw
    go_simp
  simp only [Act.put]
  refine wpAnyH_take (i := 6) (v := .pointer (some ⟨c, 0, none⟩)) rfl (by kernel_rfl) (by kernel_rfl) (by kernel_rfl) (fun _ _ _ h => h) (Or.inl ⟨by rfl, ?_⟩) hHeld ?_
  · intro w' hSw
    go_simp
  simp only [Act.put]
  refine wpAnyH_take (i := 7) (v := .pointer (some ⟨c, 0, none⟩)) rfl (by kernel_rfl) (by kernel_rfl) (by kernel_rfl) (fun _ _ _ h => h) (Or.inl ⟨by rfl, ?_⟩) hHeld ?_
  · intro w' hSw
    go_simp
  simp only [Act.put]
  refine wpAnyH_take (i := 8) (v := .pointer (some ⟨c, 0, none⟩)) rfl (by kernel_rfl) (by kernel_rfl) (by kernel_rfl) (fun _ _ _ h => h) (Or.inl ⟨by rfl, ?_⟩) hHeld ?_
  · intro w' hSw
    go_simp
  simp only [Act.put]
  refine wpAnyH_take (i := 9) (v := .string s) rfl (by kernel_rfl) (by kernel_rfl) (by kernel_rfl) (fun _ _ _ h => h) (Or.inl ⟨by rfl, ?_⟩) hHeld ?_
  · intro w' hSw
    go_simp
  simp only [Act.put]
  refine wpAnyH_take (i := 10) (v := .int .i64 (a : Int)) rfl (by kernel_rfl) (by kernel_rfl) (by kernel_rfl) (fun _ _ _ h => h) (Or.inl ⟨by rfl, ?_⟩) hHeld ?_
  · intro w' hSw
    go_simp
  simp only [Act.put]
  refine wpAnyH_take (i := 11) (v := .int .i64 (b : Int)) rfl (by kernel_rfl) (by kernel_rfl) (by kernel_rfl) (fun _ _ _ h => h) (Or.inl ⟨by rfl, ?_⟩) hHeld ?_
  · intro w' hSw
    go_simp
  simp only [Act.put]
  refine wpAnyH_take (i := 12) (v := .int .u8 (s[b].toNat : Int)) rfl (by kernel_rfl) (by kernel_rfl) (by kernel_rfl) (fun _ _ _ h => h) (Or.inl ⟨by rfl, ?_⟩) hHeld ?_
  · intro w' hSw
    go_simp
  simp only [Act.put]
  refine wpAnyH_take (i := 13) (v := .pointer (some ⟨c, 0, none⟩)) rfl (by kernel_rfl) (by kernel_rfl) (by kernel_rfl) (fun _ _ _ h => h) (Or.inl ⟨by rfl, ?_⟩) hHeld ?_
  · intro w' hSw
    go_simp
  simp only [Act.put]
  refine wpAnyH_take (i := 14) (v := .pointer (some ⟨c, 0, none⟩)) rfl (by kernel_rfl) (by kernel_rfl) (by kernel_rfl) (fun _ _ _ h => h) (Or.inl ⟨by rfl, ?_⟩) hHeld ?_
  · intro w' hSw
    go_simp
  simp only [Act.put]
  refine wpAnyH_take (i := 15) (v := .pointer (some ⟨c, 0, none⟩)) rfl (by kernel_rfl) (by kernel_rfl) (by kernel_rfl) (fun _ _ _ h => h) (Or.inl ⟨by rfl, ?_⟩) hHeld ?_
  · intro w' hSw
    go_simp
  simp only [Act.put]
  refine wpAnyH_take (i := 16) (v := .string s) rfl (by kernel_rfl) (by kernel_rfl) (by kernel_rfl) (fun _ _ _ h => h) (Or.inl ⟨by rfl, ?_⟩) hHeld ?_
  · intro w' hSw
    go_simp
  simp only [Act.put]
  refine wpAnyH_take (i := 17) (v := .int .i64 (a : Int)) rfl (by kernel_rfl) (by kernel_rfl) (by kernel_rfl) (fun _ _ _ h => h) (Or.inl ⟨by rfl, ?_⟩) hHeld ?_
  · intro w' hSw
    go_simp
  simp only [Act.put]
  refine wpAnyH_take (i := 18) (v := .int .i64 (d : Int)) rfl (by kernel_rfl) (by kernel_rfl) (by kernel_rfl) (fun _ _ _ h => h) (Or.inl ⟨by rfl, ?_⟩) hHeld ?_
  · intro w' hSw
    go_simp
  simp only [Act.put]
  refine wpAnyH_take (i := 19) (v := .int .u8 (s[d].toNat : Int)) rfl (by kernel_rfl) (by kernel_rfl) (by kernel_rfl) (fun _ _ _ h => h) (Or.inl ⟨by rfl, ?_⟩) hHeld ?_
  · intro w' hSw
    go_simp
  simp only [Act.put]
  refine wpAnyH_take (i := 20) (v := .agg #[.int .u8 (s[a].toNat : Int), .int .u8 (s[b].toNat : Int), .int .u8 (s[d].toNat : Int)]) rfl (by kernel_rfl) (by kernel_rfl) (by kernel_rfl) (fun _ _ _ h => h) (Or.inl ⟨by rfl, ?_⟩) hHeld ?_
  · intro w' hSw
    go_simp
  simp only [Act.put]
  refine wpAnyH_ready (rs := [21]) (by kernel_rfl) (by simp) ?_
  refine AllReadyH.cons rfl (fun K hK => ?_) AllReadyH.nil
  go_simp
  have cE : (w.alloc (.cells #[.int .u8 (s[a].toNat : Int), .int .u8 (s[b].toNat : Int), .int .u8 (s[d].toNat : Int)] 75)).drew.cell? ⟨c, 0, none⟩ = some (.string s) := ((unhide HB).cell hcl).trans (unhide Hc0)
  refine hK.out _ _ cE (fun hHeld => ?_)
  clear hK K
  refine wpAnyH_done (by kernel_rfl) ?_ _
  go_wp2
  refine bodyPost_ret (v := .agg #[.int .u8 (s[a].toNat : Int), .int .u8 (s[b].toNat : Int), .int .u8 (s[d].toNat : Int)]) ?_ rfl ⟨rfl, unhide HB⟩
  rw [results_cellK (p := 4) (ty := 75) (by kernel_rfl)]
  go_simp
end Go.Proofs.YtlnglpphlcebdadDoor
