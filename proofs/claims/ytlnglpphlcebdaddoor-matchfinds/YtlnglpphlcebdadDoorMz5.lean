/- Chains of places in memory: the token at a place. -/
import Derived.Test.YtlnglpphlcebdadDoorMz4
import Derived.Laws.ResultCell
namespace Go.Proofs.YtlnglpphlcebdadDoor
open Go.RowKit Mm

/-- What a place's longest match is. -/
structure LgOk (s : ByteArray) (win a l b : Nat) : Prop where
  good : Mm.Good (byt s) win a (min 258 (s.size - a)) l b
  best : Mm.Best (byt s) win a (min 258 (s.size - a)) l

theorem longest_any (c bm gb win a : Nat) (s : ByteArray) (w : World) (h : CH w c bm gb s win a) (hs : s.size ≤ 3000) (ha : a ≤ s.size) (hwin : win ≤ 32768) :
    Calls Tryd.prog 22 #[.pointer (some ⟨c, 0, none⟩), .int .i64 (a : Int)] w fun e w' => ∃ l b : Nat, e = .returned (.tuple #[.int .i64 (l : Int), .int .i64 (b : Int)]) ∧ LgOk s win a l b ∧ Below w.heap.size w w' := by
  by_cases hn : a + 3 ≤ s.size
  · refine (longest_yes c bm gb win a s w h hs hn hwin).mono ?_
    rintro e w' ⟨l, b, rfl, h1, h2, hb⟩
    exact ⟨l, b, rfl, ⟨h1, h2⟩, hb⟩
  · refine (longest_no c bm gb win a s w h hs ha (by omega)).mono ?_
    rintro e w' ⟨rfl, rfl⟩
    exact ⟨0, 0, rfl, ⟨.inl ⟨rfl, rfl⟩, fun f _ _ k hk _ h3 => by omega⟩, Below.refl _ _⟩

theorem add_any (c bm gb win a : Nat) (s : ByteArray) (w : World) (h : CH w c bm gb s win a) (hs : s.size ≤ 3000) (ha : a ≤ s.size) :
    Calls Tryd.prog 21 #[.pointer (some ⟨c, 0, none⟩), .int .i64 (a : Int)] w fun e w' => e = .returned (.tuple #[]) ∧ CH w' c bm gb s win (a + 1) ∧ But (fun k => k = bm ∨ k = gb) w w' := by
  by_cases hn : a + 3 ≤ s.size
  · exact add_yes c bm gb win a s w h hs hn
  · exact add_no c bm gb win a s w h hs ha (by omega)

theorem results_cellT {fn : Func} {p : Tmp} {ty : TypeId} (h : fn.results = #[.cell p ty]) (tmps : Array Value) (P : Program) (w : World) :
    (results fn tmps).run P w = ((asAddr (tmps.getD p undef)).run P w).andThen fun a w₁ => (loadVar ty a).run P w₁ := by
  simp only [results, h]
  simp [Sem.run_bind, Result.andThen]
theorem three_at (w : World) (x y z : Value) (t : TypeId) : (w.alloc (.cells #[x, y, z] t)).cell? ⟨w.heap.size, 0, none⟩ = some x ∧ (w.alloc (.cells #[x, y, z] t)).cell? ⟨w.heap.size, 1, none⟩ = some y ∧ (w.alloc (.cells #[x, y, z] t)).cell? ⟨w.heap.size, 2, none⟩ = some z ∧ (w.alloc (.cells #[x, y, z] t)).frozen? ⟨w.heap.size, 0, none⟩ = false ∧ (w.alloc (.cells #[x, y, z] t)).frozen? ⟨w.heap.size, 1, none⟩ = false ∧ (w.alloc (.cells #[x, y, z] t)).frozen? ⟨w.heap.size, 2, none⟩ = false ∧ (w.alloc (.cells #[x, y, z] t)).heap.size = w.heap.size + 1 := by simp

/-- A token as a value. -/
def tokV (s : ByteArray) (a l b : Nat) : Value := if l = 0 then .agg #[.int .u8 (byt s a : Int), .int .i64 0, .int .i64 0] else .agg #[.int .u8 0, .int .i64 (l : Int), .int .i64 (b : Int)]

set_option maxHeartbeats 2000000 in
set_option maxRecDepth 100000 in
theorem token_any (c bm gb win a : Nat) (s : ByteArray) (w : World) (h : CH w c bm gb s win a) (hs : s.size ≤ 3000) (ha : a < s.size) (hwin : win ≤ 32768) :
    Calls Tryd.prog 19 #[.pointer (some ⟨c, 0, none⟩), .int .i64 (a : Int)] w fun e w' => ∃ l b : Nat, e = .returned (tokV s a l b) ∧ LgOk s win a l b ∧ Below w.heap.size w w' := by
  obtain ⟨k0, k1, k2, f0, f1, f2, hz⟩ := three_at w (.int .u8 0) (.int .i64 0) (.int .i64 0) 36
  have hb0 : Below w.heap.size w (w.alloc (.cells #[.int .u8 0, .int .i64 0, .int .i64 0] 36)) := (Below.refl _ _).alloc (Nat.le_refl _) _
  have hC := h.below hb0
  have HL := hide (longest_any c bm gb win a s _ hC hs (by omega) hwin)
  have HC := hide hC
  have HB0 := hide hb0
  have hai : (a : Int) < (s.size : Int) := by omega
  have hba := byt_at s a ha
  have hx := s[a].toNat_lt
  have hgl : ∀ l b, LgOk s win a l b → l ≤ 3000 ∧ b ≤ 3000 := fun l b hl => by
    rcases hl.good with ⟨h1, h2⟩ | ⟨_, h1, _, _, h2, _⟩ <;> omega
  have HGL := hide hgl
  have Hba := hide hba
  clear h hC hb0 hgl hba
  go_enter Tryd.func19, Tryd.ntmps19
  go_wp2_with fail
  refine (unhide HL).mono ?_
  generalize hwa : w.alloc (.cells #[.int .u8 0, .int .i64 0, .int .i64 0] 36) = wa at *
  generalize hp : w.heap.size = p at *
  rintro e w1 ⟨l, b, rfl, hok, hb1⟩
  have hpl : p < wa.heap.size := by omega
  have m0 := (hb1.cell (p := ⟨p, 0, none⟩) hpl).trans k0
  have m1 := (hb1.cell (p := ⟨p, 1, none⟩) hpl).trans k1
  have m2 := (hb1.cell (p := ⟨p, 2, none⟩) hpl).trans k2
  have e0 := (hb1.frozen (p := ⟨p, 0, none⟩) hpl).trans f0
  have e1 := (hb1.frozen (p := ⟨p, 1, none⟩) hpl).trans f1
  have e2 := (hb1.frozen (p := ⟨p, 2, none⟩) hpl).trans f2
  have s0 := ((unhide HC).below hb1).c0
  obtain ⟨hl3, hb3⟩ := unhide HGL l b hok
  have HOK := hide hok
  have HB1 := hide ((unhide HB0).trans (hb1.mono (by omega)))
  have Hp := hide hp
  clear hok hb1 HL HC HB0 k0 k1 k2 f0 f1 f2 hwa hz hp hpl HGL
  by_cases h0 : l = 0
  · subst h0
    go_wp2
    refine bodyPost_ret (v := .agg #[.int .u8 (s[a].toNat : Int), .int .i64 0, .int .i64 0]) ?_ rfl ⟨0, b, by unfold tokV; rw [if_pos rfl, unhide Hba], unhide HOK, ?_⟩
    · rw [results_cellT (p := 4) (ty := 36) (by kernel_rfl)]
      go_simp
    · first
      | exact (((unhide HB1).setCell (p := ⟨p, 0, none⟩) (Nat.le_refl _) _).setCell (p := ⟨p, 1, none⟩) (Nat.le_refl _) _).setCell (p := ⟨p, 2, none⟩) (Nat.le_refl _) _
      | (rw [unhide Hp]; exact (((unhide HB1).setCell (p := ⟨p, 0, none⟩) (Nat.le_refl _) _).setCell (p := ⟨p, 1, none⟩) (Nat.le_refl _) _).setCell (p := ⟨p, 2, none⟩) (Nat.le_refl _) _)
  · have g0 : decide ((l : Int) > 0) = true := decide_eq_true (by omega)
    have g0' : decide ((0 : Int) < (l : Int)) = true := g0
    have g0n : decide (0 < l) = true := decide_eq_true (by omega)
    go_wp2
    refine bodyPost_ret (v := .agg #[.int .u8 0, .int .i64 (l : Int), .int .i64 (b : Int)]) ?_ rfl ⟨l, b, by unfold tokV; rw [if_neg h0], unhide HOK, ?_⟩
    · rw [results_cellT (p := 4) (ty := 36) (by kernel_rfl)]
      go_simp
    · first
      | exact (((unhide HB1).setCell (p := ⟨p, 0, none⟩) (Nat.le_refl _) _).setCell (p := ⟨p, 1, none⟩) (Nat.le_refl _) _).setCell (p := ⟨p, 2, none⟩) (Nat.le_refl _) _
      | (rw [unhide Hp]; exact (((unhide HB1).setCell (p := ⟨p, 0, none⟩) (Nat.le_refl _) _).setCell (p := ⟨p, 1, none⟩) (Nat.le_refl _) _).setCell (p := ⟨p, 2, none⟩) (Nat.le_refl _) _)
end Go.Proofs.YtlnglpphlcebdadDoor
