/- Chains of places with the same three bytes, plainly: the longest match by them. No Go stands here. A map of the call's own whose keys are three bytes. Walks of the chains of places: their small parts. Chains of places in memory: made. -/
import Derived.Test.YtfeljhikeddodadGreatDoorMg22
import Derived.Test.YtfeljhikeddodadGreatDoorMg1
import Derived.Maps.Own
import Derived.Maps.OwnSet
import Derived.Maps.Views
import Derived.DeepKeys4
import Derived.Test.YtfeljhikeddodadGreatDoorMg9
import Derived.Test.YtfeljhikeddodadGreatDoorMg4
import Derived.Deep.RegionHeld
import Derived.Laws.ResultCell
import Derived.Deep.RegionWith
import Derived.Laws.OwnMore
import Derived.Deep.OwnRows
namespace Go.Proofs.YtfeljhikeddodadGreatDoor.Mm

section
variable (s : Nat → Nat) (n W : Nat)

/-- Three bytes at a place. -/
def keyAt (p : Nat) : Nat × Nat × Nat := (s p, s (p + 1), s (p + 2))
/-- One more than the last place ahead of a at which these bytes stand; 0: none. -/
def prev (k : Nat × Nat × Nat) : Nat → Nat
  | 0 => 0
  | a + 1 => if a + 3 ≤ n ∧ keyAt s a = k then a + 1 else prev k a
variable {s n W}

theorem prev_le (k : Nat × Nat × Nat) (a : Nat) : prev s n k a ≤ a := by
  induction a with
  | zero => exact Nat.le_refl _
  | succ a ih => unfold prev; split <;> omega
theorem prev_key {k : Nat × Nat × Nat} {a p : Nat} (h : prev s n k a = p + 1) : p < a ∧ p + 3 ≤ n ∧ keyAt s p = k := by
  induction a with
  | zero => cases h
  | succ a ih =>
    unfold prev at h
    split at h
    · next q => have : p = a := by omega
                subst this; exact ⟨by omega, q.1, q.2⟩
    · have := ih h; exact ⟨by omega, this.2⟩
theorem prev_max {k : Nat × Nat × Nat} {a f : Nat} (h : prev s n k a ≤ f) (hf : f < a) (h3 : f + 3 ≤ n) : keyAt s f ≠ k := by
  induction a with
  | zero => omega
  | succ a ih =>
    unfold prev at h
    split at h
    · omega
    · next q =>
      by_cases e : f = a
      · subst e; exact fun hk => q ⟨h3, hk⟩
      · exact ih h (by omega)
theorem key_of_same {f a k : Nat} (h : ∀ i, i < k → s (f + i) = s (a + i)) (hk : 3 ≤ k) : keyAt s f = keyAt s a := by
  unfold keyAt
  have h0 := h 0 (by omega)
  have h1 := h 1 (by omega)
  have h2 := h 2 (by omega)
  simp only [Nat.add_zero] at h0
  rw [h0, h1, h2]
/-- What a match is, or that there is none. -/
def Good (s : Nat → Nat) (W at_ most length behind : Nat) : Prop := (length = 0 ∧ behind = 0) ∨ (3 ≤ length ∧ length ≤ most ∧ 1 ≤ behind ∧ behind ≤ W ∧ behind ≤ at_ ∧ ∀ i, i < length → s (at_ - behind + i) = s (at_ + i))
/-- No match is longer. -/
def Best (s : Nat → Nat) (W at_ most length : Nat) : Prop := ∀ f, f < at_ → at_ - f ≤ W → ∀ k, k ≤ most → (∀ i, i < k → s (f + i) = s (at_ + i)) → 3 ≤ k → k ≤ length
/-- On the way: places from this one on are looked at. -/
structure Lg (s : Nat → Nat) (n W at_ most place length behind : Nat) : Prop where
  ok : Good s W at_ most length behind
  vis : ∀ f, f < at_ → place ≤ f → at_ - f ≤ W → ∀ k, k ≤ most → (∀ i, i < k → s (f + i) = s (at_ + i)) → 3 ≤ k → k ≤ length
  le : place ≤ at_
  key : ∀ p, place = p + 1 → p < at_ ∧ keyAt s p = keyAt s at_
variable {at_ most place length behind : Nat}

theorem Lg.start (h3 : at_ + 3 ≤ n) : Lg s n W at_ most (prev s n (keyAt s at_) at_) 0 0 :=
  ⟨.inl ⟨rfl, rfl⟩, fun f hf hp _ k _ he hk => absurd (key_of_same he hk) (prev_max hp hf (by omega)), prev_le _ _, fun p hp => ⟨(prev_key hp).1, (prev_key hp).2.2⟩⟩
theorem Lg.done0 (h : Lg s n W at_ most 0 length behind) : Best s W at_ most length := fun f hf hw k hk he h3 => h.vis f hf (Nat.zero_le _) hw k hk he h3
theorem Lg.doneM (hl : length = most) : Best s W at_ most length := fun f _ _ k hk _ _ => by omega
theorem Lg.doneW {p : Nat} (h : Lg s n W at_ most (p + 1) length behind) (hw : W < at_ - p) : Best s W at_ most length := fun f hf hfw k hk he h3 => by
  rcases Nat.lt_or_ge f (p + 1) with q | q
  · omega
  · exact h.vis f hf q hfw k hk he h3
/-- The next place of the chain, where this one has no longer match. -/
theorem Lg.next {p length' behind' : Nat} (h : Lg s n W at_ most (p + 1) length behind) (h3 : at_ + 3 ≤ n) (hl : length ≤ length') (hok : Good s W at_ most length' behind') (hp : ∀ k, k ≤ most → (∀ i, i < k → s (p + i) = s (at_ + i)) → 3 ≤ k → k ≤ length') :
    Lg s n W at_ most (prev s n (keyAt s p) p) length' behind' := by
  obtain ⟨h1, h2⟩ := h.key p rfl
  refine ⟨hok, fun f hf hpl hw k hk he hk3 => ?_, ?_, fun q hq => ?_⟩
  · rcases Nat.lt_or_ge f p with c | c
    · have := prev_max hpl c (by omega)
      exact absurd ((key_of_same he hk3).trans h2.symm) this
    · rcases Nat.eq_or_lt_of_le c with c | c
      · subst c; exact hp k hk he hk3
      · have := h.vis f hf (by omega) hw k hk he hk3; omega
  · have := prev_le (s := s) (n := n) (keyAt s p) p; omega
  · have := prev_key hq; exact ⟨by omega, this.2.2.trans h2⟩
/-- Bytes that are the same, as many as there are. -/
def IsCl (s : Nat → Nat) (a b most m : Nat) : Prop := m ≤ most ∧ (∀ i, i < m → s (a + i) = s (b + i)) ∧ (m < most → s (a + m) ≠ s (b + m))
theorem IsCl.max {a b m k : Nat} (h : IsCl s a b most m) (hk : k ≤ most) (he : ∀ i, i < k → s (a + i) = s (b + i)) : k ≤ m := by
  rcases Nat.lt_or_ge m k with c | c
  · exact absurd (he m c) (h.2.2 (by omega))
  · exact c
end
end Go.Proofs.YtfeljhikeddodadGreatDoor.Mm
namespace Go.Proofs.YtfeljhikeddodadGreatDoor
open Go.RowKit Go.Maps

theorem laidOut3 : laidOutB Tryz.prog = true := by kernel_rfl
theorem keyed3 : Keyed Tryz.prog 189 := Keyed.of_law (deep_law_laid laidOut3 (m := 2) (by omega) (of_decide_eq_true (by kernel_rfl)) (by kernel_rfl) (by rw [Tryz.underlying189]))
def keyV (x y z : Nat) : Value := .agg #[.int .u8 (x : Int), .int .u8 (y : Int), .int .u8 (z : Int)]
theorem cells3 : Tryz.prog.cellsOf 189 = 3 := by kernel_rfl
theorem cells1 : Tryz.prog.cellsOf 5 = 1 := by kernel_rfl
theorem keyT3 : Tryz.prog.keyType 189 = true := by kernel_rfl
theorem key3 (x y z : Nat) (hx : x < 256) (hy : y < 256) (hz : z < 256) : ∃ kl, keyOf Tryz.prog 189 (keyV x y z) = some kl := by
  have hf : (keyV x y z).formed Tryz.prog 189 = true := by simp [keyV, Value.formed, Tryz.underlying189, cells3]
  unfold keyOf
  rw [Tryz.underlying189]
  simp only [keyT3, hf, Bool.and_self, if_true]
  obtain ⟨m, hm⟩ : ∃ m, Tryz.prog.types.size = m + 1 := ⟨Tryz.prog.types.size - 1, by
    have : 0 < Tryz.prog.types.size := of_decide_eq_true (by kernel_rfl)
    omega⟩
  rw [hm]
  have wf8 : ∀ x : Nat, x < 256 → (Lit.int .u8 (x : Int)).wf = true := fun x hx => by
    have key : ∀ x : Fin 256, (Lit.int .u8 ((x.val : Nat) : Int)).wf = true := by decide +kernel
    exact key ⟨x, hx⟩
  have hr : List.range 3 = [0, 1, 2] := rfl
  simp [Program.keyLits, Tryz.underlying189, Tryz.underlying5, keyV, Value.cells, cells1, cells3, hr, wf8 x hx, wf8 y hy, wf8 z hz]
/-- The map at block bm tells f. -/
def LM (w : World) (bm nn : Nat) (f : Nat → Nat → Nat → Nat) : Prop :=
  ∃ D : DataW Unit, w.ownsMap Tryz.prog 189 (plainElem Tryz.prog 3) bm nn D ∧ ∀ x y z, x < 256 → y < 256 → z < 256 → ∀ kl, keyOf Tryz.prog 189 (keyV x y z) = some kl → D.atKey kl (.lit (.int .i64 0)) = .lit (.int .i64 (f x y z : Nat))
theorem LM.made (w : World) : LM (w.alloc (.map #[] 0)) w.heap.size 0 (fun _ _ _ => 0) := ⟨.map [], World.ownsMap_made _ _ _ _, fun _ _ _ _ _ _ _ _ => rfl⟩
theorem LM.kept {w w' : World} {bm nn : Nat} {f : Nat → Nat → Nat → Nat} {row : Option Nat} (h : LM w bm nn f) (hg : w.grownBy w' row) (hne : some bm ≠ row) : LM w' bm nn f := by
  obtain ⟨D, h1, h2⟩ := h
  exact ⟨D, h1.kept hg hne, h2⟩
theorem LM.lt {w : World} {bm nn : Nat} {f : Nat → Nat → Nat → Nat} (h : LM w bm nn f) : bm < w.heap.size := by
  obtain ⟨D, h1, _⟩ := h
  exact h1.lt
theorem LM.look {w : World} {bm nn : Nat} {f : Nat → Nat → Nat → Nat} (h : LM w bm nn f) (x y z : Nat) (hx : x < 256) (hy : y < 256) (hz : z < 256) :
    (Instr.lookup 185 (.map (some bm)) (keyV x y z) false).run Tryz.prog w = .ok (.int .i64 (f x y z : Nat)) w := by
  obtain ⟨D, h1, h2⟩ := h
  obtain ⟨kl, hk⟩ := key3 x y z hx hy hz
  obtain ⟨c, hrun, hat, _⟩ := h1.lookup_int keyed3 Tryz.underlying185 Tryz.underlying3 (by kernel_rfl) hk
  have := (h2 x y z hx hy hz kl hk).symm.trans hat
  simp only [DataW.lit.injEq, Lit.int.injEq, true_and] at this
  rw [hrun, ← this]
theorem LM.put {w : World} {bm nn : Nat} {f : Nat → Nat → Nat → Nat} (h : LM w bm nn f) (x y z v : Nat) (hx : x < 256) (hy : y < 256) (hz : z < 256) (hv : v ≤ 1000000) (hn : nn ≤ 1000000) :
    ∃ w', (Instr.mapUpdate 185 (.map (some bm)) (keyV x y z) (.int .i64 (v : Int))).run Tryz.prog w = .ok () w' ∧ LM w' bm (nn + 1) (fun a b c => if a = x ∧ b = y ∧ c = z then v else f a b c) ∧ w.grownBy w' (some bm) := by
  obtain ⟨D, h1, h2⟩ := h
  obtain ⟨kl, hk⟩ := key3 x y z hx hy hz
  have hwf : (Lit.int .i64 (v : Int)).wf = true := by
    have h0 : IntKind.i64.min = -9223372036854775808 := by decide
    have h9 : IntKind.i64.max = 9223372036854775807 := by decide
    simp only [Lit.wf, h0, h9, Bool.and_eq_true, decide_eq_true_eq]
    omega
  obtain ⟨w', hrun, hm, hg⟩ := h1.update keyed3 Tryz.underlying185 (by unfold maxLen; omega) hk (plainElem_int Tryz.underlying3 hwf)
  refine ⟨w', hrun, ⟨_, hm, fun a b c ha hb hc kl' hk' => ?_⟩, hg⟩
  show _ = DataW.lit (Lit.int .i64 (((if a = x ∧ b = y ∧ c = z then v else f a b c) : Nat) : Int))
  by_cases e : a = x ∧ b = y ∧ c = z
  · obtain ⟨rfl, rfl, rfl⟩ := e
    obtain rfl := Option.some.inj (hk.symm.trans hk')
    rw [atKey_put_same h1.isMap (keyed3.key hk), if_pos ⟨rfl, rfl, rfl⟩]
  · rw [if_neg e, atKey_put_other (fun q => e ?_)]
    · exact h2 a b c ha hb hc kl' hk'
    · subst q
      have := keyed3.inj hk' hk
      simp only [keyV, Value.agg.injEq, Array.mk.injEq, List.cons.injEq, Value.int.injEq, true_and, and_true] at this
      omega
end Go.Proofs.YtfeljhikeddodadGreatDoor
namespace Go.Proofs.YtfeljhikeddodadGreatDoor
open Go.RowKit Mm

/-- The i-th byte of a text. -/
def byt (s : ByteArray) (i : Nat) : Nat := if h : i < s.size then s[i].toNat else 0
theorem byt_at (s : ByteArray) (i : Nat) (h : i < s.size) : byt s i = s[i].toNat := by unfold byt; rw [dif_pos h]
theorem byt_lt (s : ByteArray) (i : Nat) : byt s i < 256 := by
  unfold byt
  split
  · exact s[i].toNat_lt
  · omega
/-- How many places are tried. -/
def trs (n : Nat) : Nat := if n ≤ 3000 then 3000 else 256
theorem trs_le (n : Nat) : trs n ≤ 3000 := by unfold trs; split <;> omega
theorem trs_few {n : Nat} (h : n ≤ 3000) : trs n = 3000 := by unfold trs; rw [if_pos h]
theorem triesOf_any (s : ByteArray) (w : World) (hs : s.size ≤ 20000) :
    Calls Tryz.prog 130 #[.string s] w fun e w' => e = .returned (.int .i64 (trs s.size : Int)) ∧ w' = w := by
  unfold trs
  by_cases h : s.size ≤ 3000
  · have d1 : decide ((s.size : Int) ≤ 3000) = true := by simp; omega
    have d1n : decide (s.size ≤ 3000) = true := decide_eq_true h
    rw [if_pos h]
    clear h
    go_enter Tryz.func130, Tryz.ntmps130
    go_wp2
    go_ret
    exact ⟨rfl, rfl⟩
  · have d1 : decide ((s.size : Int) ≤ 3000) = false := decide_eq_false (by omega)
    have d1n : decide (s.size ≤ 3000) = false := decide_eq_false h
    rw [if_neg h]
    clear h
    go_enter Tryz.func130, Tryz.ntmps130
    go_wp2
    go_ret
    exact ⟨rfl, rfl⟩
theorem begins_any (c a : Nat) (s : ByteArray) (w : World) (c0 : w.cell? ⟨c, 0, none⟩ = some (.string s)) (hs : s.size ≤ 300000) (ha : a ≤ s.size) :
    Calls Tryz.prog 132 #[.pointer (some ⟨c, 0, none⟩), .int .i64 (a : Int)] w fun e w' => e = .returned (.bool (decide (a + 3 ≤ s.size))) ∧ w' = w := by
  obtain ⟨d, hd⟩ : ∃ d, d = s.size - a := ⟨_, rfl⟩
  have zd : (s.size : Int) - (a : Int) = (d : Int) := by omega
  have hdl : d ≤ 300000 := by omega
  by_cases h : a + 3 ≤ s.size
  · have d1 : decide ((d : Int) ≥ 3) = true := by simp; omega
    have d1' : decide ((3 : Int) ≤ (d : Int)) = true := d1
    rw [decide_eq_true h]
    clear h hd
    go_enter Tryz.func132, Tryz.ntmps132
    go_wp2
    go_ret
    exact ⟨rfl, rfl⟩
  · have d1 : decide ((d : Int) ≥ 3) = false := by simp; omega
    have d1' : decide ((3 : Int) ≤ (d : Int)) = false := d1
    rw [decide_eq_false h]
    clear h hd
    go_enter Tryz.func132, Tryz.ntmps132
    go_wp2
    go_ret
    exact ⟨rfl, rfl⟩
set_option maxHeartbeats 2000000 in
theorem csame_any (c a b most : Nat) (s : ByteArray) (w : World) (c0 : w.cell? ⟨c, 0, none⟩ = some (.string s)) (hs : s.size ≤ 300000) (hab : a ≤ b) (hb : b + most ≤ s.size) :
    Calls Tryz.prog 159 #[.pointer (some ⟨c, 0, none⟩), .int .i64 (a : Int), .int .i64 (b : Int), .int .i64 (most : Int)] w fun e w' => ∃ m : Nat, e = .returned (.int .i64 (m : Int)) ∧ IsCl (byt s) a b most m ∧ ∃ nn, w' = w.drewN nn := by
  go_enter Tryz.func159, Tryz.ntmps159
  go_wp2
  go_loopw [9] (fun v wr => ∃ m : Nat, m ≤ most ∧ v = .int .i64 (m : Int) ∧ Hid (∀ i, i < m → byt s (a + i) = byt s (b + i)) ∧ ∃ nn, wr = w.drewN nn) (fun v _ => most - (intOf v).toNat)
  case atStart => exact ⟨0, by omega, rfl, fun i hi => by omega, 0, rfl⟩
  case round =>
    obtain ⟨m, hm, rfl, HE, nn, rfl⟩ := hrel
    by_cases hlt : m < most
    · have g1 : decide ((m : Int) < (most : Int)) = true := by simp; omega
      obtain ⟨x, hx⟩ : ∃ x, x = a + m := ⟨_, rfl⟩
      obtain ⟨y, hy⟩ : ∃ y, y = b + m := ⟨_, rfl⟩
      have zx : (a : Int) + (m : Int) = (x : Int) := by omega
      have zy : (b : Int) + (m : Int) = (y : Int) := by omega
      have hxl : x < s.size := by omega
      have hyl : y < s.size := by omega
      have hxi : (x : Int) < (s.size : Int) := by omega
      have hyi : (y : Int) < (s.size : Int) := by omega
      have hx3 : x ≤ 300000 := by omega
      have hy3 : y ≤ 300000 := by omega
      have ex := byt_at s x hxl
      have ey := byt_at s y hyl
      have HX := hide hx
      have HY := hide hy
      have HEX := hide ex
      have HEY := hide ey
      clear hx hy ex ey
      by_cases he : s[x].toNat = s[y].toNat
      · have g2 : ((s[x].toNat : Int) == (s[y].toNat : Int)) = true := by rw [he]; simp
        have HN : Hid (∀ i, i < m + 1 → byt s (a + i) = byt s (b + i)) := fun i hi => by
          by_cases e : i = m
          · subst e; rw [← unhide HX, ← unhide HY, unhide HEX, unhide HEY, he]
          · exact unhide HE i (by omega)
        clear he
        go_wp2
        go_quiet (fail)
        go_wp2
        go_roundw
        case rel => exact ⟨m + 1, by omega, by go_num, HN, _, rfl⟩
        case measure => simp [intOf]; omega
      · have g2 : ((s[x].toNat : Int) == (s[y].toNat : Int)) = false := by simp; omega
        have HC : Hid (IsCl (byt s) a b most m) := ⟨hm, unhide HE, fun _ => by rw [← unhide HX, ← unhide HY, unhide HEX, unhide HEY]; exact he⟩
        clear he
        go_wp2
        go_quiet (fail)
        go_wp2
        go_ret
        exact ⟨m, rfl, unhide HC, _, World.drewN_drewN _ _ _⟩
    · have : m = most := by omega
      subst this
      have g1 : decide ((m : Int) < (m : Int)) = false := by simp
      have HC : Hid (IsCl (byt s) a b m m) := ⟨hm, unhide HE, fun h => absurd h (by omega)⟩
      go_wp2
      go_quiet (fail)
      go_wp2
      go_ret
      exact ⟨m, rfl, unhide HC, _, World.drewN_drewN _ _ _⟩
theorem results_cellK {fn : Func} {p : Tmp} {ty : TypeId} (h : fn.results = #[.cell p ty]) (tmps : Array Value) (P : Program) (w : World) :
    (results fn tmps).run P w = ((asAddr (tmps.getD p undef)).run P w).andThen fun a w₁ => (loadVar ty a).run P w₁ := by
  simp only [results, h]
  simp [Sem.run_bind, Result.andThen]
set_option maxHeartbeats 8000000 in
set_option maxRecDepth 100000 in
theorem key_any (c a : Nat) (s : ByteArray) (w : World) (c0 : w.cell? ⟨c, 0, none⟩ = some (.string s)) (hs : s.size ≤ 300000) (ha : a + 3 ≤ s.size) :
    Calls Tryz.prog 133 #[.pointer (some ⟨c, 0, none⟩), .int .i64 (a : Int)] w fun e w' => e = .returned (keyV (byt s a) (byt s (a + 1)) (byt s (a + 2))) ∧ Below w.heap.size w w' := by
  obtain ⟨b, hb⟩ : ∃ b, b = a + 1 := ⟨_, rfl⟩
  obtain ⟨d, hd⟩ : ∃ d, d = a + 2 := ⟨_, rfl⟩
  have zb : (a : Int) + 1 = (b : Int) := by omega
  have zd : (a : Int) + 2 = (d : Int) := by omega
  have wb : IntKind.i64.wrap (b : Int) = (b : Int) := by rw [IntKind.wrap_i64]; omega
  have wd : IntKind.i64.wrap (d : Int) = (d : Int) := by rw [IntKind.wrap_i64]; omega
  have hal : a < s.size := by omega
  have hbl : b < s.size := by omega
  have hdl : d < s.size := by omega
  have hai : (a : Int) < (s.size : Int) := by omega
  have hbi : (b : Int) < (s.size : Int) := by omega
  have hdi : (d : Int) < (s.size : Int) := by omega
  rw [← hb, ← hd, byt_at s a hal, byt_at s b hbl, byt_at s d hdl]
  unfold keyV
  have HB : Hid (Below w.heap.size w (w.alloc (.cells #[.int .u8 (s[a].toNat : Int), .int .u8 (s[b].toNat : Int), .int .u8 (s[d].toNat : Int)] 189)).drew) := ((Below.refl _ _).alloc (Nat.le_refl _) _).drew
  have hcl := World.block_lt_of_cell? _ _ c0
  simp only at hcl
  have cA : (w.alloc (.cells #[.int .u8 0, .int .u8 0, .int .u8 0] 189)).drew.cell? ⟨c, 0, none⟩ = some (.string s) := ((((Below.refl w.heap.size w).alloc (Nat.le_refl _) (.cells #[.int .u8 0, .int .u8 0, .int .u8 0] 189)).drew).cell hcl).trans c0
  have hcn : c ≠ w.heap.size := by omega
  have HcA := hide cA
  have Hc0 := hide c0
  clear hb hd cA c0
  go_enter Tryz.func133, Tryz.ntmps133
  go_wp2_with fail
  refine wp_region_held_drew (S := fun w' => w'.cell? ⟨c, 0, none⟩ = some (.string s)) (by kernel_rfl) (unhide HcA) (fun hHeld => ?_)
  refine wpAnyH_take (i := 0) (v := .pointer (some ⟨c, 0, none⟩)) rfl (by kernel_rfl) (by kernel_rfl) (by kernel_rfl) (fun _ _ _ h => h) (Or.inl ⟨by rfl, ?_⟩) hHeld ?_
  · intro w' hSw
    go_simp
  simp only [Act.put, List.setIfInBounds_toArray]
  refine wpAnyH_take (i := 1) (v := .pointer (some ⟨c, 0, none⟩)) rfl (by kernel_rfl) (by kernel_rfl) (by kernel_rfl) (fun _ _ _ h => h) (Or.inl ⟨by rfl, ?_⟩) hHeld ?_
  · intro w' hSw
    go_simp
  simp only [Act.put]
  refine wpAnyH_take (i := 2) (v := .pointer (some ⟨c, 0, none⟩)) rfl (by kernel_rfl) (by kernel_rfl) (by kernel_rfl) (fun _ _ _ h => h) (Or.inl ⟨by rfl, ?_⟩) hHeld ?_
  · intro w' hSw
    go_simp
  simp only [Act.put]
  refine wpAnyH_take (i := 3) (v := .string s) rfl (by kernel_rfl) (by kernel_rfl) (by kernel_rfl) (fun _ _ _ h => h) (Or.inl ⟨by rfl, ?_⟩) hHeld ?_
  · intro w' hSw
    go_simp
  simp only [Act.put]
  refine wpAnyH_take (i := 4) (v := .int .i64 (a : Int)) rfl (by kernel_rfl) (by kernel_rfl) (by kernel_rfl) (fun _ _ _ h => h) (Or.inl ⟨by rfl, ?_⟩) hHeld ?_
  · intro w' hSw
    go_simp
  simp only [Act.put]
  refine wpAnyH_take (i := 5) (v := .int .u8 (s[a].toNat : Int)) rfl (by kernel_rfl) (by kernel_rfl) (by kernel_rfl) (fun _ _ _ h => h) (Or.inl ⟨by rfl, ?_⟩) hHeld ?_
  · intro w' hSw
    go_simp
  simp only [Act.put]
  refine wpAnyH_take (i := 6) (v := .pointer (some ⟨c, 0, none⟩)) rfl (by kernel_rfl) (by kernel_rfl) (by kernel_rfl) (fun _ _ _ h => h) (Or.inl ⟨by rfl, ?_⟩) hHeld ?_
  · intro w' hSw
    go_simp
  simp only [Act.put]
  refine wpAnyH_take (i := 7) (v := .pointer (some ⟨c, 0, none⟩)) rfl (by kernel_rfl) (by kernel_rfl) (by kernel_rfl) (fun _ _ _ h => h) (Or.inl ⟨by rfl, ?_⟩) hHeld ?_
  · intro w' hSw
    go_simp
  simp only [Act.put]
  refine wpAnyH_take (i := 8) (v := .pointer (some ⟨c, 0, none⟩)) rfl (by kernel_rfl) (by kernel_rfl) (by kernel_rfl) (fun _ _ _ h => h) (Or.inl ⟨by rfl, ?_⟩) hHeld ?_
  · intro w' hSw
    go_simp
  simp only [Act.put]
  refine wpAnyH_take (i := 9) (v := .string s) rfl (by kernel_rfl) (by kernel_rfl) (by kernel_rfl) (fun _ _ _ h => h) (Or.inl ⟨by rfl, ?_⟩) hHeld ?_
  · intro w' hSw
    go_simp
  simp only [Act.put]
  refine wpAnyH_take (i := 10) (v := .int .i64 (a : Int)) rfl (by kernel_rfl) (by kernel_rfl) (by kernel_rfl) (fun _ _ _ h => h) (Or.inl ⟨by rfl, ?_⟩) hHeld ?_
  · intro w' hSw
    go_simp
  simp only [Act.put]
  refine wpAnyH_take (i := 11) (v := .int .i64 (b : Int)) rfl (by kernel_rfl) (by kernel_rfl) (by kernel_rfl) (fun _ _ _ h => h) (Or.inl ⟨by rfl, ?_⟩) hHeld ?_
  · intro w' hSw
    go_simp
  simp only [Act.put]
  refine wpAnyH_take (i := 12) (v := .int .u8 (s[b].toNat : Int)) rfl (by kernel_rfl) (by kernel_rfl) (by kernel_rfl) (fun _ _ _ h => h) (Or.inl ⟨by rfl, ?_⟩) hHeld ?_
  · intro w' hSw
    go_simp
  simp only [Act.put]
  refine wpAnyH_take (i := 13) (v := .pointer (some ⟨c, 0, none⟩)) rfl (by kernel_rfl) (by kernel_rfl) (by kernel_rfl) (fun _ _ _ h => h) (Or.inl ⟨by rfl, ?_⟩) hHeld ?_
  · intro w' hSw
    go_simp
  simp only [Act.put]
  refine wpAnyH_take (i := 14) (v := .pointer (some ⟨c, 0, none⟩)) rfl (by kernel_rfl) (by kernel_rfl) (by kernel_rfl) (fun _ _ _ h => h) (Or.inl ⟨by rfl, ?_⟩) hHeld ?_
  · intro w' hSw
    go_simp
  simp only [Act.put]
  refine wpAnyH_take (i := 15) (v := .pointer (some ⟨c, 0, none⟩)) rfl (by kernel_rfl) (by kernel_rfl) (by kernel_rfl) (fun _ _ _ h => h) (Or.inl ⟨by rfl, ?_⟩) hHeld ?_
  · intro w' hSw
    go_simp
  simp only [Act.put]
  refine wpAnyH_take (i := 16) (v := .string s) rfl (by kernel_rfl) (by kernel_rfl) (by kernel_rfl) (fun _ _ _ h => h) (Or.inl ⟨by rfl, ?_⟩) hHeld ?_
  · intro w' hSw
    go_simp
  simp only [Act.put]
  refine wpAnyH_take (i := 17) (v := .int .i64 (a : Int)) rfl (by kernel_rfl) (by kernel_rfl) (by kernel_rfl) (fun _ _ _ h => h) (Or.inl ⟨by rfl, ?_⟩) hHeld ?_
  · intro w' hSw
    go_simp
  simp only [Act.put]
  refine wpAnyH_take (i := 18) (v := .int .i64 (d : Int)) rfl (by kernel_rfl) (by kernel_rfl) (by kernel_rfl) (fun _ _ _ h => h) (Or.inl ⟨by rfl, ?_⟩) hHeld ?_
  · intro w' hSw
    go_simp
  simp only [Act.put]
  refine wpAnyH_take (i := 19) (v := .int .u8 (s[d].toNat : Int)) rfl (by kernel_rfl) (by kernel_rfl) (by kernel_rfl) (fun _ _ _ h => h) (Or.inl ⟨by rfl, ?_⟩) hHeld ?_
  · intro w' hSw
    go_simp
  simp only [Act.put]
  refine wpAnyH_take (i := 20) (v := .agg #[.int .u8 (s[a].toNat : Int), .int .u8 (s[b].toNat : Int), .int .u8 (s[d].toNat : Int)]) rfl (by kernel_rfl) (by kernel_rfl) (by kernel_rfl) (fun _ _ _ h => h) (Or.inl ⟨by rfl, ?_⟩) hHeld ?_
  · intro w' hSw
    go_simp
  simp only [Act.put]
  refine wpAnyH_ready (rs := [21]) (by kernel_rfl) (by simp) ?_
  refine AllReadyH.cons rfl (fun K hK => ?_) AllReadyH.nil
  go_simp
  have cE : (w.alloc (.cells #[.int .u8 (s[a].toNat : Int), .int .u8 (s[b].toNat : Int), .int .u8 (s[d].toNat : Int)] 189)).drew.cell? ⟨c, 0, none⟩ = some (.string s) := ((unhide HB).cell hcl).trans (unhide Hc0)
  refine hK.out _ _ cE (fun hHeld => ?_)
  clear hK K
  refine wpAnyH_done (by kernel_rfl) ?_ _
  go_wp2
  refine bodyPost_ret (v := .agg #[.int .u8 (s[a].toNat : Int), .int .u8 (s[b].toNat : Int), .int .u8 (s[d].toNat : Int)]) ?_ rfl ⟨rfl, unhide HB⟩
  rw [results_cellK (p := 4) (ty := 189) (by kernel_rfl)]
  go_simp
end Go.Proofs.YtfeljhikeddodadGreatDoor
namespace Go.Proofs.YtfeljhikeddodadGreatDoor
open Go.RowKit Mm

/-- What stands at the j-th place of the row of places before, once a places are in. -/
def befN (s : ByteArray) (a j : Nat) : Nat := if j < a ∧ j + 3 ≤ s.size then prev (byt s) s.size (keyAt (byt s) j) j else 0
/-- The chains in memory, a places in. -/
structure CH (w : World) (c bm gb : Nat) (s : ByteArray) (win a : Nat) : Prop where
  c0 : w.cell? ⟨c, 0, none⟩ = some (.string s)
  c1 : w.cell? ⟨c, 1, none⟩ = some (.int .i64 (win : Int))
  c2 : w.cell? ⟨c, 2, none⟩ = some (.int .i64 (trs s.size : Int))
  c3 : w.cell? ⟨c, 3, none⟩ = some (.map (some bm))
  c4 : w.cell? ⟨c, 4, none⟩ = some (.slice (some ⟨gb, 0, none⟩) s.size s.size)
  map : ∃ nn, nn ≤ a ∧ LM w bm nn (fun x y z => prev (byt s) s.size (x, y, z) a)
  row : ∀ j, j < s.size → w.cell? ⟨gb, j, none⟩ = some (.int .i64 (befN s a j : Int)) ∧ w.frozen? ⟨gb, j, none⟩ = false
  ne1 : c ≠ bm
  ne2 : c ≠ gb
  ne3 : bm ≠ gb
  lt : gb < w.heap.size
theorem info_i64m : (Tryz.prog.info? 3).map (fun i => (i.zero, i.size, i.bytes)) = some (some (.int .i64 0), 1, 8) := by kernel_rfl
theorem make_ints (n : Nat) (h : n ≤ 20000) (w : World) : (Instr.makeSlice 38 (.int .i64 (n : Int)) (.int .i64 (n : Int))).run Tryz.prog w = .ok (.slice (some ⟨w.heap.size, 0, none⟩) n n) (w.alloc (.cells (madeCells #[.int .i64 0] n) 3)) :=
  run_make_row' (P := Tryz.prog) 38 3 (.int .i64 0) 8 Tryz.underlying38 info_i64m rfl .i64 .i64 n (by omega) (by omega) w
theorem made_at (n j : Nat) (h : j < n) : (madeCells #[.int .i64 0] n)[j]? = some (.int .i64 0) := by
  have e := toList_madeCells_one (.int .i64 0) n
  have : (madeCells #[.int .i64 0] n).toList[j]? = some (.int .i64 0) := by rw [e, List.getElem?_replicate, if_pos h]
  simpa using this
theorem LM.blank {w : World} {bm : Nat} (h : w.heap[bm]? = some (.map #[] 0)) : LM w bm 0 (fun _ _ _ => 0) := by
  obtain ⟨D, ⟨es, clock, h1, h2, h3, h4⟩, h5⟩ := LM.made w
  have e : (w.alloc (.map #[] 0)).heap[w.heap.size]? = some (.map #[] 0) := heap_alloc_new w _
  rw [e] at h1
  injection h1 with h1
  injection h1 with e1 e2
  subst e1 e2
  exact ⟨D, ⟨_, _, h, h2, h3, h4⟩, h5⟩
theorem CH.made {w : World} {c bm gb : Nat} (s : ByteArray) (win : Nat) (h0 : w.heap[c]? = some (.cells #[.string s, .int .i64 (win : Int), .int .i64 (trs s.size : Int), .map (some bm), .slice (some ⟨gb, 0, none⟩) s.size s.size] 187 (0, 0)))
    (h1 : w.heap[bm]? = some (.map #[] 0)) (h2 : w.heap[gb]? = some (.cells (madeCells #[.int .i64 0] s.size) 3 (0, 0))) (n1 : c ≠ bm) (n2 : c ≠ gb) (n3 : bm ≠ gb) : CH w c bm gb s win 0 := by
  have hlt : gb < w.heap.size := by
    rcases Nat.lt_or_ge gb w.heap.size with q | q
    · exact q
    · simp [Array.getElem?_eq_none q] at h2
  refine ⟨by simp [World.cell?, h0], by simp [World.cell?, h0], by simp [World.cell?, h0], by simp [World.cell?, h0], by simp [World.cell?, h0], ⟨0, Nat.le_refl _, LM.blank h1⟩, fun j hj => ⟨?_, ?_⟩, n1, n2, n3, hlt⟩
  · simp only [World.cell?, h2]
    show (madeCells #[.int .i64 0] s.size)[j]? = _
    rw [made_at _ _ hj]
    simp [befN]
  · simp [World.frozen?, h2]
theorem three_heap (w : World) (x y z : Obj) : (((w.alloc x).alloc y).alloc z).heap[w.heap.size]? = some x ∧ (((w.alloc x).alloc y).alloc z).heap[w.heap.size + 1]? = some y ∧ (((w.alloc x).alloc y).alloc z).heap[w.heap.size + 1 + 1]? = some z := by
  have s1 : (w.alloc x).heap.size = w.heap.size + 1 := by simp
  have s2 : ((w.alloc x).alloc y).heap.size = w.heap.size + 1 + 1 := by simp
  refine ⟨?_, ?_, ?_⟩
  · rw [Below.heap_alloc _ _ _ (by rw [s2]; omega), Below.heap_alloc _ _ _ (by rw [s1]; omega)]
    exact heap_alloc_new w x
  · rw [Below.heap_alloc _ _ _ (by rw [s2]; omega), ← s1]
    exact heap_alloc_new _ y
  · rw [← s2]
    exact heap_alloc_new _ z
set_option maxHeartbeats 4000000 in
set_option maxRecDepth 100000 in
theorem newChains_any (s : ByteArray) (win : Nat) (w : World) (hs : s.size ≤ 20000) :
    Calls Tryz.prog 88 #[.string s, .int .i64 (win : Int)] w fun e w' => ∃ c bm gb, e = .returned (.pointer (some ⟨c, 0, none⟩)) ∧ CH w' c bm gb s win 0 ∧ Below w.heap.size w w' ∧ w.heap.size ≤ c ∧ w.heap.size ≤ bm ∧ w.heap.size ≤ gb := by
  have HT := hide (fun w => triesOf_any s w hs)
  have hmk := make_ints s.size hs
  have hmm := @run_makeMap Tryz.prog
  go_enter Tryz.func88, Tryz.ntmps88
  go_wp2_with fail
  go_region_with (first | (go_at_call 130; refine (unhide HT _).mono ?_; rintro e w1 ⟨rfl, rfl⟩))
  all_goals
    go_wp2
    go_ret
    first
    | (obtain ⟨h1, h2, h3⟩ := three_heap w (.map #[] 0) (.cells (madeCells #[.int .i64 0] s.size) 3) (.cells #[.string s, .int .i64 (win : Int), .int .i64 (trs s.size : Int), .map (some w.heap.size), .slice (some ⟨w.heap.size + 1, 0, none⟩) s.size s.size] 187)
       exact ⟨w.heap.size + 1 + 1, w.heap.size, w.heap.size + 1, rfl, CH.made s win h3 h1 h2 (by omega) (by omega) (by omega), (((Below.refl _ _).alloc (Nat.le_refl _) _).alloc (by simp) _).alloc (by simp; omega) _ |>.drew, by omega, by omega, by omega⟩)
    | (obtain ⟨h1, h2, h3⟩ := three_heap w (.cells (madeCells #[.int .i64 0] s.size) 3) (.map #[] 0) (.cells #[.string s, .int .i64 (win : Int), .int .i64 (trs s.size : Int), .map (some (w.heap.size + 1)), .slice (some ⟨w.heap.size, 0, none⟩) s.size s.size] 187)
       exact ⟨w.heap.size + 1 + 1, w.heap.size + 1, w.heap.size, rfl, CH.made s win h3 h2 h1 (by omega) (by omega) (by omega), (((Below.refl _ _).alloc (Nat.le_refl _) _).alloc (by simp) _).alloc (by simp; omega) _ |>.drew, by omega, by omega, by omega⟩)
end Go.Proofs.YtfeljhikeddodadGreatDoor
