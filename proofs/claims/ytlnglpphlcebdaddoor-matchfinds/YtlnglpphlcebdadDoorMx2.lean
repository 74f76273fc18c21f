/- Walk of the program's measure of tokens. -/
import Derived.Test.YtlnglpphlcebdadDoorMx1
namespace Go.Proofs.YtlnglpphlcebdadDoor
open Go.RowKit

/-- The first wrong token is told. -/
structure Wrong (w' : World) (n : Nat) (t : Tks) (eS : Value) (i q len : Nat) : Prop where
  lt : i < len
  ahead : ∀ j, j < i → t.good j
  bad : ¬ t.good i
  at_ : w'.cell? ⟨q, 0, none⟩ = some (.int .i64 (i : Int))
  err : w'.cell? ⟨q, 1, none⟩ = some eS
  new : n ≤ q

set_option maxHeartbeats 4000000 in
set_option maxRecDepth 100000 in
theorem measure_any (ao : Option Addr) (len cap : Nat) (t : Tks) (w : World) (uT : TypeId) (uV : Value) (hS : w.cell? ⟨2, 0, none⟩ = some (.iface uT uV)) (hP : IsTokens w ao len t) (hlen : len ≤ 100000)
    (hsm : ∀ i, i ≤ len → (∀ j, j < i → t.good j) → (t.out i).length ≤ 300000) :
    Calls Tryd.prog 32 #[.slice ao len cap] w fun e w' =>
      ((∀ j, j < len → t.good j) ∧ e = .returned (.tuple #[.int .i64 ((t.out len).length : Int), .nilIface]) ∧ Below w.heap.size w w') ∨
      (∃ i q, Wrong w' w.heap.size t (.iface uT uV) i q len ∧ e = .returned (.tuple #[.int .i64 0, .iface 78 (.pointer (some ⟨q, 0, none⟩))]) ∧ Below w.heap.size w w') := by
  have HP := hide hP
  have HSM := hide hsm
  have HS := hide hS
  clear hP hsm hS
  go_enter Tryd.func32, Tryd.ntmps32
  go_wp2
  go_loopw [2, 3, 4, 11] (fun sz _ ov i wr => ∃ k : Nat, k ≤ len ∧ sz = .int .i64 ((t.out k).length : Int) ∧ ov = .int .i64 (len : Int) ∧ i = .int .i64 (k : Int) ∧ Hid (∀ j, j < k → t.good j) ∧ Below w.heap.size w wr) (fun _ _ _ i _ => len - (intOf i).toNat)
  case atStart => exact ⟨0, by omega, rfl, rfl, rfl, fun j hj => by omega, Below.refl _ _⟩
  case round =>
    obtain ⟨k, hk, rfl, rfl, rfl, HG, hb⟩ := hrel
    by_cases hlt : k < len
    · have g1 : decide ((k : Int) < (len : Int)) = true := by simp; omega
      have hki : (k : Int) < (len : Int) := by omega
      have hP1 := (unhide HP).below hb
      rcases hP1 with h0 | ⟨bb, off, rfl, hm, hc⟩
      · omega
      obtain ⟨c0, c1, c2, hb8, ⟨hl1, hl2⟩, ⟨hd1, hd2⟩⟩ := hc k hlt
      have hol := unhide HSM k hk (unhide HG)
      have hok : t.good k ↔ Shp (t.b k) (t.l k) (t.d k) ∧ t.d k ≤ ((t.out k).length : Int) := Iff.rfl
      have hnx : Shp (t.b k) (t.l k) (t.d k) → ((t.out (k + 1)).length : Int) = ((t.out k).length : Int) + (if t.l k = 0 then 1 else t.l k) := fun h => t.out_next h
      have HNX : Hid (t.good k → ∀ j, j < k + 1 → t.good j) := fun h j hj => by
        rcases Nat.lt_or_ge j k with c | c
        · exact unhide HG j c
        · rw [show j = k by omega]; exact h
      have hol2 : t.good k → (t.out (k + 1)).length ≤ 300000 := fun h => unhide HSM (k + 1) (by omega) (unhide HNX h)
      obtain ⟨o1, ho1⟩ : ∃ q, q = (t.out (k + 1)).length := ⟨_, rfl⟩
      have HO1 := hide ho1
      rw [← ho1] at hnx hol2
      obtain ⟨o, ho⟩ : ∃ q, q = (t.out k).length := ⟨_, rfl⟩
      rw [← ho] at hok hnx hol ⊢
      have HOK := hide hok
      obtain ⟨gd, hgd⟩ : ∃ q, q = t.good k := ⟨_, rfl⟩
      have HGD := hide hgd
      rw [← hgd] at hok hol2
      generalize t.b k = b at *
      generalize t.l k = l at *
      generalize t.d k = d at *
      have hba : Below w.heap.size w (wr.alloc (.cells #[.int .u8 (b : Int), .int .i64 l, .int .i64 d] 36)) := hb.alloc hb.size _
      have ca0 : (wr.alloc (.cells #[.int .u8 (b : Int), .int .i64 l, .int .i64 d] 36)).cell? ⟨wr.heap.size, 0, none⟩ = some (.int .u8 (b : Int)) := by simp
      have ca1 : (wr.alloc (.cells #[.int .u8 (b : Int), .int .i64 l, .int .i64 d] 36)).cell? ⟨wr.heap.size, 1, none⟩ = some (.int .i64 l) := by simp
      have ca2 : (wr.alloc (.cells #[.int .u8 (b : Int), .int .i64 l, .int .i64 d] 36)).cell? ⟨wr.heap.size, 2, none⟩ = some (.int .i64 d) := by simp
      have HC : Hid (∀ j w', Below (wr.alloc (.cells #[.int .u8 (b : Int), .int .i64 l, .int .i64 d] 36)).heap.size (wr.alloc (.cells #[.int .u8 (b : Int), .int .i64 l, .int .i64 d] 36)) w' → w'.cell? ⟨wr.heap.size, j, none⟩ = (wr.alloc (.cells #[.int .u8 (b : Int), .int .i64 l, .int .i64 d] 36)).cell? ⟨wr.heap.size, j, none⟩) := fun j w' h => h.cell (by simp)
      clear hc hok hgd ho ho1
      go_wp2_with fail
      refine (shaped_any b l d _).mono ?_
      generalize wr.alloc (.cells #[.int .u8 (b : Int), .int .i64 l, .int .i64 d] 36) = wa at *
      generalize wr.heap.size = p at *
      rintro e w2 ⟨rfl, hb2⟩
      have cb0 := (unhide HC 0 w2 hb2).trans ca0
      have cb1 := (unhide HC 1 w2 hb2).trans ca1
      have cb2 := (unhide HC 2 w2 hb2).trans ca2
      have hbw2 : Below w.heap.size w w2 := hba.trans (hb2.mono hba.size)
      clear ca0 ca1 ca2
      by_cases hshp : Shp b l d
      · have hsd : decide (Shp b l d) = true := by simpa using hshp
        rw [hsd]
        by_cases hbk : d ≤ (o : Int)
        · have e1 : decide ((o : Int) < d) = false := by simp; omega
          have e2 : decide (d > (o : Int)) = false := e1
          have hgk : t.good k := (unhide HOK).2 ⟨hshp, hbk⟩
          have HGK := hide hgk
          have hn := hnx hshp
          have hl0 : 0 ≤ l := by unfold Shp at hshp; split at hshp <;> omega
          obtain ⟨n, hnn⟩ : ∃ n : Int, n = if l = 0 then 1 else l := ⟨_, rfl⟩
          rw [← hnn] at hn
          have ho3 : o1 ≤ 300000 := hol2 (by rw [unhide HGD]; exact hgk)
          have HN := hide hnn
          have d3 : decide ((o1 : Int) > 300000) = false := by simp; omega
          have d4 : decide ((300000 : Int) < (o1 : Int)) = false := d3
          have zn : (o : Int) + n = (o1 : Int) := hn.symm
          have HBY := hide (bytesOf_any b l d w2 n hnn hl0)
          have Hst : Hid (∀ w3, Below w2.heap.size w2 w3 → Below w.heap.size w w3) := fun w3 h => hbw2.trans (h.mono hbw2.size)
          clear hgk hshp hbk hnx hn hnn hol2 hsd
          go_wp2_with fail
          refine (unhide HBY).mono ?_
          rintro e w3 ⟨rfl, hb3⟩
          go_wp2
          go_roundw
          case rel => exact ⟨k + 1, by omega, by rw [← unhide HO1], rfl, by go_num, unhide HNX (unhide HGK), unhide Hst w3 hb3⟩
          case measure => simp [intOf]; omega
        · have e1 : decide ((o : Int) < d) = true := by simp; omega
          have e2 : decide (d > (o : Int)) = true := e1
          have HGK : Hid (¬ t.good k) := fun h => hbk ((unhide HOK).1 h).2
          have cS := (hbw2.cell (p := ⟨2, 0, none⟩) (World.block_lt_of_cell? _ _ (unhide HS))).trans (unhide HS)
          have HB2 := hide hbw2
          clear hshp hbk hnx hol2 hsd hbw2
          go_wp2
          go_region
          all_goals (
            go_wp2
            go_ret2
            exact .inr ⟨k, _, ⟨hlt, unhide HG, unhide HGK, by simp, by simp, by have := (unhide HB2).size; simp; omega⟩, rfl, ((unhide HB2).drew.alloc (by have := (unhide HB2).size; simp; omega) _)⟩)
      · have hsd : decide (Shp b l d) = false := by simpa using hshp
        rw [hsd]
        have HGK : Hid (¬ t.good k) := fun h => hshp ((unhide HOK).1 h).1
        have cS := (hbw2.cell (p := ⟨2, 0, none⟩) (World.block_lt_of_cell? _ _ (unhide HS))).trans (unhide HS)
        have HB2 := hide hbw2
        clear hshp hnx hol2 hsd hbw2
        go_wp2
        go_region
        all_goals (
          go_wp2
          go_ret2
          exact .inr ⟨k, _, ⟨hlt, unhide HG, unhide HGK, by simp, by simp, by have := (unhide HB2).size; simp; omega⟩, rfl, ((unhide HB2).drew.alloc (by have := (unhide HB2).size; simp; omega) _)⟩)
    · have : k = len := by omega
      subst this
      have g1 : decide ((k : Int) < (k : Int)) = false := by simp
      go_wp2
      go_ret2
      exact .inl ⟨unhide HG, rfl, hb⟩
end Go.Proofs.YtlnglpphlcebdadDoor
