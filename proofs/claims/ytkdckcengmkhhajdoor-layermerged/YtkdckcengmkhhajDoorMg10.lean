/- A document without layers is clear. Rows of layers of a call's own. Pictures: parts, places that are near, pixels painted: the program's. Pictures: pixels that are meant become one color: the program's. Pictures: the functions that tell a pixel of each place: the program's. Written by genrt.py. Pictures: what the functions of package raster refuse. Written by genrt5.py. Pictures: what the functions of package raster refuse as out of bounds. Written by genrt5.py. plain.Code of one of the errors. layercakelaw2.coded by its contracts. -/
import Derived.Test.YtkdckcengmkhhajDoorLy9
import Derived.Test.YtkdckcengmkhhajDoorRo1
import Derived.Test.YtkdckcengmkhhajDoorLy4
import Derived.Test.YtkdckcengmkhhajDoorMg4
import Derived.Deep.AppendLies
import Derived.Test.YtkdckcengmkhhajDoorMg9
import Derived.Test.YtkdckcengmkhhajDoorMg5
import Derived.Test.YtkdckcengmkhhajDoorMg2
import Derived.Test.YtkdckcengmkhhajDoorCode
namespace Go.Proofs.YtkdckcengmkhhajDoor
open Go.RowKit

set_option maxHeartbeats 2000000 in
set_option maxRecDepth 100000 in
theorem still_any (w : World) (aS : Nat → Addr) (hS : Er3 w aS) :
    Calls Tryd.prog 7 #[] w fun e w' => e = .returned (.bool true) ∧ Below w.heap.size w w' := by
  have HF : Hid (Calls Tryd.prog 10 #[.agg #[.int .i64 2, .int .i64 1, .slice none 0 0]] w fun e w' => ∃ ai ci, e = .returned (.tuple #[.agg #[.int .i64 2, .int .i64 1, .slice ai 2 ci], .nilIface]) ∧ IsPx w' ai 2 (fun _ => ⟨0, 0, 0, 0⟩) ∧ Below w.heap.size w w') := (flatten_ok 2 1 none 0 0 (fun _ => default) (fun _ => none) (fun _ => 0) w aS hS ⟨.inl rfl, fun i hi => by omega⟩ (-1) (.inr (.inl ⟨⟨by omega, by omega, by omega⟩, rfl, rfl, fun j hj => by omega⟩)) (by omega))
  have HBl : Hid (∀ wr, Calls Tryd.prog 29 #[.int .i64 2, .int .i64 1, .agg #[.int .u8 0, .int .u8 0, .int .u8 0, .int .u8 0]] wr fun e w' => ∃ g c, e = .returned (.agg #[.int .i64 2, .int .i64 1, .slice (some ⟨g, 0, none⟩) 2 c]) ∧ wr.heap.size ≤ g ∧ PR w' g 2 (fun _ => ⟨0, 0, 0, 0⟩) ∧ Below wr.heap.size wr w') := fun wr => blankP_any 2 1 ⟨0, 0, 0, 0⟩ wr (by omega) (by omega)
  have HSP := hide (fun a b c d wr (hA : IsPx wr a 2 (fun _ => ⟨0, 0, 0, 0⟩)) hB => samePicture_any (2 : Int) (1 : Int) a b 2 c d (fun _ => ⟨0, 0, 0, 0⟩) wr hA hB (by omega))
  clear hS
  go_enter Tryd.func7, Tryd.ntmps7
  go_wp2_with fail
  refine (unhide HF).mono ?_
  rintro e w1 ⟨ai, ci, rfl, hp, hb1⟩
  have hA := al1 w1 (.cells #[.int .i64 2, .int .i64 1, .slice ai 2 ci] 32)
  have HP := hide (hp.below hA.below)
  have HB := hide (hb1.trans (hA.below.mono hb1.size))
  have hHA := hide hA
  have hBw := hb1.size
  clear hA hp hb1 HF
  go_wp2
  generalize w1.alloc (.cells #[.int .i64 2, .int .i64 1, .slice ai 2 ci] 32) = w2 at *
  obtain ⟨hs2, kP, hb2⟩ := unhide hHA
  obtain ⟨T, hT⟩ : ∃ T, T = w1.heap.size := ⟨_, rfl⟩
  rw [← hT] at kP hs2 ⊢
  have hlT : T < w2.heap.size := by omega
  obtain ⟨⟨c0, c1, c2⟩, _⟩ := three kP
  have hdr := (Below.refl w2.heap.size w2).drew
  have KS := hide (fun (w' : World) (h : Below w2.heap.size w2 w') => (⟨(h.cell (p := ⟨T, 0, none⟩) hlT).trans c0, (h.cell (p := ⟨T, 1, none⟩) hlT).trans c1, (h.cell (p := ⟨T, 2, none⟩) hlT).trans c2⟩ : w'.cell? ⟨T, 0, none⟩ = some (.int .i64 2) ∧ w'.cell? ⟨T, 1, none⟩ = some (.int .i64 1) ∧ w'.cell? ⟨T, 2, none⟩ = some (.slice ai 2 ci)))
  have hwT : w.heap.size ≤ T := by omega
  clear hHA hb2 kP hT hBw
  go_region_held (fun w' => w'.cell? ⟨T, 0, none⟩ = some (.int .i64 2) ∧ w'.cell? ⟨T, 1, none⟩ = some (.int .i64 1) ∧ w'.cell? ⟨T, 2, none⟩ = some (.slice ai 2 ci))
    (first | with_reducible exact unhide KS _ hdr | with_reducible exact unhide KS _ hq3 | with_reducible exact unhide KS _ hq4)
    (first | (go_at_call 29; refine (unhide HBl _).mono ?_; rintro e w3 ⟨g, cg, rfl, hg, hpr, hb3⟩; have hq3 := hdr.trans (hb3.mono (by exact Nat.le_refl _))) | (go_at_call 15; refine (unhide HSP ai (some ⟨g, 0, none⟩) ci cg w3 ((unhide HP).below hq3) (hpr.isPx (by omega))).mono ?_; rintro e w4 ⟨rfl, hb4⟩; have hq4 := hq3.trans (hb4.mono hq3.size)))
  all_goals
    have HB4 := hide ((unhide HB).trans (hq4.mono (by omega)))
    clear hq3 hq4 hb3 hb4 HP HB
    go_wp2
    go_ret
    exact ⟨rfl, unhide HB4⟩
end Go.Proofs.YtkdckcengmkhhajDoor
namespace Go.Proofs.YtkdckcengmkhhajDoor
open Go.RowKit

def Ly.cells (l : Ly) (a : Option Addr) (c : Nat) : List Value := [.string l.name, .int .i64 l.x, .int .i64 l.y, .bool l.hid, .int .i64 l.op, .int .i64 l.mo, .int .i64 l.wd, .int .i64 l.hg, .slice a l.n c]
def lyVals (L : Nat → Ly) (a : Nat → Option Addr) (c : Nat → Nat) : Nat → List Value
  | 0 => []
  | i + 1 => lyVals L a c i ++ (L i).cells (a i) (c i)
theorem lyVals_length (L : Nat → Ly) (a : Nat → Option Addr) (c : Nat → Nat) (n : Nat) : (lyVals L a c n).length = n * 9 := by
  induction n with
  | zero => rfl
  | succ n ih => simp [lyVals, ih, Ly.cells]; omega
theorem lyVals_at (L : Nat → Ly) (a : Nat → Option Addr) (c : Nat → Nat) (n i j : Nat) (h : i < n) (hj : j < 9) : (lyVals L a c n)[i * 9 + j]? = ((L i).cells (a i) (c i))[j]? := by
  induction n with
  | zero => omega
  | succ n ih =>
    have hl := lyVals_length L a c n
    unfold lyVals
    by_cases e : i = n
    · subst e
      rw [List.getElem?_append_right (by omega), show i * 9 + j - (lyVals L a c i).length = j by omega]
    · rw [List.getElem?_append_left (by omega)]
      exact ih (by omega)
theorem ly_one (l : Ly) (a : Option Addr) (c : Nat) : ∀ u ∈ l.cells a c, u.oneCell' = true := fun u h => by
  simp only [Ly.cells, List.mem_cons, List.not_mem_nil, or_false] at h
  rcases h with rfl | rfl | rfl | rfl | rfl | rfl | rfl | rfl | rfl <;> rfl
/-- Whatever comes behind: the first ones are as they were. -/
theorem lyVals_congr {L M : Nat → Ly} {a b : Nat → Option Addr} {c d : Nat → Nat} (n : Nat) (h : ∀ i, i < n → L i = M i ∧ a i = b i ∧ c i = d i) : lyVals L a c n = lyVals M b d n := by
  induction n with
  | zero => rfl
  | succ n ih => unfold lyVals; rw [ih (fun i hi => h i (by omega)), (h n (by omega)).1, (h n (by omega)).2.1, (h n (by omega)).2.2]
/-- A row of layers of a call's own. -/
theorem own_ly {w : World} {e : TypeId} {base n cap : Nat} {s : Option Addr} {L : Nat → Ly} {a : Nat → Option Addr} {c : Nat → Nat} (h : w.ownsRow base e 9 (.slice s n cap) n (lyVals L a c n)) (hn : n ≤ maxLen) (hp : ∀ i, i < n → IsPx w (a i) (L i).n (L i).q) : IsLy w s n L a c := by
  refine ⟨?_, hp⟩
  by_cases h0 : n = 0
  · exact .inl h0
  rcases h.2 with ⟨_, q⟩ | ⟨g, cap', cur, hv, _⟩
  · exact absurd q h0
  · injection hv with hv _ _
    subst hv
    refine .inr ⟨g, 0, rfl, hn, fun i hi => ?_⟩
    have hc : ∀ j, j < 9 → w.cell? ⟨g, 0 + i * 9 + j, none⟩ = ((L i).cells (a i) (c i))[j]? := fun j hj => by
      rw [Nat.zero_add, h.cellAt (i * 9 + j) (by omega)]
      exact lyVals_at L a c n i j hi hj
    exact ⟨hc 0 (by omega), hc 1 (by omega), hc 2 (by omega), hc 3 (by omega), hc 4 (by omega), hc 5 (by omega), hc 6 (by omega), hc 7 (by omega), hc 8 (by omega)⟩
/-- The cells of a layer that lies whole in a block. -/
theorem ly_lies {w : World} {k : Nat} {l : Ly} {a : Option Addr} {c : Nat} {t : TypeId} (h : w.heap[k]? = some (.cells #[.string l.name, .int .i64 l.x, .int .i64 l.y, .bool l.hid, .int .i64 l.op, .int .i64 l.mo, .int .i64 l.wd, .int .i64 l.hg, .slice a l.n c] t)) : ∀ j u, (l.cells a c)[j]? = some u → w.cell? ((⟨k, 0, none⟩ : Addr).add j) = some u := fun j u hj => by
  have hadd : (⟨k, 0, none⟩ : Addr).add j = ⟨k, j, none⟩ := by unfold Addr.add; split <;> simp_all
  rw [hadd, blk_cell h, ← hj]
  simp [Ly.cells]
/-- Nine cells, stored. -/
def put9 (w : World) (k : Nat) (v0 v1 v2 v3 v4 v5 v6 v7 v8 : Value) : World := ((((((((w.setCell ⟨k, 0, none⟩ v0).setCell ⟨k, 1, none⟩ v1).setCell ⟨k, 2, none⟩ v2).setCell ⟨k, 3, none⟩ v3).setCell ⟨k, 4, none⟩ v4).setCell ⟨k, 5, none⟩ v5).setCell ⟨k, 6, none⟩ v6).setCell ⟨k, 7, none⟩ v7).setCell ⟨k, 8, none⟩ v8
theorem put9_far (w : World) (k b o : Nat) (v0 v1 v2 v3 v4 v5 v6 v7 v8 : Value) (h : k ≠ b) : (put9 w k v0 v1 v2 v3 v4 v5 v6 v7 v8).cell? ⟨b, o, none⟩ = w.cell? ⟨b, o, none⟩ := by
  unfold put9
  rw [World.cell?_setCell_far _ _ _ _ h, World.cell?_setCell_far _ _ _ _ h, World.cell?_setCell_far _ _ _ _ h, World.cell?_setCell_far _ _ _ _ h, World.cell?_setCell_far _ _ _ _ h, World.cell?_setCell_far _ _ _ _ h, World.cell?_setCell_far _ _ _ _ h, World.cell?_setCell_far _ _ _ _ h, World.cell?_setCell_far _ _ _ _ h]
theorem put9_below {B k : Nat} {w0 w : World} (h : Below B w0 w) (hk : B ≤ k) (v0 v1 v2 v3 v4 v5 v6 v7 v8 : Value) : Below B w0 (put9 w k v0 v1 v2 v3 v4 v5 v6 v7 v8) :=
  ((((((((h.setCell (p := ⟨k, 0, none⟩) hk _).setCell (p := ⟨k, 1, none⟩) hk _).setCell (p := ⟨k, 2, none⟩) hk _).setCell (p := ⟨k, 3, none⟩) hk _).setCell (p := ⟨k, 4, none⟩) hk _).setCell (p := ⟨k, 5, none⟩) hk _).setCell (p := ⟨k, 6, none⟩) hk _).setCell (p := ⟨k, 7, none⟩) hk _).setCell (p := ⟨k, 8, none⟩) hk _
end Go.Proofs.YtkdckcengmkhhajDoor
namespace Go.Proofs.YtkdckcengmkhhajDoor
open Go.RowKit




end Go.Proofs.YtkdckcengmkhhajDoor
namespace Go.Proofs.YtkdckcengmkhhajDoor
open Go.RowKit

def picO (W H : Int) (a : Option Addr) (n c : Nat) : Obj := .cells #[.int .i64 W, .int .i64 H, .slice a n c] 32
def pixO (p : Px) : Obj := .cells #[.int .u8 (p.r.toNat : Int), .int .u8 (p.g.toNat : Int), .int .u8 (p.b.toNat : Int), .int .u8 (p.a.toNat : Int)] 42


end Go.Proofs.YtkdckcengmkhhajDoor
namespace Go.Proofs.YtkdckcengmkhhajDoor
open Go.RowKit








end Go.Proofs.YtkdckcengmkhhajDoor
namespace Go.Proofs.YtkdckcengmkhhajDoor
open Go.RowKit

theorem far3 (w : World) (k b o : Nat) (v1 v2 v3 : Value) (h : k ≠ b) : (((w.setCell ⟨k, 0, none⟩ v1).setCell ⟨k, 1, none⟩ v2).setCell ⟨k, 2, none⟩ v3).cell? ⟨b, o, none⟩ = w.cell? ⟨b, o, none⟩ := by
  rw [World.cell?_setCell_far _ _ _ _ h, World.cell?_setCell_far _ _ _ _ h, World.cell?_setCell_far _ _ _ _ h]










end Go.Proofs.YtkdckcengmkhhajDoor
namespace Go.Proofs.YtkdckcengmkhhajDoor
open Go.RowKit

theorem rightN {W H n : Nat} (hW0 : 1 ≤ W) (hW : W ≤ 256) (hH0 : 1 ≤ H) (hH : H ≤ 256) (hn : n = W * H) : RightP (W : Int) (H : Int) n := ⟨by omega, by omega, by rw [hn]; simp⟩
/-- Near. -/
def Nr (z : Int) : Prop := -10000 ≤ z ∧ z ≤ 10000
instance (z : Int) : Decidable (Nr z) := by unfold Nr; infer_instance
theorem near4_any (z0 z1 z2 z3 : Int) (w : World) :
    Calls Tryd.prog 62 #[.slice (some ⟨w.heap.size, 0, none⟩) 4 4] (w.alloc (.cells #[.int .i64 z0, .int .i64 z1, .int .i64 z2, .int .i64 z3] 3)) fun e w' => e = .returned (.bool (decide (Nr z0 ∧ Nr z1 ∧ Nr z2 ∧ Nr z3))) ∧ w' = w.alloc (.cells #[.int .i64 z0, .int .i64 z1, .int .i64 z2, .int .i64 z3] 3) := by
  have k := heap_alloc_new w (.cells #[.int .i64 z0, .int .i64 z1, .int .i64 z2, .int .i64 z3] 3)
  have e4 : ∀ i, i < 4 → i = 0 ∨ i = 1 ∨ i = 2 ∨ i = 3 := fun i h => by omega
  refine areNear_any w.heap.size 4 4 (fun i => if i = 0 then z0 else if i = 1 then z1 else if i = 2 then z2 else z3) _ (by omega) (fun i hi => ?_) _ ?_
  · rcases e4 i hi with rfl | rfl | rfl | rfl <;> exact blk_cell k _
  · rw [decide_eq_true_eq]
    constructor
    · rintro ⟨h0, h1, h2, h3⟩ i hi
      rcases e4 i hi with rfl | rfl | rfl | rfl
      · exact h0
      · exact h1
      · exact h2
      · exact h3
    · intro h
      exact ⟨h 0 (by omega), h 1 (by omega), h 2 (by omega), h 3 (by omega)⟩
theorem near2_any (z0 z1 : Int) (w : World) :
    Calls Tryd.prog 62 #[.slice (some ⟨w.heap.size, 0, none⟩) 2 2] (w.alloc (.cells #[.int .i64 z0, .int .i64 z1] 3)) fun e w' => e = .returned (.bool (decide (Nr z0 ∧ Nr z1))) ∧ w' = w.alloc (.cells #[.int .i64 z0, .int .i64 z1] 3) := by
  have k := heap_alloc_new w (.cells #[.int .i64 z0, .int .i64 z1] 3)
  have e2 : ∀ i, i < 2 → i = 0 ∨ i = 1 := fun i h => by omega
  refine areNear_any w.heap.size 2 2 (fun i => if i = 0 then z0 else z1) _ (by omega) (fun i hi => ?_) _ ?_
  · rcases e2 i hi with rfl | rfl <;> exact blk_cell k _
  · rw [decide_eq_true_eq]
    constructor
    · rintro ⟨h0, h1⟩ i hi
      rcases e2 i hi with rfl | rfl
      · exact h0
      · exact h1
    · intro h
      exact ⟨h 0 (by omega), h 1 (by omega)⟩










end Go.Proofs.YtkdckcengmkhhajDoor
namespace Go.Proofs.YtkdckcengmkhhajDoor
open Go.RowKit

theorem code_sent (i : Nat) (w : World) (a : Nat → Addr) (hS : Sent w a) (hi : i < 9) :
    Calls Tryd.prog 40 #[sentV a i] w fun e w' => e = .returned (.tuple #[.int .i64 ((i : Int) + 1), .int .i64 (-1)]) ∧ Below w.heap.size w w' := by
  refine (code_bare (a i) i w a hS (by omega) (hS.row i hi) (fun k hk => ⟨fun h => ?_, fun h => by rw [h]⟩)).mono ?_
  · rcases Nat.decEq k i with h' | h'
    · exact absurd h (hS.apart i k hi hk (fun e => h' e.symm))
    · exact h'
  · rintro e w' ⟨rfl, hb⟩
    refine ⟨?_, hb⟩
    unfold codeOf
    rw [if_pos hi]
end Go.Proofs.YtkdckcengmkhhajDoor
namespace Go.Proofs.YtkdckcengmkhhajDoor
open Go.RowKit

end Go.Proofs.YtkdckcengmkhhajDoor
