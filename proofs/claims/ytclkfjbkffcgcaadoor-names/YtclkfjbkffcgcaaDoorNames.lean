/- Walks of the closed sentence on the names and numbers of package api. -/
import Derived.Test.YtclkfjbkffcgcaaDoorSameInts
import Derived.Test.YtclkfjbkffcgcaaDoorCoded1
import Derived.Test.YtclkfjbkffcgcaaDoorLaid
import Derived.Deep.RegionHeld
import Derived.Deep.WholeRow
namespace Go.Proofs.YtclkfjbkffcgcaaDoor
open Go.RowKit

theorem row_at (xs : List Int) (j : Nat) (hj : j < xs.length) : ((xs.map (Value.int .i64)).toArray)[j]? = some (.int .i64 (xs.getD j 0)) := by
  simp [List.getElem?_eq_getElem hj, List.getD]

/-- The bounds of package api. -/
def bounds : List Int := [300000, 15, 300, 32768, 258, 3, 256, 16, 8, 12, 256, 16, 20, 64, 4000, 100, 16]

/-- What stands ahead of each error's text; the rest of it. -/
def pre : ByteArray := ⟨#[108, 97, 121, 101, 114, 99, 97, 107, 101, 58, 32]⟩
def short (j : Nat) : ByteArray := ([⟨#[116, 101, 120, 116]⟩, ⟨#[98, 111, 117, 110, 100]⟩, ⟨#[115, 104, 97, 112, 101]⟩, ⟨#[115, 117, 109]⟩, ⟨#[110, 97, 109, 101]⟩, ⟨#[110, 111, 110, 101]⟩, ⟨#[99, 111, 108, 111, 114, 115]⟩, ⟨#[102, 117, 108, 108]⟩, ⟨#[112, 111, 119, 101, 114]⟩] : List ByteArray).getD j ByteArray.empty
def shortRow : Array Value := #[.string (short 0), .string (short 1), .string (short 2), .string (short 3), .string (short 4), .string (short 5), .string (short 6), .string (short 7), .string (short 8)]
theorem shortRow_at : ∀ k, k < 9 → shortRow[k]? = some (.string (short k))
  | 0, _ => rfl
  | 1, _ => rfl
  | 2, _ => rfl
  | 3, _ => rfl
  | 4, _ => rfl
  | 5, _ => rfl
  | 6, _ => rfl
  | 7, _ => rfl
  | 8, _ => rfl
  | n + 9, h => absurd h (by omega)
theorem full_list : ∀ k, k < 9 → sentText k = (pre ++ short k).data.toList
  | 0, _ => by decide +kernel
  | 1, _ => by decide +kernel
  | 2, _ => by decide +kernel
  | 3, _ => by decide +kernel
  | 4, _ => by decide +kernel
  | 5, _ => by decide +kernel
  | 6, _ => by decide +kernel
  | 7, _ => by decide +kernel
  | 8, _ => by decide +kernel
  | n + 9, h => absurd h (by omega)
theorem short_size (k : Nat) : (short k).size ≤ 6 := by
  unfold short
  match k with
  | 0 => decide
  | 1 => decide
  | 2 => decide
  | 3 => decide
  | 4 => decide
  | 5 => decide
  | 6 => decide
  | 7 => decide
  | 8 => decide
  | n + 9 => simp
theorem full_is (s : ByteArray) (k : Nat) (hk : k < 9) (h : s.data.toList = sentText k) : s = pre ++ short k := by
  rw [full_list k hk] at h
  exact ByteArray.ext (Array.toList_inj.1 h)

/-- (*errorString).Error. -/
theorem error_any (p : Addr) (s : ByteArray) (w : World) (h : w.cell? p = some (.string s)) :
    Calls Tryd.prog 56 #[.pointer (some p)] w fun e w' => e = .returned (.string s) ∧ w' = w := by
  obtain ⟨b, o, sp⟩ := p
  have hsp : sp = none := by simpa using World.cell?_spot h
  subst hsp
  go_enter Tryd.func56, Tryd.ntmps56
  go_wp2
  go_ret
  exact ⟨rfl, rfl⟩

/-- errors.New. -/
theorem new_any (s : ByteArray) (w : World) :
    Calls Tryd.prog 9 #[.string s] w fun e w' => e = .returned (.iface 47 (.pointer (some ⟨w.heap.size, 0, none⟩))) ∧ w' = w.alloc (.cells #[.string s] 49) := by
  go_enter Tryd.func9, Tryd.ntmps9
  go_wp2
  go_ret
  exact ⟨rfl, rfl⟩

theorem methodError (v : Value) (w : World) : (Go.method 218 47 v "Error").run Tryd.prog w = .ok (56, v) w := by kernel_rfl

set_option maxHeartbeats 2000000 in
theorem names_any (w : World) (a : Nat → Addr) (hS : Sent w a) (hT : ∀ i, i < 9 → ∃ s : ByteArray, w.cell? (a i) = some (.string s) ∧ s.data.toList = sentText i) :
    Calls Tryd.prog 3 #[] w fun e w' => e = .returned (.bool true) ∧ Below w.heap.size w w' := by
  have HS : Hid (Sent w a) := hS
  have HT : Hid (∀ i, i < 9 → ∃ s : ByteArray, w.cell? (a i) = some (.string s) ∧ s.data.toList = sentText i) := hT
  clear hS hT
  go_enter Tryd.func3, Tryd.ntmps3
  go_wp2_with fail
  have hb0 : Below w.heap.size w ((w.alloc (.cells (bounds.map (Value.int .i64)).toArray 3)).alloc (.cells (bounds.map (Value.int .i64)).toArray 3)) :=
    ((Below.refl _ _).alloc (Nat.le_refl _) _).alloc (by simp) _
  refine (sameInts_yes w.heap.size (w.heap.size + 1) 17 17 bounds _ (by decide) ?_ ?_).mono ?_
  · intro j hj
    show ((w.alloc (.cells (bounds.map (Value.int .i64)).toArray 3)).alloc (.cells (bounds.map (Value.int .i64)).toArray 3)).cell? _ = _
    rw [World.cell?_alloc_past _ _ _ (by simp), World.cell?_alloc_at _ _ _ _ rfl]
    exact row_at bounds j hj
  · intro j hj
    show ((w.alloc (.cells (bounds.map (Value.int .i64)).toArray 3)).alloc (.cells (bounds.map (Value.int .i64)).toArray 3)).cell? _ = _
    rw [World.cell?_alloc_at _ _ _ _ (by simp)]
    exact row_at bounds j hj
  rintro e w1 ⟨rfl, hb10⟩
  have hb1 : Below w.heap.size w w1 := hb0.trans (hb10.mono hb0.size)
  clear hb0 hb10
  have hS1 := HS.out.below hb1
  have c0 := hS1.cell 0 (by decide)
  have c1 := hS1.cell 1 (by decide)
  have c2 := hS1.cell 2 (by decide)
  have c3 := hS1.cell 3 (by decide)
  have c4 := hS1.cell 4 (by decide)
  have c5 := hS1.cell 5 (by decide)
  have c6 := hS1.cell 6 (by decide)
  have c7 := hS1.cell 7 (by decide)
  have c8 := hS1.cell 8 (by decide)
  simp only [sentAt, sentV, List.getD_cons_zero, List.getD_cons_succ] at c0 c1 c2 c3 c4 c5 c6 c7 c8
  go_wp2
  clear c0 c1 c2 c3 c4 c5 c6 c7 c8
  have hcE : ∀ j, j < 9 → ((w1.alloc (.cells (sentRow a) 25)).alloc (.cells shortRow 9)).cell? ⟨w1.heap.size, j, none⟩ = some (.iface 47 (.pointer (some (a j)))) := fun j hj => by
    rw [World.cell?_alloc_past _ _ _ (by simp), World.cell?_alloc_at _ _ _ _ rfl, sentRow_at a j hj]; rfl
  have hcT : ∀ j, j < 9 → ((w1.alloc (.cells (sentRow a) 25)).alloc (.cells shortRow 9)).cell? ⟨w1.heap.size + 1, j, none⟩ = some (.string (short j)) := fun j hj => by
    rw [World.cell?_alloc_at _ _ _ _ (by simp), shortRow_at j hj]
  go_loopw [5] (fun i wx => ∃ k : Nat, k ≤ 9 ∧ i = .int .i64 k ∧ Hid (∀ j, j < 9 → wx.cell? ⟨w1.heap.size, j, none⟩ = some (.iface 47 (.pointer (some (a j))))) ∧ Hid (∀ j, j < 9 → wx.cell? ⟨w1.heap.size + 1, j, none⟩ = some (.string (short j))) ∧ Below w1.heap.size w1 wx) (fun i _ => 9 - (intOf i).toNat)
  case atStart => exact ⟨0, by omega, rfl, hcE, hcT, ((Below.refl _ _).alloc (Nat.le_refl _) _).alloc (by simp) _⟩
  case round =>
    obtain ⟨k, hk9, rfl, HcE, HcT, hbx⟩ := hrel
    clear hcE hcT
    have hbw := hb1.trans (hbx.mono hb1.size)
    by_cases hlt : k < 9
    · have hd : decide ((k : Int) < 9) = true := by simp; omega
      have hce := HcE.out k hlt
      have HSr : Hid (Sent wr a) := HS.out.below hbw
      go_wp2_with fail
      have hbF : Below wr.heap.size wr (wr.alloc (.cells #[.int .i64 7, .iface 47 (.pointer (some (a k)))] 32)) := (Below.refl _ _).alloc (Nat.le_refl _) _
      refine (code_fault wr.heap.size 0 7 k _ a (HSr.out.below hbF) hlt (by simp) (by rw [World.cell?_alloc_at _ _ _ _ rfl]; rfl)).mono ?_
      rintro e w4 ⟨rfl, hb4⟩
      have hb5 : Below wr.heap.size wr w4 := hbF.trans (hb4.mono hbF.size)
      clear hbF hb4 hce
      have c1 : w4.cell? ⟨w1.heap.size, k, none⟩ = some (.iface 47 (.pointer (some (a k)))) := by
        rw [hb5.cell (cell_block (HcE.out k hlt))]; exact HcE.out k hlt
      have c2 : w4.cell? ⟨w1.heap.size + 1, k, none⟩ = some (.string (short k)) := by
        rw [hb5.cell (cell_block (HcT.out k hlt))]; exact HcT.out k hlt
      have c3 : Hid (w4.cell? (a k) = some (.string (({ data := #[108, 97, 121, 101, 114, 99, 97, 107, 101, 58, 32] } : ByteArray) ++ short k))) := by
        obtain ⟨s, h1, h2⟩ := HT.out k hlt
        have hbw4 := hbw.trans (hb5.mono hbw.size)
        show w4.cell? (a k) = _
        rw [hbw4.cell (cell_block h1), h1, full_is s k hlt h2]; rfl
      have HS4 : Hid (Sent w4 a) := HSr.out.below hb5
      have mE := methodError
      have hki : (k : Int) < 9 := by omega
      have hsz := short_size k
      have hwr : IntKind.i64.wrap ((k : Int) + 1) = (k : Int) + 1 := by rw [IntKind.wrap_i64]; omega
      generalize short k = sh at *
      have HK : Hid (∀ w', Below w4.heap.size w4 w' → (w'.cell? ⟨w1.heap.size, k, none⟩ = some (.iface 47 (.pointer (some (a k)))) ∧ w'.cell? ⟨w1.heap.size + 1, k, none⟩ = some (.string sh))) := fun w' hb => ⟨by rw [hb.cell (cell_block c1)]; exact c1, by rw [hb.cell (cell_block c2)]; exact c2⟩
      clear hS1
      go_wp2_with fail
      go_region_held (fun w' => (w'.cell? ⟨w1.heap.size, k, none⟩ = some (.iface 47 (.pointer (some (a k)))) ∧ w'.cell? ⟨w1.heap.size + 1, k, none⟩ = some (.string sh))) (first | exact HK.out _ (Below.refl _ _).drew | exact HK.out _ ((Below.refl _ _).drew.trans (by assumption))) (first
        | (go_at_call 56; refine (error_any (a k) (({ data := #[108, 97, 121, 101, 114, 99, 97, 107, 101, 58, 32] } : ByteArray) ++ sh) _ ?_).mono ?_; exact c3.out; rintro e w5 ⟨rfl, rfl⟩)
        | (go_at_call 8; refine (coded_sent k _ _ a ?_ hlt ?_).mono ?_; exact HS4.out.below (Below.refl _ _).drew; exact beq_self_eq_true _; rintro e w5 ⟨rfl, hb6⟩))
      all_goals
        have hb45 : Below w4.heap.size w4 w5 := (Below.refl _ _).drew.trans hb6
        have hb7 := hb5.trans (hb45.mono hb5.size)
        clear HK hb45 hb6
        go_wp2
        go_roundw
        case rel => exact ⟨k + 1, by omega, by go_num, fun j hj => by rw [hb7.cell (cell_block (HcE.out j hj))]; exact HcE.out j hj, fun j hj => by rw [hb7.cell (cell_block (HcT.out j hj))]; exact HcT.out j hj, hbx.trans (hb7.mono hbx.size)⟩
        case measure => simp [intOf]; omega
    · have : k = 9 := by omega
      subst this
      have hd : decide (((9 : Nat) : Int) < 9) = false := by decide
      have hSr := HS.out.below hbw
      have hbN : Below wr.heap.size wr (wr.alloc (.cells #[.string { data := #[97, 110, 111, 116, 104, 101, 114, 32, 111, 110, 101] }] 49)) := (Below.refl _ _).alloc (Nat.le_refl _) _
      have hother := code_bare ⟨wr.heap.size, 0, none⟩ 9 _ a (hSr.below hbN) (by omega) ⟨_, _, heap_alloc_last _ _⟩ (fun j hj => ⟨fun e => by
        obtain ⟨c, t, h⟩ := hSr.row j hj
        have := heap_block h
        rw [← e] at this
        exact absurd this (Nat.lt_irrefl _), fun e => by omega⟩)
      have Hother : Hid (Calls _ _ _ _ _) := hother
      clear hother hS1 HcE HcT hSr
      go_wp2_with fail
      refine (new_any _ _).mono ?_
      rintro e w5 ⟨rfl, rfl⟩
      go_wp2_with fail
      refine Hother.out.mono ?_
      rintro e w6 ⟨rfl, hb6⟩
      go_wp2_with fail
      refine (coded_nil _).mono ?_
      rintro e w7 ⟨rfl, rfl⟩
      go_wp2
      go_ret
      have h8 := hbN.trans (hb6.mono hbN.size)
      exact ⟨rfl, hbw.trans (h8.mono hbw.size)⟩
end Go.Proofs.YtclkfjbkffcgcaaDoor
