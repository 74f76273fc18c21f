/- Walk of the document's stored blocks. Rows of numbers of one's own. -/
import Derived.Test.YtbbcfghlhgaofadDoorMg13
import Derived.Test.YtbbcfghlhgaofadDoorMg5
namespace Go.Proofs.YtbbcfghlhgaofadDoor
open Go.RowKit Pm Cn Nf Ps

theorem five_text (o t : ByteArray) (a b c d e : Nat) : (o ++ ⟨#[UInt8.ofNat a]⟩ ++ ⟨#[UInt8.ofNat b]⟩ ++ ⟨#[UInt8.ofNat c]⟩ ++ ⟨#[UInt8.ofNat d]⟩ ++ ⟨#[UInt8.ofNat e]⟩ ++ t).data.toList = o.data.toList ++ ([UInt8.ofNat a, UInt8.ofNat b, UInt8.ofNat c, UInt8.ofNat d, UInt8.ofNat e] ++ t.data.toList) := by
  simp [ByteArray.data_append]

set_option maxHeartbeats 4000000 in
set_option maxRecDepth 100000 in
theorem storedOf_any (s : ByteArray) (F : Nat) (w : World) (hs : s.size ≤ 300000) (hF : s.size ≤ 65535 * F) (hF0 : 0 < F) (hF5 : F ≤ 5) :
    Calls Tryd.prog 14 #[.string s] w fun e w' => e = .returned (.string ⟨(stoB s.data.toList F).toArray⟩) ∧ Below w.heap.size w w' := by
  have HBY : Hid (∀ (m : Nat) (w : World), m < 256 → Calls Tryd.prog 26 #[.int .i64 (m : Int)] w fun e w' => e = .returned (.string ⟨#[UInt8.ofNat m]⟩) ∧ Below w.heap.size w w') := fun m w h => byte_any m w h
  obtain ⟨G, hG⟩ : ∃ G, G = stoB s.data.toList F := ⟨_, rfl⟩
  rw [← hG]
  have HG := hide hG
  clear hG
  go_enter Tryd.func14, Tryd.ntmps14
  go_wp2
  go_loopw [0, 3] (fun sv ov wr => ∃ (t o : ByteArray) (f : Nat), sv = .string t ∧ ov = .string o ∧ t.size ≤ 300000 ∧ o.size + t.size + 5 * f ≤ 400000 ∧ Hid (G = o.data.toList ++ stoB t.data.toList f) ∧ t.size ≤ 65535 * f ∧ 0 < f ∧ Below w.heap.size w wr) (fun sv _ _ => (match sv with | .string t => t.size | _ => 0))
  case atStart => exact ⟨s, ⟨#[]⟩, F, rfl, rfl, hs, by show 0 + _ + _ ≤ _; omega, unhide HG, hF, hF0, Below.refl _ _⟩
  case round =>
    obtain ⟨t, o, f, rfl, rfl, ht3, hot, HGr, htf, hf0, hbr⟩ := hrel
    by_cases hlt : 65535 < t.size
    · have g1 : decide ((t.size : Int) > 65535) = true := by simp; omega
      have g1' : decide ((65535 : Int) < (t.size : Int)) = true := g1
      have g1n : decide (65535 < t.size) = true := by simp; omega
      have g2 : ((65535 : Int) == (t.size : Int)) = false := by simp; omega
      have g2' : ((t.size : Int) == 65535) = false := by simp; omega
      have hti : (65535 : Int) ≤ (t.size : Int) := by omega
      have htn : 65535 ≤ t.size := by omega
      obtain ⟨f', hf'⟩ : ∃ f', f = f' + 1 := ⟨f - 1, by omega⟩
      have hcs : (t.extract 0 65535).size = 65535 := by simp; omega
      have hbs : (t.extract 65535 t.size).size = t.size - 65535 := by simp
      obtain ⟨o2, ho2⟩ : ∃ o2, o2 = o ++ ⟨#[UInt8.ofNat 0]⟩ ++ ⟨#[UInt8.ofNat 255]⟩ ++ ⟨#[UInt8.ofNat 255]⟩ ++ ⟨#[UInt8.ofNat 0]⟩ ++ ⟨#[UInt8.ofNat 0]⟩ ++ t.extract 0 65535 := ⟨_, rfl⟩
      have hos : o2.size = o.size + 65540 := by rw [ho2]; simp only [ByteArray.size_append, hcs]; rfl
      have HGN : Hid (G = o2.data.toList ++ stoB (t.extract 65535 t.size).data.toList f') := by
        show _ = _
        rw [unhide HGr, hf', ho2, five_text, List.append_assoc, cut_front, cut_back]
        show o.data.toList ++ (if 65535 < t.data.toList.length then _ else _) = _
        rw [if_pos (by rw [list_size]; exact hlt)]
        have hl : (t.data.toList.take 65535).length = 65535 := by rw [List.length_take, list_size]; omega
        unfold blk
        rw [hl]
        simp
      obtain ⟨u, hu⟩ : ∃ u, u = t.extract 65535 t.size := ⟨_, rfl⟩
      have hu' : t.extract 65535 t.size = u := hu.symm
      rw [hu'] at hbs HGN
      have hq : u.toList ≠ [] := fun q => by
        rw [ByteArray.toList_eq] at q
        have h1 : u.data.toList.length = u.size := list_size u
        rw [q] at h1
        simp only [List.length_nil] at h1
        omega
      have hq1 : (u.toList == []) = false := beq_eq_false_iff_ne.2 hq
      have hq2 : u.toList.isEmpty = false := by simpa using hq
      have hq3 : (u.toList == (⟨#[]⟩ : ByteArray).toList) = false := by rw [ByteArray.toList_eq ⟨#[]⟩]; exact hq1
      have HO2 := hide ho2
      have H0 : Hid (∀ w, Calls Tryd.prog 26 #[.int .i64 0] w fun e w' => e = .returned (.string ⟨#[UInt8.ofNat 0]⟩) ∧ Below w.heap.size w w') := fun w => unhide HBY 0 w (by omega)
      have H255 : Hid (∀ w, Calls Tryd.prog 26 #[.int .i64 255] w fun e w' => e = .returned (.string ⟨#[UInt8.ofNat 255]⟩) ∧ Below w.heap.size w w') := fun w => unhide HBY 255 w (by omega)
      have n1 : ¬ (9223372036854775807 < o.size + 1) := by omega
      have n2 : ¬ (9223372036854775807 < o.size + 1 + 1) := by omega
      have n3 : ¬ (9223372036854775807 < o.size + 1 + 1 + 1) := by omega
      have n4 : ¬ (9223372036854775807 < o.size + 1 + 1 + 1 + 1) := by omega
      have n5 : ¬ (9223372036854775807 < o.size + 1 + 1 + 1 + 1 + 1) := by omega
      have n6 : ¬ (9223372036854775807 < o.size + 1 + 1 + 1 + 1 + 1 + t.size) := by omega
      have n7 : ¬ (9223372036854775807 < o.size + 1 + 1 + 1 + 1 + 1 + 65535) := by omega
      have n8 : ¬ (9223372036854775807 < o.size + 1 + 1 + 1 + 1 + 1 + min 65535 t.size) := by omega
      have HF1 := hide hf'
      clear hu hq HGr hf' ho2
      go_wp2_with fail
      haveI : Nonempty (BelowOf w.heap.size w) := ⟨⟨w, Below.refl _ _⟩⟩
      refine region_below w.heap.size w hbr (by kernel_rfl) ?_
      repeat (quiet_step (first | (go_at_call 26; first | exact Calls.below_of (Nat.le_refl _) (unhide H0 _) | exact Calls.below_of (Nat.le_refl _) (unhide H255 _))))
      refine wpQuiet_nil ?_
      intro _ hw'
      obtain ⟨⟨wq, hwq⟩, rfl⟩ := hw'
      clear H0 H255
      go_wp2
      go_roundw
      case rel => exact ⟨u, o2, f', rfl, by rw [unhide HO2]; rfl, by omega, by have := unhide HF1; omega, HGN, by have := unhide HF1; omega, by have := unhide HF1; omega, hwq⟩
      case measure => simp; omega
    · have g1 : decide ((t.size : Int) > 65535) = false := by simp; omega
      have g1' : decide ((65535 : Int) < (t.size : Int)) = false := g1
      have g1n : decide (65535 < t.size) = false := by simp; omega
      obtain ⟨f', hf'⟩ : ∃ f', f = f' + 1 := ⟨f - 1, by omega⟩
      obtain ⟨n, hn⟩ : ∃ n, n = t.size := ⟨_, rfl⟩
      obtain ⟨a0, ha0⟩ : ∃ a, a = n % 256 := ⟨_, rfl⟩
      obtain ⟨a1, ha1⟩ : ∃ a, a = n / 256 := ⟨_, rfl⟩
      obtain ⟨b0, hb0⟩ : ∃ a, a = 255 - a0 := ⟨_, rfl⟩
      obtain ⟨b1, hb1⟩ : ∃ a, a = 255 - a1 := ⟨_, rfl⟩
      have z0 : (t.size : Int) % 256 = (a0 : Int) := by omega
      have z1 : (t.size : Int) / 256 = (a1 : Int) := by omega
      have z0t : (t.size : Int).tmod 256 = (a0 : Int) := by rw [Int.tmod_eq_emod_of_nonneg (by omega)]; exact z0
      have z1t : (t.size : Int).tdiv 256 = (a1 : Int) := by rw [Int.tdiv_eq_ediv_of_nonneg (by omega)]; exact z1
      have z2 : (255 : Int) - (a0 : Int) = (b0 : Int) := by omega
      have z3 : (255 : Int) - (a1 : Int) = (b1 : Int) := by omega
      have l0 : a0 < 256 := by omega
      have l1 : a1 < 256 := by omega
      have l2 : b0 < 256 := by omega
      have l3 : b1 < 256 := by omega
      have hf1 : t.extract 0 t.size = t := by simp
      have hf2 : t.extract t.size t.size = ⟨#[]⟩ := by
        apply text_ext
        rw [cut_back]
        simp
      obtain ⟨o2, ho2⟩ : ∃ o2, o2 = o ++ ⟨#[UInt8.ofNat 1]⟩ ++ ⟨#[UInt8.ofNat a0]⟩ ++ ⟨#[UInt8.ofNat a1]⟩ ++ ⟨#[UInt8.ofNat b0]⟩ ++ ⟨#[UInt8.ofNat b1]⟩ ++ t := ⟨_, rfl⟩
      have HGN : Hid (o2 = ⟨G.toArray⟩) := by
        show _ = _
        apply text_ext
        rw [unhide HGr, hf', ho2, five_text]
        show _ = o.data.toList ++ (if 65535 < t.data.toList.length then _ else _)
        rw [if_neg (by rw [list_size]; exact hlt)]
        unfold blk
        rw [list_size, hb0, hb1, ha0, ha1, hn]
        rfl
      have HO2 := hide ho2
      have H1 : Hid (∀ w, Calls Tryd.prog 26 #[.int .i64 1] w fun e w' => e = .returned (.string ⟨#[UInt8.ofNat 1]⟩) ∧ Below w.heap.size w w') := fun w => unhide HBY 1 w (by omega)
      have wa0 : IntKind.i64.wrap (a0 : Int) = (a0 : Int) := by rw [IntKind.wrap_i64]; omega
      have wa1 : IntKind.i64.wrap (a1 : Int) = (a1 : Int) := by rw [IntKind.wrap_i64]; omega
      have wb0 : IntKind.i64.wrap (b0 : Int) = (b0 : Int) := by rw [IntKind.wrap_i64]; omega
      have wb1 : IntKind.i64.wrap (b1 : Int) = (b1 : Int) := by rw [IntKind.wrap_i64]; omega
      have HA0 := hide (fun w => unhide HBY a0 w l0)
      have HA1 := hide (fun w => unhide HBY a1 w l1)
      have HB0 := hide (fun w => unhide HBY b0 w l2)
      have HB1 := hide (fun w => unhide HBY b1 w l3)
      have hos : o.size ≤ 400000 := by omega
      have n1 : ¬ (9223372036854775807 < o.size + 1) := by omega
      have n2 : ¬ (9223372036854775807 < o.size + 1 + 1) := by omega
      have n3 : ¬ (9223372036854775807 < o.size + 1 + 1 + 1) := by omega
      have n4 : ¬ (9223372036854775807 < o.size + 1 + 1 + 1 + 1) := by omega
      have n5 : ¬ (9223372036854775807 < o.size + 1 + 1 + 1 + 1 + 1) := by omega
      have n6 : ¬ (9223372036854775807 < o.size + 1 + 1 + 1 + 1 + 1 + t.size) := by omega
      have n7 : ¬ (9223372036854775807 < o.size + 1 + 1 + 1 + 1 + 1 + 65535) := by omega
      have n8 : ¬ (9223372036854775807 < o.size + 1 + 1 + 1 + 1 + 1 + min 65535 t.size) := by omega
      clear ha0 ha1 hb0 hb1 hn HGr hf' ho2
      go_wp2_with fail
      haveI : Nonempty (BelowOf w.heap.size w) := ⟨⟨w, Below.refl _ _⟩⟩
      refine region_below w.heap.size w hbr (by kernel_rfl) ?_
      quiet_step (fail)
      quiet_step (fail)
      quiet_step ((go_at_call 26; exact Calls.below_of (Nat.le_refl _) (unhide H1 _)))
      quiet_step (fail)
      quiet_step (fail)
      quiet_step (fail)
      quiet_step ((go_at_call 26; exact Calls.below_of (Nat.le_refl _) (unhide HA0 _)))
      quiet_step (fail)
      quiet_step (fail)
      quiet_step (fail)
      quiet_step ((go_at_call 26; exact Calls.below_of (Nat.le_refl _) (unhide HA1 _)))
      quiet_step (fail)
      quiet_step (fail)
      quiet_step (fail)
      quiet_step (fail)
      quiet_step ((go_at_call 26; exact Calls.below_of (Nat.le_refl _) (unhide HB0 _)))
      quiet_step (fail)
      quiet_step (fail)
      quiet_step (fail)
      quiet_step (fail)
      quiet_step ((go_at_call 26; exact Calls.below_of (Nat.le_refl _) (unhide HB1 _)))
      quiet_step (fail)
      quiet_step (fail)
      quiet_step (fail)
      quiet_step (fail)
      quiet_step (fail)
      quiet_step (fail)
      refine wpQuiet_nil ?_
      intro _ hw'
      obtain ⟨⟨wq, hwq⟩, rfl⟩ := hw'
      go_wp2
      go_ret
      exact ⟨by rw [← unhide HGN, unhide HO2]; rfl, hwq⟩
end Go.Proofs.YtbbcfghlhgaofadDoor
namespace Go.Proofs.YtbbcfghlhgaofadDoor
open Go.RowKit

theorem intVals_set (z : Nat → Int) (n i : Nat) (x : Int) (hi : i < n) : (intVals z n).set i (.int .i64 x) = intVals (fun j => if j = i then x else z j) n := by
  apply List.ext_getElem?
  intro j
  rw [List.getElem?_set, intVals_length]
  by_cases hj : j < n
  · rw [intVals_at _ _ _ hj, intVals_at _ _ _ hj]
    by_cases e : i = j
    · subst e; rw [if_pos rfl, if_pos hi, if_pos rfl]
    · rw [if_neg e, if_neg (fun h => e h.symm)]
  · rw [List.getElem?_eq_none (by rw [intVals_length]; omega), List.getElem?_eq_none (by rw [intVals_length]; omega)]
    split
    · omega
    · rfl
theorem intVals_congr {f g : Nat → Int} (n : Nat) (h : ∀ j, j < n → f j = g j) : intVals f n = intVals g n := List.map_congr_left (fun j hj => by rw [h j (List.mem_range.1 hj)])
theorem intVals_none (n : Nat) : intVals (fun _ => 0) n = List.replicate n (.int .i64 0) := by
  unfold intVals
  rw [List.map_const', List.length_range]
theorem made_own (w : World) (n : Nat) (hn : n ≤ 10000000) : (w.alloc (.cells (madeCells #[.int .i64 0] n) 3)).ownsRow w.heap.size 3 1 (.slice (some ⟨w.heap.size, 0, none⟩) n n) n (intVals (fun _ => 0) n) := by
  rw [intVals_none]
  have := World.ownsRow_lit (base := w.heap.size) (e := 3) (size := 1) w (madeCells #[.int .i64 0] n) n (Nat.le_refl _) (by unfold maxLen; omega) (by rw [size_madeCells, Nat.mul_one])
  rw [toList_madeCells_one] at this
  exact this
theorem own_keep {w w' : World} {B n : Nat} {v : Value} {xs : List Value} (h : w.ownsRow B 3 1 v n xs) (hb : Below w.heap.size w w') : w'.ownsRow B 3 1 v n xs := by
  refine h.kept (row := none) ⟨hb.os, hb.tape, hb.output, hb.size, fun k hk _ => hb.block k hk⟩ ?_
  cases v.ownBlock with
  | none => exact .inl rfl
  | some k => exact .inr (by simp)
theorem own_int {w : World} {base g n cap : Nat} {z : Nat → Int} (h : w.ownsRow base 3 1 (.slice (some ⟨g, 0, none⟩) n cap) n (intVals z n)) (j : Nat) (hj : j < n) : w.cell? ⟨g, j, none⟩ = some (.int .i64 (z j)) := by
  rw [h.cellAt j (by omega), intVals_at _ _ _ hj]
end Go.Proofs.YtbbcfghlhgaofadDoor
