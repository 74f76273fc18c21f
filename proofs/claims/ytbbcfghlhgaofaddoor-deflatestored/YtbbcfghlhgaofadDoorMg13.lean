/- Walks of the document's own texts of bits: a byte; the highest first. Walks of stored blocks: the program's and the document's. The closed fact: nothing, stored. -/
import Derived.Test.YtbbcfghlhgaofadDoorMg1
import Derived.Test.YtbbcfghlhgaofadDoorMg12
import Derived.Test.YtbbcfghlhgaofadDoorMg8
import Derived.Test.YtbbcfghlhgaofadDoorMg10
namespace Go.Proofs.YtbbcfghlhgaofadDoor
open Go.RowKit

theorem byte_any (n : Nat) (w : World) (hn : n < 256) :
    Calls Tryd.prog 26 #[.int .i64 (n : Int)] w fun e w' => e = .returned (.string ⟨#[UInt8.ofNat n]⟩) ∧ Below w.heap.size w w' := by
  have hcv := own_text (w.alloc (.cells #[.int .u8 (n : Int)] 5)) w.heap.size (.slice (some ⟨w.heap.size, 0, none⟩) 1 1) 1 [UInt8.ofNat n] (by
    have := World.ownsRow_lit (base := w.heap.size) (e := 5) (size := 1) w #[.int .u8 (n : Int)] 1 (Nat.le_refl _) (by decide) rfl
    have e : (UInt8.ofNat n).toNat = n := by rw [UInt8.toNat_ofNat']; omega
    simpa [byteVals, e] using this)
  go_enter Tryd.func26, Tryd.ntmps26
  go_wp2
  go_ret
  exact ⟨rfl, (Below.refl _ _).alloc (Nat.le_refl _) _⟩

end Go.Proofs.YtbbcfghlhgaofadDoor
namespace Go.Proofs.YtbbcfghlhgaofadDoor
open Go.RowKit Pm Cn Nf Ps

theorem cut_front (t : ByteArray) (k : Nat) : (t.extract 0 k).data.toList = t.data.toList.take k := by
  simp [ByteArray.data_extract]
theorem cut_back (t : ByteArray) (k : Nat) : (t.extract k t.size).data.toList = t.data.toList.drop k := by
  rw [ByteArray.data_extract, Array.toList_extract, List.extract_eq_take_drop]
  apply List.take_of_length_le
  rw [List.length_drop]
  show t.data.toList.length - k ≤ t.data.size - k
  rw [Array.length_toList]
  exact Nat.le_refl _
theorem list_size (t : ByteArray) : t.data.toList.length = t.size := Array.length_toList

set_option maxHeartbeats 2000000 in
set_option maxRecDepth 100000 in
theorem stored_any (s : ByteArray) (ao : Option Addr) (n cap F : Nat) (w : World) (hs : s.size ≤ 300000) (hF : s.size ≤ 65535 * F) (hF0 : 0 < F) (hF5 : F ≤ 5) :
    Calls Tryd.prog 25 #[.string s, .slice ao n cap] w fun e w' => e = .returned (.string (textP (storP s.data.toList F))) ∧ Below w.heap.size w w' := by
  have ba : Below w.heap.size w (w.alloc (.cells #[.slice none 0 0, .int .i64 0] 88)) := (Below.refl _ _).alloc (Nat.le_refl _) _
  have hW0 := new_writer2 w
  have HK0 : Hid (∀ w', Kept w.heap.size (w.alloc (.cells #[.slice none 0 0, .int .i64 0] 88)) w' → Below w.heap.size w w') := fun w' hk => ba.trans (hk.below hW0 (Nat.le_refl _))
  have HW0 := hide hW0
  have HGO : Hid (storP s.data.toList F = [] ++ storP s.data.toList F) := rfl
  obtain ⟨G, hG⟩ : ∃ G, G = storP s.data.toList F := ⟨_, rfl⟩
  rw [← hG]
  have HG := hide hG
  clear ba hW0 hG
  go_enter Tryd.func25, Tryd.ntmps25
  go_wp2
  obtain ⟨p, hp⟩ : ∃ p, p = w.heap.size := ⟨_, rfl⟩
  rw [← hp] at HW0 HK0 ⊢
  have HP := hide hp
  clear hp
  generalize w.alloc (.cells #[.slice none 0 0, .int .i64 0] 88) = w0 at *
  go_loopw [0] (fun sv wr => ∃ (t : ByteArray) (ls : List Pc) (f : Nat), sv = .string t ∧ t.size ≤ 300000 ∧ Hid (WP wr p ls) ∧ Kept p w0 wr ∧ len ls % 8 = 0 ∧ Hid (G = ls ++ storP t.data.toList f) ∧ t.size ≤ 65535 * f ∧ 0 < f ∧ len ls + 8 * t.size + 40 * f ≤ 3000000) (fun sv _ => (match sv with | .string t => t.size | _ => 0))
  case atStart => exact ⟨s, [], F, rfl, hs, HW0, Kept.refl _ _, rfl, by show _ = _; rw [unhide HG]; exact unhide HGO, hF, hF0, by show 0 + _ + _ ≤ _; omega⟩
  case round =>
    clear HW0 HGO
    obtain ⟨t, ls, f, rfl, ht3, HWr, hKr, h8, HGr, htf, hf0, hbd⟩ := hrel
    by_cases hlt : 65535 < t.size
    · have g1 : decide ((t.size : Int) > 65535) = true := by simp; omega
      have g1' : decide ((65535 : Int) < (t.size : Int)) = true := g1
      have g1n : decide (65535 < t.size) = true := by simp; omega
      have hti : (65535 : Int) ≤ (t.size : Int) := by omega
      have htn : 65535 ≤ t.size := by omega
      have hcs : (t.extract 0 65535).size = 65535 := by simp; omega
      have hbs : (t.extract 65535 t.size).size = t.size - 65535 := by simp
      have HX := hide (wstored_any p ls (t.extract 0 65535) false wr (unhide HWr) h8 (by omega) (by omega))
      obtain ⟨f', hf'⟩ : ∃ f', f = f' + 1 := ⟨f - 1, by omega⟩
      have HGN : Hid (G = (ls ++ stoP false (t.extract 0 65535).data.toList) ++ storP (t.extract 65535 t.size).data.toList f') := by
        show _ = _
        rw [unhide HGr, hf', List.append_assoc, cut_front, cut_back]
        show ls ++ (if 65535 < t.data.toList.length then _ else _) = _
        rw [if_pos (by rw [list_size]; exact hlt)]
      have hln : len (ls ++ stoP false (t.extract 0 65535).data.toList) = len ls + 40 + 8 * 65535 := by
        rw [len_append, stoP_len, list_size, hcs]
      obtain ⟨u, hu⟩ : ∃ u, u = t.extract 65535 t.size := ⟨_, rfl⟩
      obtain ⟨v, hv⟩ : ∃ v, v = t.extract 0 65535 := ⟨_, rfl⟩
      have hu' : t.extract 65535 t.size = u := hu.symm
      have hv' : t.extract 0 65535 = v := hv.symm
      rw [hu'] at hbs HGN
      rw [hv'] at HX HGN hln
      clear hu hv hcs HWr
      go_wp2_with fail
      refine (unhide HX).mono ?_; rintro e w1 ⟨rfl, hW1, hk1⟩
      have HW1 := hide hW1
      have hk1w := hKr.trans hk1
      clear HX hW1
      go_wp2
      go_roundw
      case rel => exact ⟨u, _, f', rfl, by omega, HW1, hk1w, by omega, HGN, by omega, by omega, by omega⟩
      case measure => simp; omega
    · have g1 : decide ((t.size : Int) > 65535) = false := by simp; omega
      have g1' : decide ((65535 : Int) < (t.size : Int)) = false := g1
      have g1n : decide (65535 < t.size) = false := by simp; omega
      obtain ⟨f', hf'⟩ : ∃ f', f = f' + 1 := ⟨f - 1, by omega⟩
      have HGN : Hid (ls ++ stoP true t.data.toList = G) := by
        show _ = _
        rw [unhide HGr, hf']
        show _ = ls ++ (if 65535 < t.data.toList.length then _ else _)
        rw [if_neg (by rw [list_size]; exact hlt)]
      have HX := hide (wstored_any p ls t true wr (unhide HWr) h8 (by omega) (by omega))
      clear HWr HGr hf'
      go_wp2_with fail
      refine (unhide HX).mono ?_; rintro e w1 ⟨rfl, hW1, hk1⟩
      rw [unhide HGN] at hW1
      have HTX := hide (wtext_any p G w1 hW1)
      have HB := hide (unhide HK0 w1 (hKr.trans hk1))
      clear HX hW1
      go_wp2_with fail
      refine (unhide HTX).mono ?_; rintro e w2 ⟨rfl, hw2⟩
      replace hw2 := hw2.symm
      subst hw2
      clear HTX
      go_wp2
      go_ret
      exact ⟨rfl, by rw [← unhide HP]; exact unhide HB⟩

/-- So many blocks at most. -/
def fu (n : Nat) : Nat := n / 65535 + 1
theorem fu_ok (n : Nat) (h : n ≤ 300000) : n ≤ 65535 * fu n ∧ 0 < fu n ∧ fu n ≤ 5 := by unfold fu; omega

theorem storedS_any (s : ByteArray) (w : World) (hs : s.size ≤ 300000) :
    Calls Tryd.prog 13 #[.string s] w fun e w' => e = .returned (.tuple #[.string (textP (storP s.data.toList (fu s.size))), .nilIface]) ∧ Below w.heap.size w w' := by
  have g1 : decide ((s.size : Int) > 300000) = false := by simp; omega
  have g1' : decide ((300000 : Int) < (s.size : Int)) = false := g1
  have g1n : decide (300000 < s.size) = false := by simp; omega
  obtain ⟨h1, h2, h3⟩ := fu_ok s.size hs
  have HX := hide (stored_any s none 0 0 (fu s.size) w hs h1 h2 h3)
  clear h1 h2 h3
  go_enter Tryd.func13, Tryd.ntmps13
  go_wp2_with fail
  refine (unhide HX).mono ?_; rintro e w1 ⟨rfl, hb1⟩
  clear HX
  go_wp2
  go_ret2
  exact ⟨rfl, hb1⟩
end Go.Proofs.YtbbcfghlhgaofadDoor
namespace Go.Proofs.YtbbcfghlhgaofadDoor
open Go.RowKit Pm Cn Nf Ps

theorem blank_text : textP (storP (⟨#[]⟩ : ByteArray).data.toList (fu (⟨#[]⟩ : ByteArray).size)) = ⟨#[1, 0, 0, 255, 255]⟩ := by
  rw [textP_sto]
  rfl
theorem blank_any (w : World) :
    Calls Tryd.prog 12 #[] w fun e w' => e = .returned (.bool true) ∧ Below w.heap.size w w' := by
  have HX := hide (storedS_any ⟨#[]⟩ w (by decide))
  rw [blank_text] at HX
  go_enter Tryd.func12, Tryd.ntmps12
  go_wp2_with fail
  refine (unhide HX).mono ?_; rintro e w1 ⟨rfl, hb1⟩
  clear HX
  go_wp2
  go_ret
  exact ⟨rfl, hb1⟩
end Go.Proofs.YtbbcfghlhgaofadDoor
