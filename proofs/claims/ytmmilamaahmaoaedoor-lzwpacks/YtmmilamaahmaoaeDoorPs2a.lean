/- Texts of pieces, read. -/
import Derived.Test.YtmmilamaahmaoaeDoorWp
import Derived.Test.YtmmilamaahmaoaeDoorRD
namespace Go.Proofs.YtmmilamaahmaoaeDoor
open Ps

/-- The bytes of pieces, read, are the pieces; whatever stands behind. -/
theorem tv_textP {l : List Pc} (h : Fit l) : tv (textP l) = val l := by
  unfold tv textP
  rw [show (⟨(Bt.yl ((len l + 7) / 8) (val l)).toArray⟩ : ByteArray).data.toList = Bt.yl ((len l + 7) / 8) (val l) by simp, Bt.num_yl]
  refine Nat.mod_eq_of_lt (Nat.lt_of_lt_of_le (val_lt h) ?_)
  rw [Bt.pow256]
  exact Nat.pow_le_pow_right (by omega) (by omega)
theorem textP_size (l : List Pc) : (textP l).size = (len l + 7) / 8 := by
  show (Bt.yl ((len l + 7) / 8) (val l)).toArray.size = _
  simp [Bt.yl_length]
theorem at_text {l : List Pc} (h : Fit l) (more : ByteArray) : At (tv (textP l ++ more)) (8 * (textP l ++ more).size) 0 l := by
  have e : tv (textP l ++ more) = val l + 2 ^ len l * (2 ^ (8 * (textP l).size - len l) * tv more) := by
    unfold tv
    rw [ByteArray.data_append, Array.toList_append, Bt.num_append]
    have h1 : Crc.num (textP l).data.toList = val l := tv_textP h
    have h2 : (textP l).data.toList.length = (textP l).size := Array.length_toList
    rw [h1, h2, ← Nat.mul_assoc, ← Nat.pow_add]
    have := textP_size l
    rw [show len l + (8 * (textP l).size - len l) = 8 * (textP l).size by omega]
  rw [e]
  have := textP_size l
  have hs : 8 * (textP l ++ more).size = len l + (8 * (textP l ++ more).size - len l) := by
    rw [ByteArray.size_append]; omega
  rw [hs]
  exact at_front h

end Go.Proofs.YtmmilamaahmaoaeDoor
