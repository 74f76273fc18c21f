/- Walks of the getting of bits. Walks of the reader of bits: nothing else is turned. The program's unpacker of codes in memory. -/
import Derived.Test.YtjcoahahponabaaGreatDoorMg7
import Derived.Test.YtjcoahahponabaaGreatDoorMg3
import Derived.Test.YtjcoahahponabaaGreatDoorLzd
import Derived.Test.YtjcoahahponabaaGreatDoorMg6
import Derived.Test.YtjcoahahponabaaGreatDoorMg4
import Derived.Deep.AppendLies
import Derived.BigRegion
namespace Go.Proofs.YtjcoahahponabaaGreatDoor
open Go.RowKit

theorem got_in (x b k : Nat) (hk : k < 32) (hb : b < 2) (hx : x < 2 ^ k) : bits .or .u32 (x : Int) ((b : Int) * 2 ^ k % 4294967296) = ((x + 2 ^ k * b : Nat) : Int) := by
  have hp : 2 ^ k ≤ 2147483648 := Nat.pow_le_pow_right (n := 2) (j := 31) (by omega) (by omega)
  have hor := Bt.or_above x b k hx
  rw [show ((2 : Int) ^ k) = ((2 ^ k : Nat) : Int) from by simp]
  generalize 2 ^ k = P at *
  have hpb : P * b ≤ 2147483648 := by
    have := Nat.mul_le_mul hp (show b ≤ 1 by omega)
    omega
  have hc : (b : Int) * (P : Int) % 4294967296 = ((P * b : Nat) : Int) := by
    rw [← Int.natCast_mul, Nat.mul_comm b P]
    omega
  rw [hc, ← hor]
  exact u32_or_nat x (P * b) (by omega) (by omega)

theorem got_lt (V a k : Nat) (h : k ≤ 32) : V / 2 ^ a % 2 ^ k < 4294967296 :=
  Nat.lt_of_lt_of_le (Nat.mod_lt _ (Nat.two_pow_pos k)) (Nat.pow_le_pow_right (n := 2) (j := 32) (by omega) h)

set_option maxHeartbeats 400000 in
theorem get_yes (p k d : Nat) (s : ByteArray) (w : World) (h : RAt w p s k) (hd : d ≤ 32) (hfit : k + d ≤ 8 * s.size) :
    Calls Tryz.prog 180 #[.pointer (some ⟨p, 0, none⟩), .int .i64 (d : Int)] w fun e w' => e = .returned (.tuple #[.int .u32 (tv s / 2 ^ k % 2 ^ d : Nat), .nilIface]) ∧ RAt w' p s (k + d) ∧ Below p w w' := by
  have hpl := h.lt
  have Hr := hide h
  have hsm := h.small
  obtain ⟨lf, hlf⟩ : ∃ lf, lf + k = 8 * s.size := ⟨8 * s.size - k, by have := h.within; omega⟩
  have Hlf := hide hlf
  have hdl : decide (lf < d) = false := by simp; omega
  clear h hlf
  go_enter Tryz.func180, Tryz.ntmps180
  go_wp2_with fail
  refine (readable_yes d _ hd).mono ?_; rintro e w1 ⟨rfl, rfl⟩
  go_wp2_with fail
  refine (left_any p k lf s _ (unhide Hr) (unhide Hlf)).mono ?_; rintro e w2 ⟨rfl, hb2⟩
  have Hr2 := hide ((unhide Hr).below hb2)
  replace hb2 := hb2.mono (Nat.le_of_lt hpl)
  go_wp2
  go_loopw [6, 18] (fun m i wr => ∃ j : Nat, j ≤ d ∧ i = .int .i64 j ∧ m = .int .u32 (tv s / 2 ^ k % 2 ^ j : Nat) ∧ RAt wr p s (k + j) ∧ Below p w1 wr) (fun _ i _ => d - (intOf i).toNat)
  case atStart => exact ⟨0, by omega, rfl, by simp [Nat.mod_one], unhide Hr2, hb2⟩
  case round =>
    obtain ⟨j, hj, rfl, rfl, hR, hb⟩ := hrel
    by_cases hlt : j < d
    · have hdk : decide ((j : Int) < (d : Int)) = true := by simp; omega
      have hxl : tv s / 2 ^ k % 2 ^ j < 2 ^ j := Nat.mod_lt _ (Nat.two_pow_pos j)
      have hin := got_in (tv s / 2 ^ k % 2 ^ j) (Bt.bit (tv s) (k + j)) j (by omega) (Bt.bit_lt _ _) hxl
      rw [← Bt.got_succ] at hin
      have hgl := got_lt (tv s) k (j + 1) (by omega)
      have hgl0 := got_lt (tv s) k j (by omega)
      have hbl := Bt.bit_lt (tv s) (k + j)
      have HR := hide hR
      have hjb : j < 32 := by omega
      clear hR hxl
      generalize hB : tv s / 2 ^ k % 2 ^ (j + 1) = y at *
      generalize hA : tv s / 2 ^ k % 2 ^ j = x at *
      have HB := hide hB
      clear hB hA
      go_wp2_with fail
      refine (rone_any p (k + j) s _ (unhide HR) (by omega)).mono ?_; rintro e w3 ⟨rfl, hR3, hb3⟩
      have HR3 := hide hR3
      clear hR3
      generalize Bt.bit (tv s) (k + j) = b at *
      go_wp2
      go_roundw
      case rel => exact ⟨j + 1, by omega, by go_num, by rw [unhide HB], unhide HR3, hb.trans hb3⟩
      case measure => simp [intOf]; omega
    · have : j = d := by omega
      subst this
      have hdk : decide ((j : Int) < (j : Int)) = false := by simp
      have HR := hide hR
      clear hR
      go_wp2
      go_ret2
      exact ⟨rfl, unhide HR, hb⟩

theorem get_bound (p k : Nat) (d : Int) (s : ByteArray) (v : Value) (w : World) (h : RAt w p s k) (hd : d < 0 ∨ 32 < d) (hc : w.cell? ⟨0, 0, none⟩ = some v) :
    Calls Tryz.prog 180 #[.pointer (some ⟨p, 0, none⟩), .int .i64 d] w fun e w' => e = .returned (.tuple #[.int .u32 0, v]) ∧ RAt w' p s k ∧ Below w.heap.size w w' := by
  have Hr := hide h
  clear h
  go_enter Tryz.func180, Tryz.ntmps180
  go_wp2_with fail
  refine (readable_no d _ hd).mono ?_; rintro e w1 ⟨rfl, rfl⟩
  go_wp2
  go_region
  go_wp2
  go_ret2
  exact ⟨rfl, (unhide Hr).drew, (Below.refl _ _).drew⟩

theorem get_text (p k d : Nat) (s : ByteArray) (v : Value) (w : World) (h : RAt w p s k) (hd : d ≤ 32) (hno : 8 * s.size < k + d) (hc : w.cell? ⟨1, 0, none⟩ = some v) :
    Calls Tryz.prog 180 #[.pointer (some ⟨p, 0, none⟩), .int .i64 (d : Int)] w fun e w' => e = .returned (.tuple #[.int .u32 0, v]) ∧ RAt w' p s k ∧ Below w.heap.size w w' := by
  have Hr := hide h
  have hw := h.within
  have hgl : 1 < w.heap.size := World.block_lt_of_cell? _ _ hc
  obtain ⟨lf, hlf⟩ : ∃ lf, lf + k = 8 * s.size := ⟨8 * s.size - k, by have := h.within; omega⟩
  have Hlf := hide hlf
  have hdl : decide (lf < d) = true := by simp; omega
  clear h hlf
  go_enter Tryz.func180, Tryz.ntmps180
  go_wp2_with fail
  refine (readable_yes d _ hd).mono ?_; rintro e w1 ⟨rfl, rfl⟩
  go_wp2_with fail
  refine (left_any p k lf s _ (unhide Hr) (unhide Hlf)).mono ?_; rintro e w2 ⟨rfl, hb2⟩
  have Hr2 := hide ((unhide Hr).below hb2)
  have hc2 := (hb2.cell (p := ⟨1, 0, none⟩) hgl).trans hc

  go_wp2
  go_region
  go_wp2
  go_ret2
  exact ⟨rfl, (unhide Hr2).drew, hb2.drew⟩
end Go.Proofs.YtjcoahahponabaaGreatDoor
namespace Go.Proofs.YtjcoahahponabaaGreatDoor
open Go.RowKit

theorem RAt.but {w w' : World} {p k : Nat} {s : ByteArray} {S : Nat → Prop} (h : RAt w p s k) (hb : But S w w') (hs : ¬ S p) : RAt w' p s k :=
  ⟨(hb.cell h.lt hs).trans h.text, (hb.cell h.lt hs).trans h.count, (hb.frozen h.lt hs).trans h.free1, h.within, h.small⟩

theorem rone_but (p k : Nat) (s : ByteArray) (w : World) (h : RAt w p s k) (hk : k < 8 * s.size) :
    Calls Tryz.prog 187 #[.pointer (some ⟨p, 0, none⟩)] w fun e w' => e = .returned (.int .u32 (Bt.bit (tv s) k : Nat)) ∧ RAt w' p s (k + 1) ∧ But (· = p) w w' := by
  have h0 := h.text
  have h1 := h.count
  have h2 := h.within
  have h3 := h.small
  have h4 := h.free1
  have hm := hide (h.moved (k + 1) (by omega))
  clear h
  obtain ⟨q, hq⟩ : ∃ q, q = k / 8 := ⟨_, rfl⟩
  have hq1 : (k : Int) / 8 = (q : Int) := by omega
  obtain ⟨r, hr⟩ : ∃ r, r = k % 8 := ⟨_, rfl⟩
  have hr1 : (k : Int) % 8 = (r : Int) := by omega
  have hqs : q < s.size := by omega
  have hqi : (q : Int) < (s.size : Int) := by omega
  have hrl : r < 8 := by omega
  have Hbit := hide (one_bit s q r hqs hrl)
  rw [show 8 * q + r = k from by omega] at Hbit
  have hx := s[q].toNat_lt
  have hsh : (s[q].toNat : Int) / 2 ^ r = ((s[q].toNat / 2 ^ r : Nat) : Int) := by simp
  have hyl : s[q].toNat / 2 ^ r < 256 := Nat.lt_of_le_of_lt (Nat.div_le_self _ _) hx
  generalize s[q].toNat / 2 ^ r = y at *
  have hand : bits .and .u8 (y : Int) 1 = ((y % 2 : Nat) : Int) := by
    have := u8_and_nat y 1 hyl (by omega)
    rw [nat_mask1] at this
    exact this
  obtain ⟨z, hz⟩ : ∃ z, z = y % 2 := ⟨_, rfl⟩
  rw [← hz] at hand Hbit
  have hzl : z < 2 := by omega
  clear hq hr hz
  go_enter Tryz.func187, Tryz.ntmps187
  go_wp2
  go_region
  go_wp2
  go_ret
  rw [← unhide Hbit]
  exact ⟨rfl, (unhide hm).1.drew, ((But.refl (· = p) w).setCell (p := ⟨p, 1, none⟩) rfl _).drew⟩

set_option maxHeartbeats 400000 in
theorem get_but (p k d : Nat) (s : ByteArray) (w : World) (h : RAt w p s k) (hd : d ≤ 32) (hfit : k + d ≤ 8 * s.size) :
    Calls Tryz.prog 180 #[.pointer (some ⟨p, 0, none⟩), .int .i64 (d : Int)] w fun e w' => e = .returned (.tuple #[.int .u32 (tv s / 2 ^ k % 2 ^ d : Nat), .nilIface]) ∧ RAt w' p s (k + d) ∧ But (· = p) w w' := by
  have Hr := hide h
  have hsm := h.small
  obtain ⟨lf, hlf⟩ : ∃ lf, lf + k = 8 * s.size := ⟨8 * s.size - k, by have := h.within; omega⟩
  have Hlf := hide hlf
  have hdl : decide (lf < d) = false := by simp; omega
  clear h hlf
  go_enter Tryz.func180, Tryz.ntmps180
  go_wp2_with fail
  refine (readable_yes d _ hd).mono ?_; rintro e w1 ⟨rfl, rfl⟩
  go_wp2_with fail
  refine (left_any p k lf s _ (unhide Hr) (unhide Hlf)).mono ?_; rintro e w2 ⟨rfl, hb2⟩
  have Hr2 := hide ((unhide Hr).below hb2)
  replace hb2 := (But.refl (· = p) w1).of_below hb2 (fun k h1 h2 => by omega)
  go_wp2
  go_loopw [6, 18] (fun m i wr => ∃ j : Nat, j ≤ d ∧ i = .int .i64 j ∧ m = .int .u32 (tv s / 2 ^ k % 2 ^ j : Nat) ∧ RAt wr p s (k + j) ∧ But (· = p) w1 wr) (fun _ i _ => d - (intOf i).toNat)
  case atStart => exact ⟨0, by omega, rfl, by simp [Nat.mod_one], unhide Hr2, hb2⟩
  case round =>
    obtain ⟨j, hj, rfl, rfl, hR, hb⟩ := hrel
    by_cases hlt : j < d
    · have hdk : decide ((j : Int) < (d : Int)) = true := by simp; omega
      have hxl : tv s / 2 ^ k % 2 ^ j < 2 ^ j := Nat.mod_lt _ (Nat.two_pow_pos j)
      have hin := got_in (tv s / 2 ^ k % 2 ^ j) (Bt.bit (tv s) (k + j)) j (by omega) (Bt.bit_lt _ _) hxl
      rw [← Bt.got_succ] at hin
      have hgl := got_lt (tv s) k (j + 1) (by omega)
      have hgl0 := got_lt (tv s) k j (by omega)
      have hbl := Bt.bit_lt (tv s) (k + j)
      have HR := hide hR
      have hjb : j < 32 := by omega
      clear hR hxl
      generalize hB : tv s / 2 ^ k % 2 ^ (j + 1) = y at *
      generalize hA : tv s / 2 ^ k % 2 ^ j = x at *
      have HB := hide hB
      clear hB hA
      go_wp2_with fail
      refine (rone_but p (k + j) s _ (unhide HR) (by omega)).mono ?_; rintro e w3 ⟨rfl, hR3, hb3⟩
      have HR3 := hide hR3
      clear hR3
      generalize Bt.bit (tv s) (k + j) = b at *
      go_wp2
      go_roundw
      case rel => exact ⟨j + 1, by omega, by go_num, by rw [unhide HB], unhide HR3, hb.trans hb3⟩
      case measure => simp [intOf]; omega
    · have : j = d := by omega
      subst this
      have hdk : decide ((j : Int) < (j : Int)) = false := by simp
      have HR := hide hR
      clear hR
      go_wp2
      go_ret2
      exact ⟨rfl, unhide HR, hb⟩

end Go.Proofs.YtjcoahahponabaaGreatDoor
namespace Go.Proofs.YtjcoahahponabaaGreatDoor
open Go.RowKit Lz

def pcVals (l : List (Nat × Nat)) : List Value := l.flatMap fun q => [.int .i64 (q.1 : Int), .int .i64 (q.2 : Int)]
theorem pcVals_append (a b : List (Nat × Nat)) : pcVals (a ++ b) = pcVals a ++ pcVals b := by simp [pcVals]
theorem pcVals_length (l : List (Nat × Nat)) : (pcVals l).length = l.length * 2 := by
  induction l with
  | nil => rfl
  | cons q l ih => rw [show pcVals (q :: l) = [Value.int .i64 (q.1 : Int), .int .i64 (q.2 : Int)] ++ pcVals l from rfl, List.length_append, ih]; simp only [List.length_cons, List.length_nil]; omega
theorem pcVals_at (l : List (Nat × Nat)) : ∀ j, j < l.length → (pcVals l)[2 * j]? = some (.int .i64 ((l.getD j (0, 0)).1 : Int)) ∧ (pcVals l)[2 * j + 1]? = some (.int .i64 ((l.getD j (0, 0)).2 : Int)) := by
  induction l with
  | nil => intro j h; simp at h
  | cons q l ih =>
    intro j h
    cases j with
    | zero => exact ⟨rfl, rfl⟩
    | succ j =>
      have := ih j (by simpa using h)
      rw [show pcVals (q :: l) = .int .i64 (q.1 : Int) :: .int .i64 (q.2 : Int) :: pcVals l from rfl]
      rw [show 2 * (j + 1) = 2 * j + 1 + 1 by omega]
      simpa using this

theorem own_move {w w' : World} {base size n : Nat} {e : TypeId} {v : Value} {xs : List Value} (h : w.ownsRow base e size v n xs) (hb : ∀ g, v.ownBlock = some g → w'.heap[g]? = w.heap[g]?) : w'.ownsRow base e size v n xs := by
  refine ⟨h.1, ?_⟩
  rcases h.2 with h2 | ⟨g, cap, cur, rfl, h3, h4, r⟩
  · exact .inl h2
  · exact .inr ⟨g, cap, cur, rfl, h3, (hb g rfl).trans h4, r⟩
theorem own_apart {w : World} {b1 b2 s1 s2 n1 n2 : Nat} {e1 e2 : TypeId} {v1 v2 : Value} {x1 x2 : List Value} (h1 : w.ownsRow b1 e1 s1 v1 n1 x1) (h2 : w.ownsRow b2 e2 s2 v2 n2 x2) (he : e1 ≠ e2) : ∀ g, v1.ownBlock = some g → v2.ownBlock ≠ some g := by
  intro g q1 q2
  rcases h1.2 with ⟨rfl, _⟩ | ⟨g1, cap1, cur1, rfl, _, a4, _⟩
  · simp [Value.ownBlock] at q1
  · rcases h2.2 with ⟨rfl, _⟩ | ⟨g2, cap2, cur2, rfl, _, c4, _⟩
    · simp [Value.ownBlock] at q2
    · have e1' : g1 = g := by simpa [Value.ownBlock] using q1
      have e2' : g2 = g := by simpa [Value.ownBlock] using q2
      subst e1'; subst e2'
      rw [a4] at c4
      simp only [Option.some.injEq, Obj.cells.injEq] at c4
      exact he c4.2.1
theorem RAt.blk {w w' : World} {r k : Nat} {s : ByteArray} (h : RAt w r s k) (hb : w'.heap[r]? = w.heap[r]?) : RAt w' r s k :=
  ⟨(World.cell?_of_block (a := ⟨r, 0, none⟩) hb).trans h.text, (World.cell?_of_block (a := ⟨r, 1, none⟩) hb).trans h.count, (World.frozen?_of_block (a := ⟨r, 1, none⟩) hb).trans h.free1, h.within, h.small⟩

/-- An unpacker at block p with its reader at block r. -/
structure UN (w : World) (p r : Nat) (s : ByteArray) (k W S N most : Nat) (vL : Value) (pcs : List (Nat × Nat)) (la ll : Nat) (vT : Value) (out : List UInt8) : Prop where
  rd : w.cell? ⟨p, 0, none⟩ = some (.pointer (some ⟨r, 0, none⟩))
  cd : CD w p 1 W S N
  lg : w.cell? ⟨p, 4, none⟩ = some vL
  l0 : w.cell? ⟨p, 5, none⟩ = some (.int .i64 (la : Int))
  l1 : w.cell? ⟨p, 6, none⟩ = some (.int .i64 (ll : Int))
  tx : w.cell? ⟨p, 7, none⟩ = some vT
  ms : w.cell? ⟨p, 8, none⟩ = some (.int .i64 (most : Int))
  free : ∀ j, w.frozen? ⟨p, j, none⟩ = false
  oL : w.ownsRow (p + 1) 251 2 vL pcs.length (pcVals pcs)
  oT : w.ownsRow (p + 1) 5 1 vT out.length (byteVals out)
  bits : RAt w r s k
  ltp : r < p

section
variable {w w' w0 w1 : World} {p r : Nat} {s : ByteArray} {k W S N most : Nat} {vL : Value} {pcs : List (Nat × Nat)} {la ll : Nat} {vT : Value} {out : List UInt8}

theorem UN.lt (h : UN w p r s k W S N most vL pcs la ll vT out) : p < w.heap.size := World.block_lt_of_cell? _ _ h.rd
theorem UN.same (h : UN w p r s k W S N most vL pcs la ll vT out) (hb : ∀ i, r ≤ i → i < w.heap.size → w'.heap[i]? = w.heap[i]?) : UN w' p r s k W S N most vL pcs la ll vT out := by
  have hl := h.lt
  have hr := h.ltp
  have hp := hb p (by omega) hl
  have c : ∀ j, w'.cell? ⟨p, j, none⟩ = w.cell? ⟨p, j, none⟩ := fun j => World.cell?_of_block (a := ⟨p, j, none⟩) hp
  have f : ∀ j, w'.frozen? ⟨p, j, none⟩ = w.frozen? ⟨p, j, none⟩ := fun j => World.frozen?_of_block (a := ⟨p, j, none⟩) hp
  exact ⟨(c 0).trans h.rd, h.cd.same (fun j _ => c j) (fun j _ => f j), (c 4).trans h.lg, (c 5).trans h.l0, (c 6).trans h.l1, (c 7).trans h.tx, (c 8).trans h.ms, fun j => (f j).trans (h.free j),
    own_move h.oL (fun g q => hb g (by have := (h.oL.lt g q).1; omega) (h.oL.lt g q).2), own_move h.oT (fun g q => hb g (by have := (h.oT.lt g q).1; omega) (h.oT.lt g q).2), h.bits.blk (hb r (Nat.le_refl _) (by omega)), hr⟩
theorem UN.below (h : UN w p r s k W S N most vL pcs la ll vT out) (hb : Below w.heap.size w w') : UN w' p r s k W S N most vL pcs la ll vT out := h.same (fun i _ hi => hb.block i hi)
theorem UN.kc {S' N' : Nat} (h : UN w p r s k W S N most vL pcs la ll vT out) (hk : KC p 1 w w') (hc : CD w' p 1 W S' N') : UN w' p r s k W S' N' most vL pcs la ll vT out := by
  have hr := h.ltp
  exact ⟨(hk.cell 0 (by omega) (by omega)).trans h.rd, hc, (hk.cell 4 (by omega) (by omega)).trans h.lg, (hk.cell 5 (by omega) (by omega)).trans h.l0, (hk.cell 6 (by omega) (by omega)).trans h.l1, (hk.cell 7 (by omega) (by omega)).trans h.tx, (hk.cell 8 (by omega) (by omega)).trans h.ms, fun j => (hk.frozen j).trans (h.free j),
    own_move h.oL (fun g q => hk.block g (by have := (h.oL.lt g q).1; omega)), own_move h.oT (fun g q => hk.block g (by have := (h.oT.lt g q).1; omega)), h.bits.blk (hk.block r (by omega)), hr⟩
theorem UN.read {k' : Nat} (h : UN w p r s k W S N most vL pcs la ll vT out) (hb : But (· = r) w w') (hR : RAt w' r s k') : UN w' p r s k' W S N most vL pcs la ll vT out := by
  have hl := h.lt
  have hr := h.ltp
  have hp := hb.block p hl (by show ¬ p = r; omega)
  have c : ∀ j, w'.cell? ⟨p, j, none⟩ = w.cell? ⟨p, j, none⟩ := fun j => World.cell?_of_block (a := ⟨p, j, none⟩) hp
  have f : ∀ j, w'.frozen? ⟨p, j, none⟩ = w.frozen? ⟨p, j, none⟩ := fun j => World.frozen?_of_block (a := ⟨p, j, none⟩) hp
  exact ⟨(c 0).trans h.rd, h.cd.same (fun j _ => c j) (fun j _ => f j), (c 4).trans h.lg, (c 5).trans h.l0, (c 6).trans h.l1, (c 7).trans h.tx, (c 8).trans h.ms, fun j => (f j).trans (h.free j),
    own_move h.oL (fun g q => hb.block g (h.oL.lt g q).2 (by show ¬ g = r; have := (h.oL.lt g q).1; omega)), own_move h.oT (fun g q => hb.block g (h.oT.lt g q).2 (by show ¬ g = r; have := (h.oT.lt g q).1; omega)), hR, hr⟩
/-- The word ahead is another one. -/
theorem UN.setLast (h : UN w p r s k W S N most vL pcs la ll vT out) (la' ll' : Nat) : UN ((w.setCell ⟨p, 5, none⟩ (.int .i64 (la' : Int))).setCell ⟨p, 6, none⟩ (.int .i64 (ll' : Int))) p r s k W S N most vL pcs la' ll' vT out ∧ Below r w ((w.setCell ⟨p, 5, none⟩ (.int .i64 (la' : Int))).setCell ⟨p, 6, none⟩ (.int .i64 (ll' : Int))) := by
  have hr := h.ltp
  have c : ∀ j, j ≠ 5 → j ≠ 6 → ((w.setCell ⟨p, 5, none⟩ (.int .i64 (la' : Int))).setCell ⟨p, 6, none⟩ (.int .i64 (ll' : Int))).cell? ⟨p, j, none⟩ = w.cell? ⟨p, j, none⟩ := fun j h5 h6 => by
    rw [World.cell?_setCell_other _ _ _ _ (by intro e; injection e with _ e2; omega), World.cell?_setCell_other _ _ _ _ (by intro e; injection e with _ e2; omega)]
  have f : ∀ j, ((w.setCell ⟨p, 5, none⟩ (.int .i64 (la' : Int))).setCell ⟨p, 6, none⟩ (.int .i64 (ll' : Int))).frozen? ⟨p, j, none⟩ = w.frozen? ⟨p, j, none⟩ := fun j => by
    rw [World.frozen?_setCell, World.frozen?_setCell]
  have b : ∀ i, i ≠ p → ((w.setCell ⟨p, 5, none⟩ (.int .i64 (la' : Int))).setCell ⟨p, 6, none⟩ (.int .i64 (ll' : Int))).heap[i]? = w.heap[i]? := fun i hi => by
    rw [Below.heap_setCell _ _ _ _ hi, Below.heap_setCell _ _ _ _ hi]
  refine ⟨⟨(c 0 (by omega) (by omega)).trans h.rd, ⟨(c 1 (by omega) (by omega)).trans h.cd.width, (c 2 (by omega) (by omega)).trans h.cd.size, (c 3 (by omega) (by omega)).trans h.cd.next, (f 2).trans h.cd.free1, (f 3).trans h.cd.free2⟩, (c 4 (by omega) (by omega)).trans h.lg, ?_, ?_, (c 7 (by omega) (by omega)).trans h.tx, (c 8 (by omega) (by omega)).trans h.ms, fun j => (f j).trans (h.free j), own_move h.oL (fun g q => b g (by have := (h.oL.lt g q).1; omega)), own_move h.oT (fun g q => b g (by have := (h.oT.lt g q).1; omega)), h.bits.blk (b r (by omega)), hr⟩, ?_⟩
  · rw [World.cell?_setCell_other _ _ _ _ (by intro e; injection e with _ e2; omega)]
    exact World.cell?_setCell_same _ _ _ h.l0
  · have c6 : (w.setCell ⟨p, 5, none⟩ (.int .i64 (la' : Int))).cell? ⟨p, 6, none⟩ = some (.int .i64 (ll : Int)) := by
      rw [World.cell?_setCell_other _ _ _ _ (by intro e; injection e with _ e2; omega)]
      exact h.l1
    exact World.cell?_setCell_same _ _ _ c6
  · exact ((Below.refl r w).setCell (p := ⟨p, 5, none⟩) (by show r ≤ p; omega) _).setCell (p := ⟨p, 6, none⟩) (by show r ≤ p; omega) _
/-- A byte more behind the text. -/
theorem UN.pushT (h : UN w p r s k W S N most vL pcs la ll vT out) {b : UInt8} {v' : Value} (h0 : Below w.heap.size w w0)
    (hown : w1.ownsRow (p + 1) 5 1 v' (out ++ [b]).length (byteVals (out ++ [b]))) (hg : w0.grownBy w1 vT.ownBlock) :
    UN (w1.setCell ⟨p, 7, none⟩ v') p r s k W S N most vL pcs la ll v' (out ++ [b]) ∧ Below r w (w1.setCell ⟨p, 7, none⟩ v') ∧ ∀ i, i ≠ p → i < w.heap.size → vT.ownBlock ≠ some i → (w1.setCell ⟨p, 7, none⟩ v').heap[i]? = w.heap[i]? := by
  have hl := h.lt
  have hr := h.ltp
  have hz := h0.size
  have hblk : ∀ i, i < w.heap.size → vT.ownBlock ≠ some i → w1.heap[i]? = w.heap[i]? := fun i hi hn => by
    rw [hg.block i (by omega) (fun q => hn q.symm), h0.block i hi]
  have hp := hblk p hl (fun q => by have := (h.oT.lt p q).1; omega)
  have c : ∀ j, j ≠ 7 → (w1.setCell ⟨p, 7, none⟩ v').cell? ⟨p, j, none⟩ = w.cell? ⟨p, j, none⟩ := fun j h7 => by
    rw [World.cell?_setCell_other _ _ _ _ (by intro e; injection e with _ e2; omega)]
    exact World.cell?_of_block (a := ⟨p, j, none⟩) hp
  have f : ∀ j, (w1.setCell ⟨p, 7, none⟩ v').frozen? ⟨p, j, none⟩ = w.frozen? ⟨p, j, none⟩ := fun j => by
    rw [World.frozen?_setCell]
    exact World.frozen?_of_block (a := ⟨p, j, none⟩) hp
  have b : ∀ i, i ≠ p → i < w.heap.size → vT.ownBlock ≠ some i → (w1.setCell ⟨p, 7, none⟩ v').heap[i]? = w.heap[i]? := fun i hi hlt hn => by
    rw [Below.heap_setCell _ _ _ _ hi, hblk i hlt hn]
  refine ⟨⟨(c 0 (by omega)).trans h.rd, ⟨(c 1 (by omega)).trans h.cd.width, (c 2 (by omega)).trans h.cd.size, (c 3 (by omega)).trans h.cd.next, (f 2).trans h.cd.free1, (f 3).trans h.cd.free2⟩, (c 4 (by omega)).trans h.lg, (c 5 (by omega)).trans h.l0, (c 6 (by omega)).trans h.l1, ?_, (c 8 (by omega)).trans h.ms, fun j => (f j).trans (h.free j), own_move h.oL (fun g q => b g (by have := (h.oL.lt g q).1; omega) (h.oL.lt g q).2 (own_apart h.oL h.oT (by decide) g q)), ownsRow_setCell_below hown (by show p < p + 1; omega) _, h.bits.blk (b r (by omega) (by omega) (fun q => by have := (h.oT.lt r q).1; omega)), hr⟩, ?_, b⟩
  · exact World.cell?_setCell_same _ _ _ ((World.cell?_of_block (a := ⟨p, 7, none⟩) hp).trans h.tx)
  · refine ⟨hg.os.trans h0.os, hg.tape.trans h0.tape, hg.output.trans h0.output, ?_, fun i hi => ?_⟩
    · have := hg.size
      simp [World.setCell]
      omega
    · exact b i (by omega) (by omega) (fun q => by have := (h.oT.lt i q).1; omega)
/-- A piece more. -/
theorem UN.pushL (h : UN w p r s k W S N most vL pcs la ll vT out) {q : Nat × Nat} {v' : Value} (h0 : Below w.heap.size w w0)
    (hown : w1.ownsRow (p + 1) 251 2 v' (pcs ++ [q]).length (pcVals (pcs ++ [q]))) (hg : w0.grownBy w1 vL.ownBlock) :
    UN (w1.setCell ⟨p, 4, none⟩ v') p r s k W S N most v' (pcs ++ [q]) la ll vT out ∧ Below r w (w1.setCell ⟨p, 4, none⟩ v') := by
  have hl := h.lt
  have hr := h.ltp
  have hz := h0.size
  have hblk : ∀ i, i < w.heap.size → vL.ownBlock ≠ some i → w1.heap[i]? = w.heap[i]? := fun i hi hn => by
    rw [hg.block i (by omega) (fun q => hn q.symm), h0.block i hi]
  have hp := hblk p hl (fun q => by have := (h.oL.lt p q).1; omega)
  have c : ∀ j, j ≠ 4 → (w1.setCell ⟨p, 4, none⟩ v').cell? ⟨p, j, none⟩ = w.cell? ⟨p, j, none⟩ := fun j h7 => by
    rw [World.cell?_setCell_other _ _ _ _ (by intro e; injection e with _ e2; omega)]
    exact World.cell?_of_block (a := ⟨p, j, none⟩) hp
  have f : ∀ j, (w1.setCell ⟨p, 4, none⟩ v').frozen? ⟨p, j, none⟩ = w.frozen? ⟨p, j, none⟩ := fun j => by
    rw [World.frozen?_setCell]
    exact World.frozen?_of_block (a := ⟨p, j, none⟩) hp
  have b : ∀ i, i ≠ p → i < w.heap.size → vL.ownBlock ≠ some i → (w1.setCell ⟨p, 4, none⟩ v').heap[i]? = w.heap[i]? := fun i hi hlt hn => by
    rw [Below.heap_setCell _ _ _ _ hi, hblk i hlt hn]
  refine ⟨⟨(c 0 (by omega)).trans h.rd, ⟨(c 1 (by omega)).trans h.cd.width, (c 2 (by omega)).trans h.cd.size, (c 3 (by omega)).trans h.cd.next, (f 2).trans h.cd.free1, (f 3).trans h.cd.free2⟩, ?_, (c 5 (by omega)).trans h.l0, (c 6 (by omega)).trans h.l1, (c 7 (by omega)).trans h.tx, (c 8 (by omega)).trans h.ms, fun j => (f j).trans (h.free j), ownsRow_setCell_below hown (by show p < p + 1; omega) _, own_move h.oT (fun g q => b g (by have := (h.oT.lt g q).1; omega) (h.oT.lt g q).2 (own_apart h.oT h.oL (by decide) g q)), h.bits.blk (b r (by omega) (by omega) (fun q => by have := (h.oL.lt r q).1; omega)), hr⟩, ?_⟩
  · exact World.cell?_setCell_same _ _ _ ((World.cell?_of_block (a := ⟨p, 4, none⟩) hp).trans h.lg)
  · refine ⟨hg.os.trans h0.os, hg.tape.trans h0.tape, hg.output.trans h0.output, ?_, fun i hi => ?_⟩
    · have := hg.size
      simp [World.setCell]
      omega
    · exact b i (by omega) (by omega) (fun q => by have := (h.oL.lt i q).1; omega)
/-- No pieces any more. -/
theorem UN.setNone (h : UN w p r s k W S N most vL pcs la ll vT out) {a : Option Addr} {n c : Nat} (hv : vL = .slice a n c) : UN (w.setCell ⟨p, 4, none⟩ (.slice a 0 c)) p r s k W S N most (.slice a 0 c) [] la ll vT out ∧ Below r w (w.setCell ⟨p, 4, none⟩ (.slice a 0 c)) := by
  have hr := h.ltp
  have hc : ∀ j, j ≠ 4 → (w.setCell ⟨p, 4, none⟩ (.slice a 0 c)).cell? ⟨p, j, none⟩ = w.cell? ⟨p, j, none⟩ := fun j h4 => World.cell?_setCell_other _ _ _ _ (by intro e; injection e with _ e2; omega)
  have f : ∀ j, (w.setCell ⟨p, 4, none⟩ (.slice a 0 c)).frozen? ⟨p, j, none⟩ = w.frozen? ⟨p, j, none⟩ := fun j => World.frozen?_setCell _ _ _ _
  have b : ∀ i, i ≠ p → (w.setCell ⟨p, 4, none⟩ (.slice a 0 c)).heap[i]? = w.heap[i]? := fun i hi => Below.heap_setCell _ _ _ _ hi
  have hoL : w.ownsRow (p + 1) 251 2 (.slice a 0 c) 0 [] := by
    refine ⟨by simp, ?_⟩
    rcases h.oL.2 with ⟨e, _⟩ | ⟨g, cap, cur, e, h3, h4, h5, h6, h7, _⟩
    · rw [hv] at e
      injection e with e1 e2 e3
      subst e1; subst e3
      exact .inl ⟨rfl, rfl⟩
    · rw [hv] at e
      injection e with e1 e2 e3
      subst e1; subst e3
      exact .inr ⟨g, c, cur, rfl, h3, h4, Nat.zero_le _, h6, h7, by simp⟩
  refine ⟨⟨(hc 0 (by omega)).trans h.rd, ⟨(hc 1 (by omega)).trans h.cd.width, (hc 2 (by omega)).trans h.cd.size, (hc 3 (by omega)).trans h.cd.next, (f 2).trans h.cd.free1, (f 3).trans h.cd.free2⟩, World.cell?_setCell_same _ _ _ h.lg, (hc 5 (by omega)).trans h.l0, (hc 6 (by omega)).trans h.l1, (hc 7 (by omega)).trans h.tx, (hc 8 (by omega)).trans h.ms, fun j => (f j).trans (h.free j), own_move hoL (fun g q => b g (by have := (hoL.lt g q).1; omega)), own_move h.oT (fun g q => b g (by have := (h.oT.lt g q).1; omega)), h.bits.blk (b r (by omega)), hr⟩, ?_⟩
  exact (Below.refl r w).setCell (p := ⟨p, 4, none⟩) (by show r ≤ p; omega) _
end
end Go.Proofs.YtjcoahahponabaaGreatDoor
