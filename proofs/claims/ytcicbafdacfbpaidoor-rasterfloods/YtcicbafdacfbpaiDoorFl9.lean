/- Floods: what both answer, as one picture; flooded twice. -/
import Derived.Test.YtcicbafdacfbpaiDoorFq4
import Derived.Test.YtcicbafdacfbpaiDoorFq6
namespace Go.Proofs.YtcicbafdacfbpaiDoor
open Go.RowKit

open Classical in
/-- Is a place flooded? -/
noncomputable def flB (W H : Nat) (p : Nat → Px) (sx sy i : Nat) : Bool := decide (Rch W H p sx sy (i % W) (i / W))
theorem flB_is (W H : Nat) (p : Nat → Px) (sx sy : Nat) : FloodF W H p sx sy (flB W H p sx sy) := fun u v hu hv => by
  have e1 : (v * W + u) % W = u := by rw [Nat.add_comm, Nat.add_mul_mod_self_right, Nat.mod_eq_of_lt hu]
  have e2 : (v * W + u) / W = v := by rw [Nat.add_comm, Nat.add_mul_div_right _ _ (by omega), Nat.div_eq_of_lt hu, Nat.zero_add]
  unfold flB
  rw [e1, e2]
  simp
/-- The flooded picture. -/
noncomputable def flG (W H : Nat) (p : Nat → Px) (sx sy : Nat) (q : Px) (i : Nat) : Px := if flB W H p sx sy i then q else p i
theorem flood_G (W H x y : Nat) (a : Option Addr) (n c : Nat) (p : Nat → Px) (q : Px) (w : World) (hP : IsPx w a n p) (hW0 : 1 ≤ W) (hW : W ≤ 256) (hH0 : 1 ≤ H) (hH : H ≤ 256) (hn : n = W * H) (hx : x < W) (hy : y < H) :
    Calls Tryd.prog 7 #[.agg #[.int .i64 (W : Int), .int .i64 (H : Int), .slice a n c], .int .i64 (x : Int), .int .i64 (y : Int), q.val] w fun e w' => ∃ a2 c2, e = .returned (.tuple #[.agg #[.int .i64 (W : Int), .int .i64 (H : Int), .slice a2 (W * H) c2], .nilIface]) ∧ IsPx w' a2 (W * H) (flG W H p x y q) ∧ Below w.heap.size w w' := by
  refine (flood_ok W H x y a n c p q w hP hW0 hW hH0 hH hn hx hy).mono ?_
  rintro e w' ⟨f, a2, c2, rfl, ⟨hf, hp⟩, hb⟩
  refine ⟨a2, c2, rfl, hp.congr (fun i hi => ?_), hb⟩
  have ei : i / W * W + i % W = i := by rw [Nat.mul_comm]; exact Nat.div_add_mod i W
  unfold grid flG
  dsimp only
  rw [ei, hf.uniq hW0 (flB_is W H p x y) i hi]
theorem floodOf_G (W H x y : Nat) (a : Option Addr) (n c : Nat) (p : Nat → Px) (q : Px) (w : World) (hP : IsPx w a n p) (hW0 : 1 ≤ W) (hW : W ≤ 256) (hH0 : 1 ≤ H) (hH : H ≤ 256) (hn : n = W * H) (hx : x < W) (hy : y < H) :
    Calls Tryd.prog 12 #[.agg #[.int .i64 (W : Int), .int .i64 (H : Int), .slice a n c], .int .i64 (x : Int), .int .i64 (y : Int), q.val] w fun e w' => ∃ g c2, e = .returned (.agg #[.int .i64 (W : Int), .int .i64 (H : Int), .slice (some ⟨g, 0, none⟩) (W * H) c2]) ∧ PR w' g (W * H) (flG W H p x y q) ∧ Below w.heap.size w w' := by
  refine (floodOf_any W H x y a n c p q w hP hW0 hW hH0 hH hn hx hy).mono ?_
  rintro e w' ⟨f, g, c2, rfl, ⟨hf, hp⟩, hb⟩
  rw [hn] at hp ⊢
  refine ⟨g, c2, rfl, hp.congr (fun i hi => ?_), hb⟩
  unfold flG
  rw [hf.uniq hW0 (flB_is W H p x y) i hi]
theorem Rch.like {W H : Nat} {p : Nat → Px} {sx sy u v : Nat} (h : Rch W H p sx sy u v) : p (v * W + u) = p (sy * W + sx) := by
  cases h with
  | start => rfl
  | step _ _ _ _ hl => exact hl
/-- It floods once. -/
theorem flG_twice {W H : Nat} {p : Nat → Px} {sx sy : Nat} {q : Px} (hx : sx < W) (hy : sy < H) (i : Nat) : flG W H (flG W H p sx sy q) sx sy q i = flG W H p sx sy q i := by
  have hst : flG W H p sx sy q (sy * W + sx) = q := by
    unfold flG
    rw [if_pos ((flB_is W H p sx sy sx sy hx hy).2 .start)]
  show (if flB W H (flG W H p sx sy q) sx sy i then q else flG W H p sx sy q i) = _
  split
  · rename_i h
    have ei : i / W * W + i % W = i := by rw [Nat.mul_comm]; exact Nat.div_add_mod i W
    unfold flB at h
    have hr := @of_decide_eq_true _ (Classical.propDecidable _) h
    have := hr.like
    rw [ei, hst] at this
    exact this.symm
  · rfl
end Go.Proofs.YtcicbafdacfbpaiDoor
