/- Floods: a place is met: the program's closure. -/
import Derived.Test.YtcicbafdacfbpaiDoorFq1a
import Derived.Test.YtcicbafdacfbpaiDoorFq1b
import Derived.Test.YtcicbafdacfbpaiDoorFq1c
import Derived.Test.YtcicbafdacfbpaiDoorFq1d
namespace Go.Proofs.YtcicbafdacfbpaiDoor
open Go.RowKit

/-- A place is met, wherever it is. -/
theorem meet_anyL (B kp kl km kw W H : Nat) (a : Option Addr) (n c : Nat) (p : Nat → Px) (like : Px) (g : Nat) (f : Nat → Bool) (va : Option Addr) (vc : Nat) (l : List (Nat × Nat)) (x y : Int) (w : World) (hS : LFS w B kp kl km kw W H a n c p like g f va vc l) (hW : W ≤ 256) (hH : H ≤ 256) (hn : n = W * H) (hk : LFK B kp kl km kw g a) (hlb : l.length ≤ 100000) :
    Calls Tryd.prog 54 #[.int .i64 x, .int .i64 y, .pointer (some ⟨kp, 0, none⟩), .pointer (some ⟨kl, 0, none⟩), .pointer (some ⟨km, 0, none⟩), .pointer (some ⟨kw, 0, none⟩)] w fun e w' => e = .returned (.tuple #[]) ∧ (∃ f' l' vb vd, LFS w' B kp kl km kw W H a n c p like g f' vb vd l' ∧ MeetR W H p like f l x y f' l' ∧ Keep w w' kw g (.slice va l.length vc) (.slice vb l'.length vd)) ∧ Below B w w' := by
  have hBw : B ≤ w.heap.size := by have := blk_lt hS.wai; have := hk.hw; omega
  by_cases hin : 0 ≤ x ∧ x < (W : Int) ∧ 0 ≤ y ∧ y < (H : Int)
  · obtain ⟨x, rfl⟩ := Int.eq_ofNat_of_zero_le hin.1
    obtain ⟨y, rfl⟩ := Int.eq_ofNat_of_zero_le hin.2.2.1
    have hx : x < W := by omega
    have hy : y < H := by omega
    by_cases he : p (y * W + x) = like
    · rcases hf : f (y * W + x) with _ | _
      · refine (meet_new B kp kl km kw W H a n c p like g f va vc l x y w hS hW hH hn hx hy hk hlb he hf).mono ?_
        rintro e w' ⟨rfl, ⟨vb, vd, h, hkp⟩, hb⟩
        exact ⟨rfl, ⟨_, _, vb, vd, h, .inl ⟨x, y, rfl, rfl, hx, hy, he, hf, rfl, rfl⟩, hkp⟩, hb⟩
      · refine (meet_marked B kp kl km kw W H a n c p like g f va vc l x y w hS hW hH hn hx hy he hf).mono ?_
        rintro e w' ⟨rfl, h, hb⟩
        exact ⟨rfl, ⟨_, _, va, vc, h, .inr ⟨rfl, rfl, fun u v e1 e2 _ _ _ => by
          have e1 : x = u := by omega
          have e2 : y = v := by omega
          subst e1 e2
          exact hf⟩, keep_below hb⟩, hb.mono hBw⟩
    · refine (meet_unlike B kp kl km kw W H a n c p like g f va vc l x y w hS hW hH hn hx hy he).mono ?_
      rintro e w' ⟨rfl, h, hb⟩
      exact ⟨rfl, ⟨_, _, va, vc, h, .inr ⟨rfl, rfl, fun u v e1 e2 _ _ hl => by
        have e1 : x = u := by omega
        have e2 : y = v := by omega
        subst e1 e2
        exact absurd hl he⟩, keep_below hb⟩, hb.mono hBw⟩
  · refine (meet_out B kp kl km kw W H a n c p like g f va vc l x y w hS hin).mono ?_
    rintro e w' ⟨rfl, h, hb⟩
    exact ⟨rfl, ⟨_, _, va, vc, h, .inr ⟨rfl, rfl, fun u v e1 e2 hu hv _ => absurd (⟨by omega, by omega, by omega, by omega⟩ : 0 ≤ x ∧ x < (W : Int) ∧ 0 ≤ y ∧ y < (H : Int)) hin⟩, keep_below hb⟩, hb.mono hBw⟩
end Go.Proofs.YtcicbafdacfbpaiDoor
