/- A line: the document's, whatever its signs. -/
import Derived.Test.YtjhnneplknhmkahDoorLmA
import Derived.Test.YtjhnneplknhmkahDoorLmB
import Derived.Test.YtjhnneplknhmkahDoorLmC
import Derived.Test.YtjhnneplknhmkahDoorLmD
import Derived.Test.YtjhnneplknhmkahDoorRt8
namespace Go.Proofs.YtjhnneplknhmkahDoor
open Go.RowKit

theorem lineOf_any (W H : Nat) (a : Option Addr) (n c : Nat) (p : Nat → Px) (x0 y0 x1 y1 : Int) (q : Px) (w : World) (hW0 : 1 ≤ W) (hW : W ≤ 256) (hH0 : 1 ≤ H) (hH : H ≤ 256) (hn : n = W * H) (hP : IsPx w a n p) (hb : Nr x0 ∧ Nr y0 ∧ Nr x1 ∧ Nr y1) :
    Calls Tryd.prog 39 #[.agg #[.int .i64 (W : Int), .int .i64 (H : Int), .slice a n c], .int .i64 x0, .int .i64 y0, .int .i64 x1, .int .i64 y1, q.val] w fun e w' => ∃ g c2, e = .returned (.agg #[.int .i64 (W : Int), .int .i64 (H : Int), .slice (some ⟨g, 0, none⟩) (W * H) c2]) ∧ PR w' g (W * H) (grid W fun x y => if lnM W H (fun k : Nat => aft (k : Int) (lnN x0 y0 x1 y1 : Int) x0 x1) (fun k : Nat => aft (k : Int) (lnN x0 y0 x1 y1 : Int) y0 y1) (lnN x0 y0 x1 y1 + 1) (y * W + x) then q else p (y * W + x)) ∧ Below w.heap.size w w' := by
  have key : Calls Tryd.prog 39 #[.agg #[.int .i64 (W : Int), .int .i64 (H : Int), .slice a n c], .int .i64 x0, .int .i64 y0, .int .i64 x1, .int .i64 y1, q.val] w fun e w' => ∃ g c2, e = .returned (.agg #[.int .i64 (W : Int), .int .i64 (H : Int), .slice (some ⟨g, 0, none⟩) (W * H) c2]) ∧ PR w' g (W * H) (lnP W H (fun k : Nat => aft (k : Int) (lnN x0 y0 x1 y1 : Int) x0 x1) (fun k : Nat => aft (k : Int) (lnN x0 y0 x1 y1 : Int) y0 y1) q p (lnN x0 y0 x1 y1 + 1)) ∧ Below w.heap.size w w' := by
    rcases Int.lt_or_le (x1 - x0) 0 with hx | hx <;> rcases Int.lt_or_le (y1 - y0) 0 with hy | hy <;> rcases Nat.lt_or_ge (x1 - x0).natAbs (y1 - y0).natAbs with hg | hg
    · exact lineOf_nny W H a n c p x0 y0 x1 y1 q w hW0 hW hH0 hH hn hP hb _ rfl hx hy hg
    · exact lineOf_nnx W H a n c p x0 y0 x1 y1 q w hW0 hW hH0 hH hn hP hb _ rfl hx hy hg
    · exact lineOf_npy W H a n c p x0 y0 x1 y1 q w hW0 hW hH0 hH hn hP hb _ rfl hx hy hg
    · exact lineOf_npx W H a n c p x0 y0 x1 y1 q w hW0 hW hH0 hH hn hP hb _ rfl hx hy hg
    · exact lineOf_pny W H a n c p x0 y0 x1 y1 q w hW0 hW hH0 hH hn hP hb _ rfl hx hy hg
    · exact lineOf_pnx W H a n c p x0 y0 x1 y1 q w hW0 hW hH0 hH hn hP hb _ rfl hx hy hg
    · exact lineOf_ppy W H a n c p x0 y0 x1 y1 q w hW0 hW hH0 hH hn hP hb _ rfl hx hy hg
    · exact lineOf_ppx W H a n c p x0 y0 x1 y1 q w hW0 hW hH0 hH hn hP hb _ rfl hx hy hg
  refine key.mono ?_
  rintro e w' ⟨g, c2, he, hp, hb⟩
  refine ⟨g, c2, he, hp.congr ?_, hb⟩
  exact by_places hW0 fun x y hx _ => (grid_at W (fun x y => if lnM W H (fun k : Nat => aft (k : Int) (lnN x0 y0 x1 y1 : Int) x0 x1) (fun k : Nat => aft (k : Int) (lnN x0 y0 x1 y1 : Int) y0 y1) (lnN x0 y0 x1 y1 + 1) (y * W + x) then q else p (y * W + x)) x y hx).symm
end Go.Proofs.YtjhnneplknhmkahDoor
