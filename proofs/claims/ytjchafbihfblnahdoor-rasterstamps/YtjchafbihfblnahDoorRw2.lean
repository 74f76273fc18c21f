/- What several orders lead to, shown once: three pairs of letters. -/
import Derived.Test.YtjchafbihfblnahDoorRw0
namespace Go.Proofs.YtjchafbihfblnahDoor
open Go.RowKit

theorem once3w {G0 : Prop} {G : World → Nat → Option Addr → Nat → Option Addr → Nat → Option Addr → Nat → Prop} (F : World → Nat → Option Addr → Nat → Option Addr → Nat → Option Addr → Nat → Prop) (h : (∀ w b a c a' c' x y, F w b a c a' c' x y → G w b a c a' c' x y) → G0) (r : ∀ w b a c a' c' x y, F w b a c a' c' x y → G w b a c a' c' x y) : G0 := h r
end Go.Proofs.YtjchafbihfblnahDoor
