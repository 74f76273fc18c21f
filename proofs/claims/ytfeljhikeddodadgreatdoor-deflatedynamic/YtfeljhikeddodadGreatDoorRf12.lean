/- Walk of the document's reading of a packed text. -/
import Derived.Test.YtfeljhikeddodadGreatDoorRf8
import Derived.Test.YtfeljhikeddodadGreatDoorRf10
import Derived.Test.YtfeljhikeddodadGreatDoorRf11
namespace Go.Proofs.YtfeljhikeddodadGreatDoor
open Go.RowKit Pm Cn Cd Nf

end Go.Proofs.YtfeljhikeddodadGreatDoor
