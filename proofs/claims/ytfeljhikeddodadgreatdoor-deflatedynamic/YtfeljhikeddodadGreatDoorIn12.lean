/- Walk of the program's Inflate. -/
import Derived.Test.YtfeljhikeddodadGreatDoorMh23
namespace Go.Proofs.YtfeljhikeddodadGreatDoor
open Go.RowKit Pm Cn Cd Nf

section
variable {t : TypeId} {xT xB xS : Value}

end
end Go.Proofs.YtfeljhikeddodadGreatDoor
