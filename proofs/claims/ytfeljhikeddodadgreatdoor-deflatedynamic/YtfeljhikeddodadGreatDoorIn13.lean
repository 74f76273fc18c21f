/- Walk of the program's Inflate, whatever it is given. -/
import Derived.Test.YtfeljhikeddodadGreatDoorIn12
import Derived.Test.YtfeljhikeddodadGreatDoorMh23
namespace Go.Proofs.YtfeljhikeddodadGreatDoor
open Go.RowKit Pm Cn Cd Nf

section
variable {t : TypeId} {xT xB xS : Value}

end

/-! ### The fixed block of a letter -/
end Go.Proofs.YtfeljhikeddodadGreatDoor
