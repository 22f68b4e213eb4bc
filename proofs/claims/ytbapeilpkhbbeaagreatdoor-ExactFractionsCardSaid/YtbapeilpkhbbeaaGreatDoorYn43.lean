/- exact.Floor, Fixed, FromFixed, RootFixed by values. Written by gen_nearv.py. -/
import Derived.Test.YtbapeilpkhbbeaaGreatDoorYn31
import Derived.Test.YtbapeilpkhbbeaaGreatDoorYn32
import Derived.Test.YtbapeilpkhbbeaaGreatDoorYn42
/- exact.Floor, Fixed, FromFixed, RootFixed by values. Written by gen_nearv.py. -/
namespace Go.Proofs.YtbapeilpkhbbeaaGreatDoor
open Go.RowKit

end Go.Proofs.YtbapeilpkhbbeaaGreatDoor
