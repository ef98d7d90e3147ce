import Derived.Test.YtddmbjobibljaaaGreatDoorQd
namespace Go.Proofs.YtddmbjobibljaaaGreatDoor
open Go.RowKit

end Go.Proofs.YtddmbjobibljaaaGreatDoor
