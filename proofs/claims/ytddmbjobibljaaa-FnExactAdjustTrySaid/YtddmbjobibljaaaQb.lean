import Derived.Test.YtddmbjobibljaaaQa
import Derived.Below
import Derived.Deep.RegionWith
import Derived.Deep.Draws
namespace Go.Proofs.Ytddmbjobibljaaa
open Go.RowKit

end Go.Proofs.Ytddmbjobibljaaa
