import Derived.Test.YtddmbjobibljaaaQf
namespace Go.Proofs.Ytddmbjobibljaaa
open Go.RowKit

end Go.Proofs.Ytddmbjobibljaaa
