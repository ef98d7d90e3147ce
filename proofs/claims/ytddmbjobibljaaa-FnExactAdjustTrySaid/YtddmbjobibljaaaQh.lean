import Derived.Test.YtddmbjobibljaaaQg
namespace Go.Proofs.Ytddmbjobibljaaa
open Go.RowKit

end Go.Proofs.Ytddmbjobibljaaa
