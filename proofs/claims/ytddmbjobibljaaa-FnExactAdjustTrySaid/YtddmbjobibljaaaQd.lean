import Derived.Test.YtddmbjobibljaaaQc
namespace Go.Proofs.Ytddmbjobibljaaa
open Go.RowKit

end Go.Proofs.Ytddmbjobibljaaa
