import Derived.Test.YtddmbjobibljaaaQe
namespace Go.Proofs.Ytddmbjobibljaaa
open Go.RowKit

end Go.Proofs.Ytddmbjobibljaaa
