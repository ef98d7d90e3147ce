import Derived.Test.YtddmbjobibljaaaQd
namespace Go.Proofs.Ytddmbjobibljaaa
open Go.RowKit

end Go.Proofs.Ytddmbjobibljaaa
