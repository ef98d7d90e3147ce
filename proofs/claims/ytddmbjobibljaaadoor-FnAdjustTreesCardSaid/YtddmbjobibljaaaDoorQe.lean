import Derived.Test.YtddmbjobibljaaaDoorQd
namespace Go.Proofs.YtddmbjobibljaaaDoor
open Go.RowKit

end Go.Proofs.YtddmbjobibljaaaDoor
