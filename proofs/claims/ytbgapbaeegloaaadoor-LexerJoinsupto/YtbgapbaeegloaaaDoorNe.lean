import Derived.Test.YtbgapbaeegloaaaDoorNd
import Derived.Test.YtbgapbaeegloaaaDoorK
namespace Go.Proofs.YtbgapbaeegloaaaDoor
open Go.RowKit Go.Maps

end Go.Proofs.YtbgapbaeegloaaaDoor
