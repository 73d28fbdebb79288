import Derived.Test.YtbcngojiikdigaaL15
namespace Go.Proofs.Ytbcngojiikdigaa
set_option maxRecDepth 100000
open Go.RowKit Go.Shelf
def two (a b : Value) : Ending := .returned (.tuple #[a, b])
end Go.Proofs.Ytbcngojiikdigaa
