/- The library's contracts of slices.Index at texts, laid at this program. -/
import Derived.Shelf.Slices.Turned
import Derived.Test.YtflnmkgpmjefhaaProg
namespace Go.Proofs
open Go.Shelf
end Go.Proofs
