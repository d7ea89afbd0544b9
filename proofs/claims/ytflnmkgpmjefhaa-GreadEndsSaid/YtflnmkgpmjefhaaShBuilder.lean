/- The library's contracts of strings.Builder (WriteString, WriteByte, String), laid at this program. -/
import Derived.Shelf.Strings.Builder1
import Derived.Shelf.LaysM
import Derived.Test.YtflnmkgpmjefhaaProg
namespace Go.Proofs
open Go.Shelf
end Go.Proofs
