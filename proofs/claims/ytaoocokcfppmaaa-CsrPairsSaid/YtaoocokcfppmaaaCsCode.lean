/- All contracts of layer 19, and the document's answers beside them. -/
import Derived.Test.YtaoocokcfppmaaaCsNew
import Derived.Test.YtaoocokcfppmaaaNtNew
import Derived.Test.YtaoocokcfppmaaaCsCount
namespace Go.Proofs.Ytaoocokcfppmaaa.Cs
end Go.Proofs.Ytaoocokcfppmaaa.Cs
