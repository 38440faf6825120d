/-
  What the laws on documents that answer lists lean on.
-/
import Derived.Test.YtpmilcddoohlgaaListNums
import Derived.Test.YtpmilcddoohlgaaMarkDocs
import Derived.Test.YtpmilcddoohlgaaImplAt
import Derived.Test.YtpmilcddoohlgaaOrderPlain
namespace Go.Proofs.Ytpmilcddoohlgaa
end Go.Proofs.Ytpmilcddoohlgaa
