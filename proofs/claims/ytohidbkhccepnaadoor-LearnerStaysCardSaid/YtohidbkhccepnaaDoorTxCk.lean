/-
  The document's Check, and the law TextChecks, where works holds. Conditions: a text that is not too long; the package variables lie as they are laid.
-/
import Derived.Test.YtohidbkhccepnaaDoorTxN
import Derived.Test.YtohidbkhccepnaaDoorTxB
namespace Go.Proofs
open Go Go.RowKit Sm Go.Lib
attribute [local go_sem] Oper.semAt_some
end Go.Proofs
