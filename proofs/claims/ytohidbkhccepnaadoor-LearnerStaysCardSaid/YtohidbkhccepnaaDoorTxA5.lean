/-
  The document's sign. Condition: there is a byte.
-/
import Derived.Test.YtohidbkhccepnaaDoorTxA3
import Derived.Test.YtohidbkhccepnaaDoorTxA4
namespace Go.Proofs
open Go Go.RowKit Sm Go.Lib
end Go.Proofs
