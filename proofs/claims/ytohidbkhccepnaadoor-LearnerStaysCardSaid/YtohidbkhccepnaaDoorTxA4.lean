/-
  The document's sign where four bytes begin. Condition: the class of the first byte.
-/
import Derived.Test.YtohidbkhccepnaaDoorTxA
namespace Go.Proofs
open Go Go.RowKit Sm Go.Lib
end Go.Proofs
