/-
  No contract of the library is wanted here: a text that the others import.
-/
import Derived.Test.YtcdjfgkjllonhaaDoorRows
import Derived.Shelf.Strconv.Itoa0
import Derived.Shelf.Small.Bits
namespace Go.Proofs
end Go.Proofs
