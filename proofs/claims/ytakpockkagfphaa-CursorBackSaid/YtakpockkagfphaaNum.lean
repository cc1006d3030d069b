/-
  The contracts of the functions on plain numbers: Zigzag, Unzigzag and Size of varint and of the reference, for every number of their types; the world stays as it is.
-/
import Derived.Test.YtakpockkagfphaaRows
import Derived.Test.YtakpockkagfphaaMath
import Derived.Test.YtakpockkagfphaaShelf
import Derived.WalkKit
import Derived.Lib.Hide
import Derived.WalkSpells
import Derived.WalkLawsBesides
namespace Go.Proofs.Ytakpockkagfphaa
open Go.RowKit

theorem ret_num {k : IntKind} {a b : Int} (h : a = b) : Ending.returned (.int k a) = .returned (.int k b) := by rw [h]

theorem or1_range (n : Int) (h0 : 0 ≤ n) (h1 : n ≤ 18446744073709551615) : 0 ≤ bits .or .u64 n 1 ∧ bits .or .u64 n 1 ≤ 18446744073709551615 := by
  rw [or1_u64 n h0 h1]; omega

set_option maxHeartbeats 400000 in
theorem size_any (n : Int) (w : World) (h0 : 0 ≤ n) (h1 : n ≤ 18446744073709551615) :
    Calls Try.prog 45 #[.int .u64 n] w fun e w' => e = .returned (.int .i64 (vsize n)) ∧ w = w' := by
  have hr := or1_range n h0 h1
  have hb : ((Lib.bitLen (bits .or .u64 n 1).toNat : Nat) : Int) ≤ 100 := by
    have := size_eq n h0 h1
    have h2 : vsize n ≤ 10 := vsize_10 h1
    omega
  go_enter Try.func45, Try.ntmps45
  go_wp2_with (go_at_call 63; refine (Try.bits_Len64 _ _ hr.1 hr.2).mono ?_; rintro e w' ⟨rfl, rfl⟩)
  go_ret
  exact ⟨ret_num (by have := size_eq n h0 h1; omega), rfl⟩

end Go.Proofs.Ytakpockkagfphaa
