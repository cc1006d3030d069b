/-
  The contracts of the functions on plain numbers: Zigzag, Unzigzag and Size of varint and of the reference, for every number of their types; the world stays as it is.
-/
import Derived.Test.YteddbpcpllehoaaRows
import Derived.Test.YteddbpcpllehoaaMath
import Derived.Test.YteddbpcpllehoaaShelf
import Derived.WalkKit
import Derived.Lib.Hide
import Derived.WalkSpells
import Derived.WalkLawsBesides
namespace Go.Proofs.Yteddbpcpllehoaa
open Go.RowKit

theorem ret_num {k : IntKind} {a b : Int} (h : a = b) : Ending.returned (.int k a) = .returned (.int k b) := by rw [h]

set_option maxHeartbeats 400000 in
theorem zigzag_any (n : Int) (w : World) (h0 : -9223372036854775808 ≤ n) (h1 : n ≤ 9223372036854775807) :
    Calls Try.prog 23 #[.int .i64 n] w fun e w' => e = .returned (.int .u64 (zig n)) ∧ w = w' := by
  go_enter Try.func23, Try.ntmps23
  go_wp2
  go_ret
  exact ⟨ret_num (zig_eq n h0 h1), rfl⟩

set_option maxHeartbeats 400000 in
theorem unzigzag_any (n : Int) (w : World) (h0 : 0 ≤ n) (h1 : n ≤ 18446744073709551615) :
    Calls Try.prog 24 #[.int .u64 n] w fun e w' => e = .returned (.int .i64 (unz n)) ∧ w = w' := by
  go_enter Try.func24, Try.ntmps24
  go_wp2
  go_ret
  exact ⟨ret_num (unz_eq n h0 h1), rfl⟩

set_option maxHeartbeats 400000 in
theorem rzigzag_any (n : Int) (w : World) (h0 : -9223372036854775808 ≤ n) (h1 : n ≤ 9223372036854775807) :
    Calls Try.prog 27 #[.int .i64 n] w fun e w' => e = .returned (.int .u64 (zig n)) ∧ w = w' := by
  go_enter Try.func27, Try.ntmps27
  go_wp2
  · go_ret
    exact ⟨ret_num (by unfold zig; rw [if_pos (by assumption)]), rfl⟩
  · go_ret
    exact ⟨ret_num (by unfold zig; rw [if_neg (by omega)]; omega), rfl⟩

set_option maxHeartbeats 400000 in
theorem runzigzag_any (n : Int) (w : World) (h0 : 0 ≤ n) (h1 : n ≤ 18446744073709551615) :
    Calls Try.prog 28 #[.int .u64 n] w fun e w' => e = .returned (.int .i64 (unz n)) ∧ w = w' := by
  go_enter Try.func28, Try.ntmps28
  go_wp2
  · have h : (n % 2 == 0) = true := by assumption
    go_ret
    exact ⟨ret_num (by unfold unz; rw [if_pos (by simpa using h)]), rfl⟩
  · have h : (n % 2 == 0) = false := by assumption
    go_ret
    exact ⟨ret_num (by unfold unz; rw [if_neg (by simpa using h)]), rfl⟩

theorem or1_range (n : Int) (h0 : 0 ≤ n) (h1 : n ≤ 18446744073709551615) : 0 ≤ bits .or .u64 n 1 ∧ bits .or .u64 n 1 ≤ 18446744073709551615 := by
  rw [or1_u64 n h0 h1]; omega

set_option maxHeartbeats 400000 in
theorem size_any (n : Int) (w : World) (h0 : 0 ≤ n) (h1 : n ≤ 18446744073709551615) :
    Calls Try.prog 17 #[.int .u64 n] w fun e w' => e = .returned (.int .i64 (vsize n)) ∧ w = w' := by
  have hr := or1_range n h0 h1
  have hb : ((Lib.bitLen (bits .or .u64 n 1).toNat : Nat) : Int) ≤ 100 := by
    have := size_eq n h0 h1
    have h2 : vsize n ≤ 10 := vsize_10 h1
    omega
  go_enter Try.func17, Try.ntmps17
  go_wp2_with (go_at_call 37; refine (Try.bits_Len64 _ _ hr.1 hr.2).mono ?_; rintro e w' ⟨rfl, rfl⟩)
  go_ret
  exact ⟨ret_num (by have := size_eq n h0 h1; omega), rfl⟩

set_option maxHeartbeats 400000 in
theorem rsize_any (n : Int) (w : World) (h0 : 0 ≤ n) (h1 : n ≤ 18446744073709551615) :
    Calls Try.prog 25 #[.int .u64 n] w fun e w' => e = .returned (.int .i64 (vsize n)) ∧ w = w' := by
  have h10 := vsize_10 h1
  go_enter Try.func25, Try.ntmps25
  go_wp2
  go_loop [0, 3] (fun x k => ∃ (y : Int) (j : Nat), 0 ≤ y ∧ y ≤ 18446744073709551615 ∧ 1 ≤ j ∧ j + vsize y = vsize n + 1 ∧ x = .int .u64 y ∧ k = .int .i64 j) (fun x _ => (intOf x).toNat)
  case atStart => exact ⟨n, 1, h0, h1, by omega, by omega, rfl, rfl⟩
  case round =>
    obtain ⟨y, j, hy0, hy1, hj, hs, rfl, rfl⟩ := hrel
    have hp := vsize_pos y
    by_cases hc : 128 ≤ y
    · have hg := vsize_ge hc
      have HG := Lib.hid hg
      have HS := Lib.hid hs
      have hj2 : j ≤ 10 := by omega
      clear hg hs
      go_wp2
      go_round
      case rel => exact ⟨y / 128, j + 1, by omega, by omega, by omega, by have := HG.out; have := HS.out; omega, rfl, by go_num⟩
      case measure => simp [intOf]; omega
    · have hg := vsize_lt (by omega : y < 128)
      have HG := Lib.hid hg
      have HS := Lib.hid hs
      clear hg hs
      go_wp2
      go_ret
      exact ⟨ret_num (by have := HG.out; have := HS.out; omega), rfl⟩
end Go.Proofs.Yteddbpcpllehoaa
