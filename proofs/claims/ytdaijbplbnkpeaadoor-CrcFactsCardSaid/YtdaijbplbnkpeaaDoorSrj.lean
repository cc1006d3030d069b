/-
  The library's sort at uint32: nextPowerOfTwo; what a masked number is.
-/
import Derived.Test.YtdaijbplbnkpeaaDoorSri
import Derived.Test.YtdaijbplbnkpeaaDoorSh
namespace Go.Proofs.YtdaijbplbnkpeaaDoor
open Go.RowKit Go.Shelf

theorem mask_in (Y : Int) (k : Nat) (hY : 0 ≤ Y ∧ Y < 18446744073709551616) (hk : k < 64) : bits .and .u64 Y ((2 ^ k - 1 : Nat) : Int) = ((Y.toNat % 2 ^ k : Nat) : Int) := by
  obtain ⟨y, rfl⟩ : ∃ y : Nat, Y = (y : Int) := ⟨Y.toNat, by omega⟩
  have h2 : 2 ^ k < 18446744073709551616 := Nat.pow_lt_pow_right (n := 64) (by omega) hk
  have := bits_and_u64_nat y (2 ^ k - 1) (by omega) (by omega)
  rw [this, Nat.and_two_pow_sub_one_eq_mod, Int.toNat_natCast]

/-- The next power of two is at most twice the number. -/
theorem pow_bounds {l : Nat} (h0 : 0 < l) : l < 2 ^ bl l ∧ 2 ^ bl l ≤ 2 * l := by
  refine ⟨bl_le.1 (Nat.le_refl _), ?_⟩
  have h1 : bl l ≠ 0 := by have := bl_pos (x := l) (by omega); omega
  obtain ⟨k, hk⟩ : ∃ k, bl l = k + 1 := ⟨bl l - 1, by omega⟩
  have : 2 ^ k ≤ l := lt_bl.1 (by omega)
  rw [hk, Nat.pow_succ]; omega

set_option maxHeartbeats 1000000 in
theorem npow_any (l : Nat) (w : World) (h0 : 0 < l) (hl : l < 4294967297) :
    Calls Tryd.prog 82 #[.int .i64 (l : Int)] w fun e w' => ∃ k : Nat, k ≤ 34 ∧ l < 2 ^ k ∧ 2 ^ k ≤ 2 * l ∧ e = .returned (.int .u64 ((2 ^ k : Nat) : Int)) ∧ w' = w := by
  have hb := pow_bounds h0
  have hk : bl l ≤ 34 := bl_le.2 (by omega)
  have q := Tryd.bits_Len (l : Int) w (by omega) (by omega)
  rw [Int.toNat_natCast, bitLen_bl l (by omega)] at q
  have hw : IntKind.u64.wrap (l : Int) = (l : Int) := by rw [IntKind.wrap_u64]; omega
  obtain ⟨k, hk2⟩ : ∃ k, k = bl l := ⟨_, rfl⟩
  rw [← hk2] at q hb hk
  clear hk2
  have h2 : 2 ^ k ≤ 2 ^ 34 := Nat.pow_le_pow_right (by omega) hk
  have hw2 : IntKind.u64.wrap ((2 : Int) ^ k) = ((2 ^ k : Nat) : Int) := wrapN (2 ^ k) (by omega) ((2 : Int) ^ k) (by push_cast; rfl)
  have HW := Lib.hid hw2
  clear hw2
  go_enter Tryd.func82, Tryd.ntmps82
  go_wp2_with fail
  refine q.mono ?_
  rintro e w' ⟨rfl, hw3⟩
  rw [hw3]
  clear hw3
  go_wp2_with fail
  go_ret
  refine ⟨k, hk, hb.1, hb.2, ?_, rfl⟩
  first | (rw [HW.out]; rfl) | rfl
end Go.Proofs.YtdaijbplbnkpeaaDoor
