/-
  The contract of a piece's fixed: how many bytes it has, and its number.
-/
import Derived.Test.YtakpockkagfphaaStr
import Derived.Lib.VarintBits
import Derived.Lib.EndianBits
namespace Go.Proofs.Ytakpockkagfphaa
open Go.RowKit Go.Shelf

def PcRes (N X : Int) (w : World) (e : Ending) (w' : World) : Prop := e = .returned (.tuple #[.int .i64 (1 + N % 8), .int .u64 (X % 256 ^ (1 + N % 8).toNat)]) ∧ Below w.heap.size w w'

set_option maxRecDepth 100000 in
set_option maxHeartbeats 1000000 in
theorem pfixed_8 (w : World) (kd N X : Int) (b : Option Addr) (nb cb : Nat) (hN0 : 0 ≤ N) (hN1 : N ≤ 255) (hX0 : 0 ≤ X) (hX1 : X ≤ 18446744073709551615) (hm : N % 8 = 7) :
    Calls Try.prog 44 #[.agg #[.int .u8 kd, .int .u8 N, .int .u64 X, .slice b nb cb]] w (PcRes N X w) := by
  have hr : PcRes N X w = fun e w' => e = .returned (.tuple #[.int .i64 8, .int .u64 X]) ∧ Below w.heap.size w w' := by
    have : X % 256 ^ 8 = X := Int.emod_eq_of_lt hX0 (by simpa using (by omega : X < 18446744073709551616))
    unfold PcRes
    rw [hm]
    show (fun e w' => e = Ending.returned (.tuple #[.int .i64 8, .int .u64 (X % 256 ^ 8)]) ∧ Below w.heap.size w w') = _
    rw [this]
  rw [hr]
  clear hr
  go_enter Try.func44, Try.ntmps44
  go_wp2_with fail
  go_quiet (fail)
  go_wp2
  go_ret2
  exact ⟨rfl, below_drewN ((Below.refl _ _).alloc (Nat.le_refl _) _) _⟩

set_option maxRecDepth 100000 in
set_option maxHeartbeats 1000000 in
theorem pfixed_1 (w : World) (kd N X : Int) (b : Option Addr) (nb cb : Nat) (hN0 : 0 ≤ N) (hN1 : N ≤ 255) (hX0 : 0 ≤ X) (hX1 : X ≤ 18446744073709551615) (hm : N % 8 = 0) :
    Calls Try.prog 44 #[.agg #[.int .u8 kd, .int .u8 N, .int .u64 X, .slice b nb cb]] w (PcRes N X w) := by
  have hA : bits .and .u64 X 255 = X % 256 := by
    have := bits_mask .u64 64 (by decide) wraps_u64 8 (by decide) X hX0 (by simpa using (by omega : X < 18446744073709551616))
    simpa using this
  have hr : PcRes N X w = fun e w' => e = .returned (.tuple #[.int .i64 1, .int .u64 (bits .and .u64 X 255)]) ∧ Below w.heap.size w w' := by
    rw [hA]
    unfold PcRes
    rw [hm]
    rfl
  rw [hr]
  clear hr hA
  go_enter Try.func44, Try.ntmps44
  go_wp2_with fail
  go_quiet (fail)
  go_wp2
  go_ret2
  exact ⟨rfl, below_drewN ((Below.refl _ _).alloc (Nat.le_refl _) _) _⟩

set_option maxRecDepth 100000 in
set_option maxHeartbeats 1000000 in
theorem pfixed_2 (w : World) (kd N X : Int) (b : Option Addr) (nb cb : Nat) (hN0 : 0 ≤ N) (hN1 : N ≤ 255) (hX0 : 0 ≤ X) (hX1 : X ≤ 18446744073709551615) (hm : N % 8 = 1) :
    Calls Try.prog 44 #[.agg #[.int .u8 kd, .int .u8 N, .int .u64 X, .slice b nb cb]] w (PcRes N X w) := by
  have hA : bits .and .u64 X 65535 = X % 65536 := by
    have := bits_mask .u64 64 (by decide) wraps_u64 16 (by decide) X hX0 (by simpa using (by omega : X < 18446744073709551616))
    simpa using this
  have hr : PcRes N X w = fun e w' => e = .returned (.tuple #[.int .i64 2, .int .u64 (bits .and .u64 X 65535)]) ∧ Below w.heap.size w w' := by
    rw [hA]
    unfold PcRes
    rw [hm]
    rfl
  rw [hr]
  clear hr hA
  go_enter Try.func44, Try.ntmps44
  go_wp2_with fail
  go_quiet (fail)
  go_wp2
  go_ret2
  exact ⟨rfl, below_drewN ((Below.refl _ _).alloc (Nat.le_refl _) _) _⟩

set_option maxRecDepth 100000 in
set_option maxHeartbeats 1000000 in
theorem pfixed_3 (w : World) (kd N X : Int) (b : Option Addr) (nb cb : Nat) (hN0 : 0 ≤ N) (hN1 : N ≤ 255) (hX0 : 0 ≤ X) (hX1 : X ≤ 18446744073709551615) (hm : N % 8 = 2) :
    Calls Try.prog 44 #[.agg #[.int .u8 kd, .int .u8 N, .int .u64 X, .slice b nb cb]] w (PcRes N X w) := by
  have hA : bits .and .u64 X 16777215 = X % 16777216 := by
    have := bits_mask .u64 64 (by decide) wraps_u64 24 (by decide) X hX0 (by simpa using (by omega : X < 18446744073709551616))
    simpa using this
  have hr : PcRes N X w = fun e w' => e = .returned (.tuple #[.int .i64 3, .int .u64 (bits .and .u64 X 16777215)]) ∧ Below w.heap.size w w' := by
    rw [hA]
    unfold PcRes
    rw [hm]
    rfl
  rw [hr]
  clear hr hA
  go_enter Try.func44, Try.ntmps44
  go_wp2_with fail
  go_quiet (fail)
  go_wp2
  go_ret2
  exact ⟨rfl, below_drewN ((Below.refl _ _).alloc (Nat.le_refl _) _) _⟩

set_option maxRecDepth 100000 in
set_option maxHeartbeats 1000000 in
theorem pfixed_4 (w : World) (kd N X : Int) (b : Option Addr) (nb cb : Nat) (hN0 : 0 ≤ N) (hN1 : N ≤ 255) (hX0 : 0 ≤ X) (hX1 : X ≤ 18446744073709551615) (hm : N % 8 = 3) :
    Calls Try.prog 44 #[.agg #[.int .u8 kd, .int .u8 N, .int .u64 X, .slice b nb cb]] w (PcRes N X w) := by
  have hA : bits .and .u64 X 4294967295 = X % 4294967296 := by
    have := bits_mask .u64 64 (by decide) wraps_u64 32 (by decide) X hX0 (by simpa using (by omega : X < 18446744073709551616))
    simpa using this
  have hr : PcRes N X w = fun e w' => e = .returned (.tuple #[.int .i64 4, .int .u64 (bits .and .u64 X 4294967295)]) ∧ Below w.heap.size w w' := by
    rw [hA]
    unfold PcRes
    rw [hm]
    rfl
  rw [hr]
  clear hr hA
  go_enter Try.func44, Try.ntmps44
  go_wp2_with fail
  go_quiet (fail)
  go_wp2
  go_ret2
  exact ⟨rfl, below_drewN ((Below.refl _ _).alloc (Nat.le_refl _) _) _⟩

set_option maxRecDepth 100000 in
set_option maxHeartbeats 1000000 in
theorem pfixed_5 (w : World) (kd N X : Int) (b : Option Addr) (nb cb : Nat) (hN0 : 0 ≤ N) (hN1 : N ≤ 255) (hX0 : 0 ≤ X) (hX1 : X ≤ 18446744073709551615) (hm : N % 8 = 4) :
    Calls Try.prog 44 #[.agg #[.int .u8 kd, .int .u8 N, .int .u64 X, .slice b nb cb]] w (PcRes N X w) := by
  have hA : bits .and .u64 X 1099511627775 = X % 1099511627776 := by
    have := bits_mask .u64 64 (by decide) wraps_u64 40 (by decide) X hX0 (by simpa using (by omega : X < 18446744073709551616))
    simpa using this
  have hr : PcRes N X w = fun e w' => e = .returned (.tuple #[.int .i64 5, .int .u64 (bits .and .u64 X 1099511627775)]) ∧ Below w.heap.size w w' := by
    rw [hA]
    unfold PcRes
    rw [hm]
    rfl
  rw [hr]
  clear hr hA
  go_enter Try.func44, Try.ntmps44
  go_wp2_with fail
  go_quiet (fail)
  go_wp2
  go_ret2
  exact ⟨rfl, below_drewN ((Below.refl _ _).alloc (Nat.le_refl _) _) _⟩

set_option maxRecDepth 100000 in
set_option maxHeartbeats 1000000 in
theorem pfixed_6 (w : World) (kd N X : Int) (b : Option Addr) (nb cb : Nat) (hN0 : 0 ≤ N) (hN1 : N ≤ 255) (hX0 : 0 ≤ X) (hX1 : X ≤ 18446744073709551615) (hm : N % 8 = 5) :
    Calls Try.prog 44 #[.agg #[.int .u8 kd, .int .u8 N, .int .u64 X, .slice b nb cb]] w (PcRes N X w) := by
  have hA : bits .and .u64 X 281474976710655 = X % 281474976710656 := by
    have := bits_mask .u64 64 (by decide) wraps_u64 48 (by decide) X hX0 (by simpa using (by omega : X < 18446744073709551616))
    simpa using this
  have hr : PcRes N X w = fun e w' => e = .returned (.tuple #[.int .i64 6, .int .u64 (bits .and .u64 X 281474976710655)]) ∧ Below w.heap.size w w' := by
    rw [hA]
    unfold PcRes
    rw [hm]
    rfl
  rw [hr]
  clear hr hA
  go_enter Try.func44, Try.ntmps44
  go_wp2_with fail
  go_quiet (fail)
  go_wp2
  go_ret2
  exact ⟨rfl, below_drewN ((Below.refl _ _).alloc (Nat.le_refl _) _) _⟩

set_option maxRecDepth 100000 in
set_option maxHeartbeats 1000000 in
theorem pfixed_7 (w : World) (kd N X : Int) (b : Option Addr) (nb cb : Nat) (hN0 : 0 ≤ N) (hN1 : N ≤ 255) (hX0 : 0 ≤ X) (hX1 : X ≤ 18446744073709551615) (hm : N % 8 = 6) :
    Calls Try.prog 44 #[.agg #[.int .u8 kd, .int .u8 N, .int .u64 X, .slice b nb cb]] w (PcRes N X w) := by
  have hA : bits .and .u64 X 72057594037927935 = X % 72057594037927936 := by
    have := bits_mask .u64 64 (by decide) wraps_u64 56 (by decide) X hX0 (by simpa using (by omega : X < 18446744073709551616))
    simpa using this
  have hr : PcRes N X w = fun e w' => e = .returned (.tuple #[.int .i64 7, .int .u64 (bits .and .u64 X 72057594037927935)]) ∧ Below w.heap.size w w' := by
    rw [hA]
    unfold PcRes
    rw [hm]
    rfl
  rw [hr]
  clear hr hA
  go_enter Try.func44, Try.ntmps44
  go_wp2_with fail
  go_quiet (fail)
  go_wp2
  go_ret2
  exact ⟨rfl, below_drewN ((Below.refl _ _).alloc (Nat.le_refl _) _) _⟩

theorem pfixed_any (w : World) (kd N X : Int) (b : Option Addr) (nb cb : Nat) (hN0 : 0 ≤ N) (hN1 : N ≤ 255) (hX0 : 0 ≤ X) (hX1 : X ≤ 18446744073709551615) :
    Calls Try.prog 44 #[.agg #[.int .u8 kd, .int .u8 N, .int .u64 X, .slice b nb cb]] w (PcRes N X w) := by
  have h : N % 8 = 0 ∨ N % 8 = 1 ∨ N % 8 = 2 ∨ N % 8 = 3 ∨ N % 8 = 4 ∨ N % 8 = 5 ∨ N % 8 = 6 ∨ N % 8 = 7 := by omega
  rcases h with h | h | h | h | h | h | h | h
  · exact pfixed_1 w kd N X b nb cb hN0 hN1 hX0 hX1 h
  · exact pfixed_2 w kd N X b nb cb hN0 hN1 hX0 hX1 h
  · exact pfixed_3 w kd N X b nb cb hN0 hN1 hX0 hX1 h
  · exact pfixed_4 w kd N X b nb cb hN0 hN1 hX0 hX1 h
  · exact pfixed_5 w kd N X b nb cb hN0 hN1 hX0 hX1 h
  · exact pfixed_6 w kd N X b nb cb hN0 hN1 hX0 hX1 h
  · exact pfixed_7 w kd N X b nb cb hN0 hN1 hX0 hX1 h
  · exact pfixed_8 w kd N X b nb cb hN0 hN1 hX0 hX1 h
end Go.Proofs.Ytakpockkagfphaa
