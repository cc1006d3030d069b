/-
  The bytes of a number of fixed bytes, and the number that they are. No condition but those in each statement.
-/
import Derived.Test.YtakpockkagfphaaPf
import Derived.Test.YtakpockkagfphaaFx
namespace Go.Proofs.Ytakpockkagfphaa

theorem leB_cons (n : Nat) (x : Int) : leB (n + 1) x = x % 256 :: leB n (x / 256) := by
  unfold leB
  rw [List.range_succ_eq_map, List.map_cons, List.map_map]
  congr 1
  · simp
  · apply List.map_congr_left
    intro i _
    simp only [Function.comp]
    rw [Int.pow_succ, Int.mul_comm, ← Int.ediv_ediv_of_nonneg (by omega)]

theorem leV_leB (n : Nat) : ∀ x : Int, leV (leB n x) = x % 256 ^ n := by
  induction n with
  | zero => intro x; simp [leB, leV, Int.emod_one]
  | succ n ih =>
    intro x
    rw [leB_cons, leV, ih]
    have hp : (256 : Int) ^ (n + 1) = 256 * 256 ^ n := by rw [Int.pow_succ, Int.mul_comm]
    rw [hp]
    have h1 := Int.emod_add_mul_ediv x (256 * 256 ^ n)
    have h2 := Int.emod_add_mul_ediv x 256
    have h3 := Int.emod_add_mul_ediv (x / 256) (256 ^ n)
    have h4 : x / 256 / 256 ^ n = x / (256 * 256 ^ n) := Int.ediv_ediv_of_nonneg (by omega)
    rw [h4] at h3
    have h5 : 256 * (256 ^ n * (x / (256 * 256 ^ n))) = 256 * 256 ^ n * (x / (256 * 256 ^ n)) := by rw [Int.mul_assoc]
    omega

theorem leB_bytes (n : Nat) (x : Int) : Bytes (leB n x) := by
  intro c hc
  unfold leB at hc
  obtain ⟨i, _, rfl⟩ := List.mem_map.1 hc
  exact ⟨Int.emod_nonneg _ (by omega), by have := Int.emod_lt_of_pos (x / 256 ^ i) (by omega : (0 : Int) < 256); omega⟩
end Go.Proofs.Ytakpockkagfphaa
