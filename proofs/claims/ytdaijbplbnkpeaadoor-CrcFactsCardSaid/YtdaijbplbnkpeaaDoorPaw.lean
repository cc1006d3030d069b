/-
  The contract of the examples of the chapter on polynomials (awake), and words on worlds and bounds for the laws' walks. No condition but those in each statement.
-/
import Derived.Test.YtdaijbplbnkpeaaDoorPde
import Derived.Test.YtdaijbplbnkpeaaDoorPdf
import Derived.OpenShut
namespace Go.Proofs.YtdaijbplbnkpeaaDoor
open Go.RowKit Go.Shelf

theorem below_step {W a b : World} (h : Below W.heap.size W a) (h2 : Below a.heap.size a b) : Below W.heap.size W b := h.trans (h2.mono h.size)
theorem nat_u64 {n : Int} (h : (Lit.int .u64 n).wf = true) : ∃ m : Nat, n = (m : Int) ∧ m < 18446744073709551616 := by
  have hd := bounds_u64 h
  obtain ⟨m, rfl⟩ := Int.eq_ofNat_of_zero_le hd.1
  exact ⟨m, rfl, by omega⟩

theorem x_mul : cm 3 3 = 5 := by decide +kernel
theorem x_q : pq 19 5 = 5 := by decide +kernel
theorem x_r : pm 19 5 = 2 := by decide +kernel
theorem x_g : pg 5 9 = 3 := by decide +kernel
theorem x_o19 : IsOrd 19 15 := by
  refine ⟨by omega, by decide +kernel, ?_⟩
  have h : ∀ j : Fin 15, 1 ≤ j.val → pm (2 ^ j.val) 19 ≠ pm 1 19 := by decide +kernel
  exact fun j h1 h2 => h ⟨j, h2⟩ h1
theorem x_o5 : IsOrd 5 2 := by
  refine ⟨by omega, by decide +kernel, ?_⟩
  have h : ∀ j : Fin 2, 1 ≤ j.val → pm (2 ^ j.val) 5 ≠ pm 1 5 := by decide +kernel
  exact fun j h1 h2 => h ⟨j, h2⟩ h1
theorem x_o3 : IsOrd 3 1 := ⟨by omega, by decide +kernel, fun j h1 h2 => by omega⟩
theorem x_i19 : irB 19 = true := by decide +kernel
theorem x_i5 : irB 5 = false := by decide +kernel
theorem x_r6 : rvn 6 4 = 6 := by decide +kernel
theorem x_r1 : rvn 1 4 = 8 := by decide +kernel
theorem x_t : textT 19 = [120, 94, 52, 43, 120, 43, 49] := by decide +kernel

theorem a_div (w : World) : Calls Tryd.prog 87 #[.int .u64 19, .int .u64 5] w fun e w' => e = .returned (.tuple #[.int .u64 5, .int .u64 2, .int .i64 0]) ∧ w = w' := by
  have := div_any 19 19 5 w rfl (by omega) (by omega) (by omega)
  rwa [x_q, x_r] at this
theorem a_r6 (w : World) : Calls Tryd.prog 77 #[.int .u64 6, .int .i64 4] w fun e w' => e = .returned (.tuple #[.int .u64 6, .int .i64 0]) ∧ w = w' := by
  have := reverse_any 6 4 w (by omega) (by omega)
  rwa [x_r6] at this
theorem a_r1 (w : World) : Calls Tryd.prog 77 #[.int .u64 1, .int .i64 4] w fun e w' => e = .returned (.tuple #[.int .u64 8, .int .i64 0]) ∧ w = w' := by
  have := reverse_any 1 4 w (by omega) (by omega)
  rwa [x_r1] at this
end Go.Proofs.YtdaijbplbnkpeaaDoor
