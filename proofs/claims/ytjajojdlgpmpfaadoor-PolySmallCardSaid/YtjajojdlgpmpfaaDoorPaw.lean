/-
  The contract of the examples of the chapter on polynomials (awake), and words on worlds and bounds for the laws' walks. No condition but those in each statement.
-/
import Derived.Test.YtjajojdlgpmpfaaDoorPde
import Derived.Test.YtjajojdlgpmpfaaDoorPdf
import Derived.OpenShut
namespace Go.Proofs.YtjajojdlgpmpfaaDoor
open Go.RowKit Go.Shelf

theorem below_step {W a b : World} (h : Below W.heap.size W a) (h2 : Below a.heap.size a b) : Below W.heap.size W b := h.trans (h2.mono h.size)
theorem nat_u64 {n : Int} (h : (Lit.int .u64 n).wf = true) : ∃ m : Nat, n = (m : Int) ∧ m < 18446744073709551616 := by
  have hd := bounds_u64 h
  obtain ⟨m, rfl⟩ := Int.eq_ofNat_of_zero_le hd.1
  exact ⟨m, rfl, by omega⟩

theorem x_mul : cm 3 3 = 5 := by decide +kernel
theorem x_q : pq 19 5 = 5 := by decide +kernel
theorem x_r : pm 19 5 = 2 := by decide +kernel
theorem x_g : pg 5 9 = 3 := by decide +kernel
theorem x_o19 : IsOrd 19 15 := by
  refine ⟨by omega, by decide +kernel, ?_⟩
  have h : ∀ j : Fin 15, 1 ≤ j.val → pm (2 ^ j.val) 19 ≠ pm 1 19 := by decide +kernel
  exact fun j h1 h2 => h ⟨j, h2⟩ h1
theorem x_o5 : IsOrd 5 2 := by
  refine ⟨by omega, by decide +kernel, ?_⟩
  have h : ∀ j : Fin 2, 1 ≤ j.val → pm (2 ^ j.val) 5 ≠ pm 1 5 := by decide +kernel
  exact fun j h1 h2 => h ⟨j, h2⟩ h1
theorem x_o3 : IsOrd 3 1 := ⟨by omega, by decide +kernel, fun j h1 h2 => by omega⟩
theorem x_i19 : irB 19 = true := by decide +kernel
theorem x_i5 : irB 5 = false := by decide +kernel
theorem x_r6 : rvn 6 4 = 6 := by decide +kernel
theorem x_r1 : rvn 1 4 = 8 := by decide +kernel
theorem x_t : textT 19 = [120, 94, 52, 43, 120, 43, 49] := by decide +kernel

theorem a_mul (w : World) : Calls Tryd.prog 20 #[.int .u64 3, .int .u64 3] w fun e w' => e = .returned (.tuple #[.int .u64 5, .int .i64 0]) ∧ Below w.heap.size w w' := by
  have := mul_any 3 3 3 3 w rfl rfl (by omega) (by omega) (by decide +kernel)
  rwa [x_mul] at this
theorem a_div (w : World) : Calls Tryd.prog 22 #[.int .u64 19, .int .u64 5] w fun e w' => e = .returned (.tuple #[.int .u64 5, .int .u64 2, .int .i64 0]) ∧ w = w' := by
  have := div_any 19 19 5 w rfl (by omega) (by omega) (by omega)
  rwa [x_q, x_r] at this
theorem a_o19 (w : World) : Calls Tryd.prog 26 #[.int .u64 19] w fun e w' => e = .returned (.tuple #[.int .i64 15, .int .i64 0]) ∧ w = w' :=
  order_any 19 15 w (by decide +kernel) (by decide +kernel) rfl x_o19 (by decide +kernel)
theorem a_o5 (w : World) : Calls Tryd.prog 26 #[.int .u64 5] w fun e w' => e = .returned (.tuple #[.int .i64 2, .int .i64 0]) ∧ w = w' :=
  order_any 5 2 w (by decide +kernel) (by decide +kernel) rfl x_o5 (by decide +kernel)
theorem a_o3 (w : World) : Calls Tryd.prog 26 #[.int .u64 3] w fun e w' => e = .returned (.tuple #[.int .i64 1, .int .i64 0]) ∧ w = w' :=
  order_any 3 1 w (by decide +kernel) (by decide +kernel) rfl x_o3 (by decide +kernel)
theorem a_r6 (w : World) : Calls Tryd.prog 28 #[.int .u64 6, .int .i64 4] w fun e w' => e = .returned (.tuple #[.int .u64 6, .int .i64 0]) ∧ w = w' := by
  have := reverse_any 6 4 w (by omega) (by omega)
  rwa [x_r6] at this
theorem a_r1 (w : World) : Calls Tryd.prog 28 #[.int .u64 1, .int .i64 4] w fun e w' => e = .returned (.tuple #[.int .u64 8, .int .i64 0]) ∧ w = w' := by
  have := reverse_any 1 4 w (by omega) (by omega)
  rwa [x_r1] at this
theorem a_gcd (w : World) : Calls Tryd.prog 24 #[.int .u64 5, .int .u64 9] w fun e w' => e = .returned (.int .u64 3) ∧ w = w' := by
  have := gcd_any 5 9 5 9 w rfl rfl (by omega) (by omega)
  rwa [x_g] at this
theorem a_i19 (w : World) : Calls Tryd.prog 27 #[.int .u64 19] w fun e w' => e = .returned (.bool true) ∧ Below w.heap.size w w' := by
  refine (irr_any 19 w (by omega)).mono ?_
  rintro e w' ⟨⟨b, hb, rfl⟩, hB⟩
  rw [x_i19] at hb; subst hb
  exact ⟨rfl, hB⟩
theorem a_i5 (w : World) : Calls Tryd.prog 27 #[.int .u64 5] w fun e w' => e = .returned (.bool false) ∧ Below w.heap.size w w' := by
  refine (irr_any 5 w (by omega)).mono ?_
  rintro e w' ⟨⟨b, hb, rfl⟩, hB⟩
  rw [x_i5] at hb; subst hb
  exact ⟨rfl, hB⟩
theorem a_text (w : World) : Calls Tryd.prog 18 #[.int .u64 19] w fun e w' => e = .returned (.string ⟨#[120, 94, 52, 43, 120, 43, 49]⟩) ∧ Below w.heap.size w w' := by
  refine (text_any 19 w (by omega)).mono ?_
  rintro e w' ⟨⟨s, hs, rfl⟩, hB⟩
  rw [x_t] at hs; subst hs
  exact ⟨rfl, hB⟩

set_option maxRecDepth 100000 in
set_option maxHeartbeats 2000000 in
theorem awake_any (W : World) : Calls Tryd.prog 14 #[] W fun e w' => e = .returned (.bool true) ∧ Below W.heap.size W w' := by
  go_enter Tryd.func14, Tryd.ntmps14
  go_wp2_with fail
  refine (a_mul W).mono ?_
  rintro e w1 ⟨rfl, hB⟩
  go_wp2_with fail
  refine (a_div _).mono ?_
  rintro e w' ⟨rfl, rfl⟩
  go_wp2_with fail
  refine (a_o19 _).mono ?_
  rintro e w' ⟨rfl, rfl⟩
  go_wp2_with fail
  refine (a_o5 _).mono ?_
  rintro e w' ⟨rfl, rfl⟩
  go_wp2_with fail
  refine (a_o3 _).mono ?_
  rintro e w' ⟨rfl, rfl⟩
  go_wp2_with fail
  refine (a_r6 _).mono ?_
  rintro e w' ⟨rfl, rfl⟩
  go_wp2_with fail
  refine (a_r1 _).mono ?_
  rintro e w' ⟨rfl, rfl⟩
  go_wp2_with fail
  refine (a_gcd _).mono ?_
  rintro e w' ⟨rfl, rfl⟩
  go_wp2_with fail
  refine (a_i19 _).mono ?_
  rintro e w2 ⟨rfl, hB2⟩
  have hb2 := below_step hB hB2
  clear hB hB2
  go_wp2_with fail
  refine (a_i5 _).mono ?_
  rintro e w3 ⟨rfl, hB3⟩
  have hb3 := below_step hb2 hB3
  clear hb2 hB3
  go_wp2_with fail
  refine (a_text _).mono ?_
  rintro e w4 ⟨rfl, hB4⟩
  have hb4 := below_step hb3 hB4
  clear hb3 hB4
  go_wp2_with fail
  go_ret
  exact ⟨rfl, hb4⟩
end Go.Proofs.YtjajojdlgpmpfaaDoor
