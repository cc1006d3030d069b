/-
  Plain facts on the terms of a polynomial over two elements. No program is named here; there are no conditions but those in each statement.
-/
import Derived.Test.YtdaijbplbnkpeaaDoorPol
namespace Go.Proofs.YtdaijbplbnkpeaaDoor

theorem top_off {p : Nat} (h : p ≠ 0) : bl (p ^^^ 2 ^ (bl p - 1)) < bl p := by
  have hp := bl_pos h
  have h2 : bl (2 ^ (bl p - 1)) = bl p := by rw [bl_two_pow]; omega
  have := bl_xor_eq h2.symm (Nat.ne_of_gt (Nat.two_pow_pos _))
  omega
/-- The degrees of the terms, the greatest one first. -/
def tdeg (p : Nat) : List Nat := if h : p = 0 then [] else (bl p - 1) :: tdeg (p ^^^ 2 ^ (bl p - 1))
  termination_by bl p
  decreasing_by exact top_off h
theorem tdeg_zero : tdeg 0 = [] := by rw [tdeg]; simp
theorem tdeg_cons {p : Nat} (h : p ≠ 0) : tdeg p = (bl p - 1) :: tdeg (p ^^^ 2 ^ (bl p - 1)) := by rw [tdeg, dif_neg h]
theorem bl_ind {P : Nat → Prop} (z : P 0) (s : ∀ p, p ≠ 0 → P (p ^^^ 2 ^ (bl p - 1)) → P p) (p : Nat) : P p := by
  suffices h : ∀ n p, bl p ≤ n → P p from h _ p (Nat.le_refl _)
  intro n
  induction n with
  | zero => intro p hp; rw [bl_eq0.1 (by omega : bl p = 0)]; exact z
  | succ n ih =>
    intro p hp
    by_cases h : p = 0
    · rw [h]; exact z
    · exact s p h (ih _ (by have := top_off h; omega))
theorem tdeg_lt (p : Nat) : ∀ i ∈ tdeg p, i < bl p := by
  refine bl_ind (P := fun p => ∀ i ∈ tdeg p, i < bl p) ?_ ?_ p
  · rw [tdeg_zero]; simp
  · intro p h ih i hi
    rw [tdeg_cons h] at hi
    have hp := bl_pos h
    have ht := top_off h
    rcases List.mem_cons.1 hi with rfl | hi
    · omega
    · have := ih i hi; omega
theorem tdeg_len (p : Nat) : (tdeg p).length ≤ bl p := by
  refine bl_ind (P := fun p => (tdeg p).length ≤ bl p) ?_ ?_ p
  · rw [tdeg_zero]; simp
  · intro p h ih
    rw [tdeg_cons h]
    have := top_off h
    simp; omega
/-- The sum of the products of a with terms. -/
def ts (a : Nat) : List Nat → Nat
  | [] => 0
  | i :: l => a * 2 ^ i ^^^ ts a l
theorem ts_append (a : Nat) (l m : List Nat) : ts a (l ++ m) = ts a l ^^^ ts a m := by
  induction l with
  | nil => simp [ts]
  | cons i l ih => simp [ts, ih, Nat.xor_assoc]
theorem ts_snoc (a : Nat) (l : List Nat) (i : Nat) : ts a (l ++ [i]) = ts a l ^^^ a * 2 ^ i := by rw [ts_append]; simp [ts]
theorem ts_tdeg (a b : Nat) : ts a (tdeg b) = cm a b := by
  refine bl_ind (P := fun b => ts a (tdeg b) = cm a b) ?_ ?_ b
  · rw [tdeg_zero]; simp [ts]
  · intro p h ih
    rw [tdeg_cons h, ts, ih, cm_xor_right, cm_pow, Nat.xor_comm (cm a p), xor_cl]
theorem ts_one (p : Nat) : ts 1 (tdeg p) = p := by rw [ts_tdeg, one_cm]
theorem tdeg_inj {p q : Nat} (h : tdeg p = tdeg q) : p = q := by rw [← ts_one p, h, ts_one q]
end Go.Proofs.YtdaijbplbnkpeaaDoor
