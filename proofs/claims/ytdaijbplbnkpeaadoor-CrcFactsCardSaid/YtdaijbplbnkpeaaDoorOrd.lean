/-
  Plain facts on polynomials over two elements: powers modulo a polynomial, orders, squares. No program is named here; there are no conditions but those in each statement.
-/
import Derived.Test.YtdaijbplbnkpeaaDoorGcd
namespace Go.Proofs.YtdaijbplbnkpeaaDoor

/-! ### powers by squares -/
theorem pow_round {A x n m R : Nat} (hm0 : m ≠ 0) (h : pm (cm A (pw x n)) m = R) :
    (n % 2 = 1 → pm (cm (pm (cm A x) m) (pw (pm (cm x x) m) (n / 2))) m = R) ∧ (n % 2 = 0 → pm (cm A (pw (pm (cm x x) m) (n / 2))) m = R) := by
  have e : pm (cm A (pw (pm (cm x x) m) (n / 2))) m = pm (cm A (pw x (2 * (n / 2)))) m := by
    rw [← pm_cm_right _ _ hm0, pm_pw _ _ hm0, pm_cm_right _ _ hm0, ← pw_sq, ← pw_mul]
  constructor
  · intro hn
    rw [pm_cm_left _ _ hm0, ← h, cm_assoc, ← pm_cm_right _ _ hm0, ← pm_cm_right x _ hm0, pm_pw _ _ hm0, pm_cm_right x _ hm0, pm_cm_right _ _ hm0, ← pw_sq, ← pw_mul]
    conv => rhs; rw [show n = 2 * (n / 2) + 1 from by omega]
    rw [pw_succ, cm_comm x]
  · intro hn
    rw [e, ← h, show 2 * (n / 2) = n from by omega]
theorem pow_start (n : Nat) {m : Nat} (hm0 : m ≠ 0) : pm (cm (pm 1 m) (pw (pm 2 m) n)) m = pm (2 ^ n) m := by
  rw [pm_cm_left _ _ hm0, one_cm, pm_pw _ _ hm0, pw_two]

/-! ### squares, one after the other -/
def fr (p : Nat) : Nat → Nat
  | 0 => pm 2 p
  | i + 1 => pm (cm (fr p i) (fr p i)) p
theorem fr_eq {p : Nat} (hp : p ≠ 0) (i : Nat) : fr p i = pm (2 ^ 2 ^ i) p := by
  induction i with
  | zero => rfl
  | succ i ih =>
    rw [fr, ih, pm_cm_left _ _ hp, pm_cm_right _ _ hp, pow_cm_pow, Nat.pow_succ]
    congr 2
    omega
theorem fr_bl {p : Nat} (hp : p ≠ 0) (i : Nat) : bl (fr p i) < bl p := by rw [fr_eq hp]; exact pm_bl _ hp
/-- What the test for irreducible polynomials asks. -/
def irB (p : Nat) : Bool := decide (2 ≤ bl p) && (List.range ((bl p - 1) / 2)).all fun i => pg (fr p (i + 1) ^^^ 2) p == 1
theorem irB_iff {p : Nat} : irB p = true ↔ 2 ≤ bl p ∧ ∀ i, i < (bl p - 1) / 2 → pg (fr p (i + 1) ^^^ 2) p = 1 := by
  unfold irB
  simp [List.all_eq_true]

/-! ### orders -/
def IsOrd (m n : Nat) : Prop := 1 ≤ n ∧ pm (2 ^ n) m = pm 1 m ∧ ∀ j, 1 ≤ j → j < n → pm (2 ^ j) m ≠ pm 1 m
theorem IsOrd.uniq {m n k : Nat} (h : IsOrd m n) (h2 : IsOrd m k) : n = k := by
  rcases Nat.lt_trichotomy n k with hl | hl | hl
  · exact absurd h.2.1 (h2.2.2 n h.1 hl)
  · exact hl
  · exact absurd h2.2.1 (h.2.2 k h2.1 hl)
/-- More numbers than places: two fall together. -/
theorem pigeon : ∀ (N : Nat) (f : Nat → Nat), (∀ i, i ≤ N → f i < N) → ∃ i j, i < j ∧ j ≤ N ∧ f i = f j := by
  intro N
  induction N with
  | zero => intro f h; exact absurd (h 0 (Nat.le_refl _)) (by omega)
  | succ N ih =>
    intro f h
    by_cases hx : ∃ i, i ≤ N ∧ f i = f (N + 1)
    · obtain ⟨i, hi, he⟩ := hx
      exact ⟨i, N + 1, by omega, Nat.le_refl _, he⟩
    · -- the place of N + 1 is nobody else's: let what lies in the last place go there
      obtain ⟨i, j, hij, hj, he⟩ := ih (fun i => if f i = N then f (N + 1) else f i) (by
        intro i hi
        have h1 := h i (by omega)
        have h2 := h (N + 1) (Nat.le_refl _)
        have h3 : f i ≠ f (N + 1) := fun e => hx ⟨i, hi, e⟩
        show (if f i = N then f (N + 1) else f i) < N
        split <;> omega)
      refine ⟨i, j, hij, by omega, ?_⟩
      have h3 : f i ≠ f (N + 1) := fun e => hx ⟨i, by omega, e⟩
      have h4 : f j ≠ f (N + 1) := fun e => hx ⟨j, by omega, e⟩
      replace he : (if f i = N then f (N + 1) else f i) = (if f j = N then f (N + 1) else f j) := he
      split at he <;> split at he <;> omega
theorem least {P : Nat → Prop} : ∀ n, P n → ∃ k, k ≤ n ∧ P k ∧ ∀ j, j < k → ¬ P j := by
  intro n
  induction n using Nat.strongRecOn with
  | ind n ih =>
    intro h
    by_cases hx : ∃ j, j < n ∧ P j
    · obtain ⟨j, hj, hp⟩ := hx
      obtain ⟨k, hk, h1, h2⟩ := ih j hj hp
      exact ⟨k, by omega, h1, h2⟩
    · exact ⟨n, Nat.le_refl _, h, fun j hj hp => hx ⟨j, hj, hp⟩⟩
/-- Powers of x can be cut off where x does not divide. -/
theorem cut_two {m a b : Nat} (hm : m % 2 = 1) (h : Dv m (cm 2 a ^^^ cm 2 b)) : Dv m (a ^^^ b) := by
  rw [← cm_xor_right, cm_comm, cm_two] at h
  obtain ⟨q, hq⟩ := h
  have hq2 : q % 2 = 0 := by
    have h1 : cm q m = q ^^^ 2 * cm q (m / 2) := by
      conv => lhs; rw [show m = 2 * (m / 2) + 1 from by omega]
      exact cm_odd _ _
    have h2 : (q ^^^ 2 * cm q (m / 2)) % 2 = 0 := by rw [← h1, ← hq]; omega
    by_cases hh : q % 2 = 1
    · have : (q ^^^ 2 * cm q (m / 2)) % 2 = 1 := Nat.xor_mod_two_eq_one.2 (by omega)
      omega
    · omega
  refine ⟨q / 2, ?_⟩
  have h3 : cm q m = 2 * cm (q / 2) m := by
    conv => lhs; rw [show q = 2 * (q / 2) from by omega]
    exact even_cm _ _
  omega
theorem cut_pow {m : Nat} (hm : m % 2 = 1) (i d : Nat) (h : Dv m (2 ^ i ^^^ 2 ^ (i + d))) : Dv m (1 ^^^ 2 ^ d) := by
  induction i with
  | zero => simpa using h
  | succ i ih =>
    refine ih (cut_two hm ?_)
    have e1 : cm 2 (2 ^ i) = 2 ^ (i + 1) := by rw [cm_comm, cm_two, Nat.pow_succ, Nat.mul_comm]
    have e2 : cm 2 (2 ^ (i + d)) = 2 ^ (i + 1 + d) := by rw [cm_comm, cm_two, show i + 1 + d = i + d + 1 from by omega, Nat.pow_succ, Nat.mul_comm]
    rw [e1, e2]; exact h
/-- Where x does not divide, x has an order. -/
theorem ord_some {m : Nat} (h2 : 2 ≤ bl m) (hm : m % 2 = 1) : ∃ n, IsOrd m n ∧ n ≤ 2 ^ (bl m - 1) := by
  have hm0 : m ≠ 0 := by omega
  obtain ⟨i, j, hij, hj, he⟩ := pigeon (2 ^ (bl m - 1)) (fun i => pm (2 ^ i) m) (fun i _ => bl_le.1 (by have := pm_bl (2 ^ i) hm0; omega))
  have hd := (pm_eq_iff hm0).1 he
  have hd2 := cut_pow hm i (j - i) (by rwa [show i + (j - i) = j from by omega])
  have hP : 1 ≤ j - i ∧ pm (2 ^ (j - i)) m = pm 1 m := ⟨by omega, (pm_cong hm0 hd2).symm⟩
  obtain ⟨k, hk, hp, hl⟩ := least (P := fun n => 1 ≤ n ∧ pm (2 ^ n) m = pm 1 m) (j - i) hP
  exact ⟨k, ⟨hp.1, hp.2, fun t h1 h3 h4 => hl t h3 ⟨h1, h4⟩⟩, by omega⟩
theorem pm_one_big {m : Nat} (h2 : 2 ≤ bl m) : pm 1 m = 1 := pm_lt0 (by simp; omega)
theorem pw_next {m n : Nat} (hm0 : m ≠ 0) : pm (2 * pm (2 ^ n) m) m = pm (2 ^ (n + 1)) m := by
  rw [← cm_two, pm_cm_left _ _ hm0, cm_two, Nat.pow_succ, Nat.mul_comm]
/-- A power that is 1 has a multiple of the order as its exponent. -/
theorem IsOrd.dvd {m n k : Nat} (hm0 : m ≠ 0) (h : IsOrd m n) (hk : pm (2 ^ k) m = pm 1 m) : n ∣ k := by
  have hq : ∀ q, pm (2 ^ (n * q)) m = pm 1 m := by
    intro q
    induction q with
    | zero => simp
    | succ q ih => rw [Nat.mul_succ, ← pow_cm_pow, ← pm_cm_left _ _ hm0, ih, pm_cm_left _ _ hm0, one_cm, h.2.1]
  have hr : pm (2 ^ (k % n)) m = pm 1 m := by
    have h1 : pm (2 ^ k) m = pm (2 ^ (k % n)) m := by
      conv => lhs; rw [← Nat.div_add_mod k n]
      rw [← pow_cm_pow, ← pm_cm_left _ _ hm0, hq, pm_cm_left _ _ hm0, one_cm]
    rw [← h1, hk]
  by_cases h0 : k % n = 0
  · exact Nat.dvd_of_mod_eq_zero h0
  · exact absurd hr (h.2.2 _ (by omega) (Nat.mod_lt _ h.1))
end Go.Proofs.YtdaijbplbnkpeaaDoor
