/-
  Plain facts on bits in the opposite order. No program is named here; there are no conditions but those in each statement.
-/
namespace Go.Proofs.YtdaijbplbnkpeaaDoor

/-- The lowest n bits in the opposite order. -/
def rvn (p : Nat) : Nat → Nat
  | 0 => 0
  | n + 1 => 2 * rvn p n + p / 2 ^ n % 2
theorem rvn_lt (p n : Nat) : rvn p n < 2 ^ n := by
  induction n with
  | zero => simp [rvn]
  | succ n ih => rw [rvn, Nat.pow_succ]; omega
theorem rvn_bit (p n : Nat) : ∀ i, (rvn p n).testBit i = (decide (i < n) && p.testBit (n - 1 - i)) := by
  induction n with
  | zero => intro i; simp [rvn]
  | succ n ih =>
    intro i
    rw [rvn]
    cases i with
    | zero =>
      have h1 : Nat.testBit (2 * rvn p n + p / 2 ^ n % 2) 0 = p.testBit n := by
        rw [Nat.testBit_zero, Nat.testBit_eq_decide_div_mod_eq]
        congr 1
        simp only [eq_iff_iff]
        omega
      rw [h1]; simp
    | succ i =>
      rw [Nat.testBit_succ, show (2 * rvn p n + p / 2 ^ n % 2) / 2 = rvn p n from by omega, ih]
      have e : n + 1 - 1 - (i + 1) = n - 1 - i := by omega
      rw [e]
      congr 1
      simp
/-- Two numbers of n bits with the same bits. -/
theorem eq_of_bits {a b n : Nat} (ha : a < 2 ^ n) (hb : b < 2 ^ n) (h : ∀ i, i < n → a.testBit i = b.testBit i) : a = b := by
  refine Nat.eq_of_testBit_eq fun i => ?_
  by_cases hi : i < n
  · exact h i hi
  · have hp : 2 ^ n ≤ 2 ^ i := Nat.pow_le_pow_right (by omega) (by omega)
    rw [Nat.testBit_lt_two_pow (by omega), Nat.testBit_lt_two_pow (by omega)]
theorem rvn_rvn (p n : Nat) : rvn (rvn p n) n = p % 2 ^ n := by
  refine eq_of_bits (rvn_lt _ _) (Nat.mod_lt _ (Nat.two_pow_pos _)) fun i hi => ?_
  rw [rvn_bit, rvn_bit, Nat.testBit_mod_two_pow]
  simp [hi]
  rw [show n - 1 - (n - 1 - i) = i from by omega]
  have : n - 1 - i < n := by omega
  simp [this]

/-! ### the steps of the library -/
def st (M s x : Nat) : Nat := ((x / 2 ^ s) &&& M) ||| ((x &&& M) * 2 ^ s % 2 ^ 64)
theorem st_lt (M s x : Nat) (hM : M < 2 ^ 64) : st M s x < 2 ^ 64 := Nat.or_lt_two_pow (Nat.lt_of_le_of_lt Nat.and_le_right hM) (Nat.mod_lt _ (Nat.two_pow_pos _))
theorem st_bit (M s x i : Nat) (hi : i < 64) : (st M s x).testBit i = ((x.testBit (i + s) && M.testBit i) || (decide (s ≤ i) && (x.testBit (i - s) && M.testBit (i - s)))) := by
  unfold st
  rw [Nat.testBit_or, Nat.testBit_and, Nat.testBit_div_two_pow, Nat.testBit_mod_two_pow, Nat.testBit_mul_two_pow, Nat.testBit_and]
  simp [hi]
def MaskOk (M s : Nat) : Prop := ∀ i : Fin 64, (M.testBit i.val = true → i.val + s = i.val ^^^ s ∧ i.val ^^^ s < 64 ∧ (s ≤ i.val → M.testBit (i.val - s) = false)) ∧ (M.testBit i.val = false → s ≤ i.val ∧ M.testBit (i.val - s) = true ∧ i.val - s = i.val ^^^ s)
theorem st_swap {M s : Nat} (h : MaskOk M s) (x i : Nat) (hi : i < 64) : (st M s x).testBit i = x.testBit (i ^^^ s) := by
  rw [st_bit M s x i hi]
  obtain ⟨h1, h2⟩ := h ⟨i, hi⟩
  simp only at h1 h2
  by_cases hm : M.testBit i = true
  · obtain ⟨a, b, c⟩ := h1 hm
    rw [hm, a]
    by_cases hs : s ≤ i
    · rw [c hs]; simp
    · simp [hs]
  · have hm2 : M.testBit i = false := by simpa using hm
    obtain ⟨a, b, c⟩ := h2 hm2
    rw [hm2, b, c]; simp [a]
theorem mask1 : MaskOk 6148914691236517205 1 := by unfold MaskOk; decide +kernel
theorem mask2 : MaskOk 3689348814741910323 2 := by unfold MaskOk; decide +kernel
theorem mask4 : MaskOk 1085102592571150095 4 := by unfold MaskOk; decide +kernel
theorem mask8 : MaskOk 71777214294589695 8 := by unfold MaskOk; decide +kernel
theorem mask16 : MaskOk 281470681808895 16 := by unfold MaskOk; decide +kernel
def sw (x : Nat) : Nat := (x / 4294967296) ||| (x * 4294967296 % 18446744073709551616)
theorem sw_lt {x : Nat} (h : x < 2 ^ 64) : sw x < 2 ^ 64 := Nat.or_lt_two_pow (by omega) (Nat.mod_lt _ (Nat.two_pow_pos 64))
theorem sw_bit {x : Nat} (hx : x < 2 ^ 64) (i : Nat) (hi : i < 64) : (sw x).testBit i = x.testBit (i ^^^ 32) := by
  have e1 : (x / 4294967296).testBit i = x.testBit (i + 32) := Nat.testBit_div_two_pow (n := 32) x i
  have e2 : (x * 4294967296 % 18446744073709551616).testBit i = (decide (i < 64) && (decide (32 ≤ i) && x.testBit (i - 32))) := by
    have := Nat.testBit_mod_two_pow (x * 2 ^ 32) 64 i
    rw [Nat.testBit_mul_two_pow] at this
    exact this
  unfold sw
  rw [Nat.testBit_or, e1, e2]
  have h : ∀ i : Fin 64, (32 ≤ i.val → i.val - 32 = i.val ^^^ 32) ∧ (i.val < 32 → i.val + 32 = i.val ^^^ 32) := by decide +kernel
  obtain ⟨h1, h2⟩ := h ⟨i, hi⟩
  simp only at h1 h2
  by_cases hs : 32 ≤ i
  · rw [h1 hs, Nat.testBit_lt_two_pow (i := i + 32) (x := x) (Nat.lt_of_lt_of_le hx (Nat.pow_le_pow_right (by omega) (by omega)))]
    simp [hi, hs]
  · rw [h2 (by omega)]; simp [hs]
/-- The chain of the library's steps turns 64 bits round. -/
theorem rev_chain (x : Nat) (k : Nat) (hk : k ≤ 64) : sw (st 281470681808895 16 (st 71777214294589695 8 (st 1085102592571150095 4 (st 3689348814741910323 2 (st 6148914691236517205 1 x))))) / 2 ^ (64 - k) = rvn x k := by
  have hlt : sw (st 281470681808895 16 (st 71777214294589695 8 (st 1085102592571150095 4 (st 3689348814741910323 2 (st 6148914691236517205 1 x))))) < 2 ^ 64 := sw_lt (st_lt _ _ _ (by decide))
  refine eq_of_bits (n := k) ?_ (rvn_lt _ _) fun i hi => ?_
  · rw [Nat.div_lt_iff_lt_mul (Nat.two_pow_pos _), ← Nat.pow_add, show k + (64 - k) = 64 from by omega]; exact hlt
  · have hall : ∀ i : Fin 64, i.val ^^^ 32 < 64 ∧ i.val ^^^ 32 ^^^ 16 < 64 ∧ i.val ^^^ 32 ^^^ 16 ^^^ 8 < 64 ∧ i.val ^^^ 32 ^^^ 16 ^^^ 8 ^^^ 4 < 64 ∧ i.val ^^^ 32 ^^^ 16 ^^^ 8 ^^^ 4 ^^^ 2 < 64 ∧ i.val ^^^ 32 ^^^ 16 ^^^ 8 ^^^ 4 ^^^ 2 ^^^ 1 = 63 - i.val := by decide +kernel
    obtain ⟨a1, a2, a3, a4, a5, a6⟩ := hall ⟨i + (64 - k), by omega⟩
    simp only at a1 a2 a3 a4 a5 a6
    rw [Nat.testBit_div_two_pow, sw_bit (st_lt _ _ _ (by decide)) _ (by omega), st_swap mask16 _ _ a1, st_swap mask8 _ _ a2, st_swap mask4 _ _ a3, st_swap mask2 _ _ a4, st_swap mask1 _ _ a5, a6, rvn_bit, show 63 - (i + (64 - k)) = k - 1 - i from by omega]
    simp [hi]
end Go.Proofs.YtdaijbplbnkpeaaDoor
