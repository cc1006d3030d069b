/-
  Plain facts: bytes as a polynomial, and that its remainder is the register behind them. No program is named here; the conditions are those in each statement.
-/
import Derived.Test.YtdaijbplbnkpeaaDoorHst
namespace Go.Proofs.YtdaijbplbnkpeaaDoor

/-- The polynomial of bytes, behind another one. -/
def bp (p : Nat) : List Int → Nat
  | [] => p
  | x :: l => bp (p * 2 ^ 8 ^^^ rvn x.toNat 8) l
theorem mul_pow_xor (a b k : Nat) : (a ^^^ b) * 2 ^ k = a * 2 ^ k ^^^ b * 2 ^ k := by
  rw [← cm_pow, ← cm_pow, ← cm_pow, cm_xor_left]
theorem rvn_byte {x : Nat} (h : x < 256) : rvn x 32 = rvn x 8 * 2 ^ 24 := by
  refine Nat.eq_of_testBit_eq fun i => ?_
  rw [rvn_bit, Nat.testBit_mul_two_pow, rvn_bit]
  by_cases h1 : i < 32
  · by_cases h2 : 24 ≤ i
    · have e : 32 - 1 - i = 8 - 1 - (i - 24) := by omega
      have h3 : i - 24 < 8 := by omega
      simp [h1, h2, h3, e]
    · have h4 : x < 2 ^ (32 - 1 - i) := Nat.lt_of_lt_of_le (show x < 2 ^ 8 from h) (Nat.pow_le_pow_right (by omega) (by omega))
      rw [Nat.testBit_lt_two_pow h4]
      simp [h2]
  · have h3 : ¬ (i - 24 < 8) := by omega
    simp [h1, h3]
theorem bp_rem {l : List Int} (hB : Bys l) : ∀ {c p}, c < 2 ^ 32 → rvn c 32 = pm (p * 2 ^ 32) gP → rvn (fol c l) 32 = pm (bp p l * 2 ^ 32) gP := by
  induction l with
  | nil => intro c p _ h; exact h
  | cons x l ih =>
    intro c p hc h
    have hx := hB.head
    have hxn : x.toNat < 256 := by omega
    rw [fol_cons, bp]
    refine ih hB.tail (hn_lt 8 (Nat.xor_lt_two_pow hc (by omega))) ?_
    rw [rvn_hn 8 (Nat.xor_lt_two_pow hc (by omega)), rvn_xor, h, rvn_byte hxn, mul_pow_xor, pm_xor _ _ gP_ne, ← cm_pow, pm_cm_left _ _ gP_ne, cm_pow, ← pm_xor _ _ gP_ne]
    congr 1
    rw [mul_pow_xor, show p * 2 ^ 32 * 2 ^ 8 = p * 2 ^ 8 * 2 ^ 32 from by rw [Nat.mul_assoc, Nat.mul_assoc, Nat.mul_comm (2 ^ 32)], Nat.mul_assoc (rvn _ _), show (2 : Nat) ^ 24 * 2 ^ 8 = 2 ^ 32 from rfl]
theorem bp_lin {l : List Int} (hB : Bys l) : rvn (pm (bp 0 l * 2 ^ 32) gP) 32 = fol 0 l := by
  have h := bp_rem hB (c := 0) (p := 0) (by decide) (by rw [Nat.zero_mul, pm_lt0 (by rw [gP_bl]; decide)]; decide +kernel)
  rw [← h, rvn_rvn, Nat.mod_eq_of_lt (fol_lt hB (by decide))]
theorem bp_bit {l : List Int} (hB : Bys l) : ∀ p i, (bp p l).testBit i = if i < 8 * l.length then (l[(8 * l.length - 1 - i) / 8]?.getD 0).toNat.testBit ((8 * l.length - 1 - i) % 8) else p.testBit (i - 8 * l.length) := by
  induction l with
  | nil => intro p i; simp [bp]
  | cons x l ih =>
    intro p i
    rw [bp, ih hB.tail, List.length_cons]
    by_cases h1 : i < 8 * l.length
    · rw [if_pos h1, if_pos (by omega)]
      have e1 : (8 * (l.length + 1) - 1 - i) / 8 = (8 * l.length - 1 - i) / 8 + 1 := by omega
      have e2 : (8 * (l.length + 1) - 1 - i) % 8 = (8 * l.length - 1 - i) % 8 := by omega
      rw [e1, e2, List.getElem?_cons_succ]
    · rw [if_neg h1]
      by_cases h2 : i < 8 * (l.length + 1)
      · rw [if_pos h2]
        have e1 : (8 * (l.length + 1) - 1 - i) / 8 = 0 := by omega
        have e2 : (8 * (l.length + 1) - 1 - i) % 8 = 8 - 1 - (i - 8 * l.length) := by omega
        have h3 : i - 8 * l.length < 8 := by omega
        have h5 : ¬ (8 ≤ i - 8 * l.length) := by omega
        rw [e1, e2, List.getElem?_cons_zero, Option.getD_some, Nat.testBit_xor, Nat.testBit_mul_two_pow, rvn_bit]
        simp [h3, h5]
      · rw [if_neg h2, Nat.testBit_xor, Nat.testBit_mul_two_pow, rvn_bit]
        have h3 : ¬ (i - 8 * l.length < 8) := by omega
        have h4 : 8 ≤ i - 8 * l.length := by omega
        have e : i - 8 * l.length - 8 = i - 8 * (l.length + 1) := by omega
        simp [h3, h4, e]
theorem bp_bl {l : List Int} (hB : Bys l) : bp 0 l < 2 ^ (8 * l.length) := by
  refine Nat.lt_pow_two_of_testBit _ fun i hi => ?_
  rw [bp_bit hB, if_neg (by omega), Nat.zero_testBit]
/-- One coefficient, as the reference takes it. -/
theorem bp_cf {l : List Int} (hB : Bys l) {k : Nat} (hk : k < 8 * l.length) : (bp 0 l * 2 ^ 32).testBit (32 + 8 * l.length - 1 - k) = (l[k / 8]?.getD 0).toNat.testBit (k % 8) := by
  obtain ⟨i, hi⟩ : ∃ i, i = 32 + 8 * l.length - 1 - k := ⟨_, rfl⟩
  rw [← hi, Nat.testBit_mul_two_pow, bp_bit hB]
  have h1 : 32 ≤ i := by omega
  have h2 : i - 32 < 8 * l.length := by omega
  have e : 8 * l.length - 1 - (i - 32) = k := by omega
  rw [e]; simp [h1, h2]
theorem byte_bit (x k : Nat) : ((x / 2 ^ k % 2 : Nat) : Int) = if x.testBit k then 1 else 0 := by
  rw [Nat.testBit_eq_decide_div_mod_eq]
  rcases Nat.mod_two_eq_zero_or_one (x / 2 ^ k) with h | h <;> simp [h]
end Go.Proofs.YtdaijbplbnkpeaaDoor
