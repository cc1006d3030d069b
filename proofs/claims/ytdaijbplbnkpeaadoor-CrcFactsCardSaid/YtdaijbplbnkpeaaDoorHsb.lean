/-
  Plain facts on changes within 32 bits in a row. No program is named here; the conditions are those in each statement.
-/
import Derived.Test.YtdaijbplbnkpeaaDoorHsx
namespace Go.Proofs.YtdaijbplbnkpeaaDoor

/-- The bits that a pattern changes, from b on, as far as there are. -/
def kb (p b N : Nat) : Nat → List Nat
  | 0 => []
  | i + 1 => kb p b N i ++ (if p.testBit i ∧ b + i < 8 * N then [b + i] else [])
theorem kb_yes {p b N i : Nat} (h : p.testBit i = true) (h2 : b + i < 8 * N) : kb p b N (i + 1) = kb p b N i ++ [b + i] := by rw [kb, if_pos ⟨h, h2⟩]
theorem kb_no {p b N i : Nat} (h : ¬ (p.testBit i = true ∧ b + i < 8 * N)) : kb p b N (i + 1) = kb p b N i := by rw [kb, if_neg h, List.append_nil]
theorem kb_lt {p b N : Nat} : ∀ i, ∀ k ∈ kb p b N i, k < 8 * N := by
  intro i
  induction i with
  | zero => intro k hk; cases hk
  | succ i ih =>
    intro k hk
    rw [kb, List.mem_append] at hk
    rcases hk with hk | hk
    · exact ih k hk
    · split at hk
      · rename_i h; simp at hk; omega
      · cases hk
theorem kb_len {p b N : Nat} : ∀ i, (kb p b N i).length ≤ i := by
  intro i
  induction i with
  | zero => exact Nat.le_refl _
  | succ i ih =>
    rw [kb, List.length_append]
    split <;> simp <;> omega
theorem mod_step (p i : Nat) : p % 2 ^ (i + 1) = if p.testBit i then p % 2 ^ i ^^^ 2 ^ i else p % 2 ^ i := by
  refine Nat.eq_of_testBit_eq fun j => ?_
  by_cases h : p.testBit i = true
  · rw [if_pos h, Nat.testBit_mod_two_pow, Nat.testBit_xor, Nat.testBit_mod_two_pow, Nat.testBit_two_pow]
    by_cases hj : i = j
    · subst hj; simp [h]
    · have : (j < i + 1) ↔ (j < i) := by omega
      simp [hj, this]
  · rw [if_neg h, Nat.testBit_mod_two_pow, Nat.testBit_mod_two_pow]
    by_cases hj : i = j
    · subst hj; simp [h]
    · have : (j < i + 1) ↔ (j < i) := by omega
      simp [this]
/-- What such a change adds: one number, moved. -/
theorem kb_dmg {p b N : Nat} (hb : b < 8 * N) : ∀ i, dmg N (kb p b N i) = hn (8 * N - b) (p % 2 ^ min i (8 * N - b)) := by
  intro i
  induction i with
  | zero => simp [kb, dmg, Nat.mod_one, hn_zero]
  | succ i ih =>
    by_cases h2 : b + i < 8 * N
    · have e1 : min (i + 1) (8 * N - b) = i + 1 := by omega
      have e2 : min i (8 * N - b) = i := by omega
      rw [e2] at ih
      rw [e1, mod_step]
      by_cases h : p.testBit i = true
      · rw [kb_yes h h2, dmg_append, ih, if_pos h, hn_xor]
        congr 1
        show prt N (b + i) ^^^ 0 = _
        rw [Nat.xor_zero, hn_one _ i (by omega)]
        unfold prt
        rw [show 8 * N - (b + i) = 8 * N - b - i from by omega]
      · rw [kb_no (fun hh => h hh.1), ih, if_neg h]
    · rw [kb_no (fun hh => h2 hh.2), ih]
      rw [show min (i + 1) (8 * N - b) = min i (8 * N - b) from by omega]
theorem kb_nil {p b N : Nat} : ∀ i, p % 2 ^ min i (8 * N - b) = 0 → kb p b N i = [] := by
  intro i
  induction i with
  | zero => intro _; rfl
  | succ i ih =>
    intro h
    by_cases h2 : b + i < 8 * N
    · have e1 : min (i + 1) (8 * N - b) = i + 1 := by omega
      have e2 : min i (8 * N - b) = i := by omega
      rw [e2] at ih
      rw [e1, mod_step] at h
      have hp := Nat.mod_lt p (Nat.two_pow_pos i)
      by_cases hb : p.testBit i = true
      · rw [if_pos hb] at h
        have := xor_eq0 h
        omega
      · rw [if_neg hb] at h
        rw [kb_no (fun hh => hb hh.1), ih h]
    · rw [show min (i + 1) (8 * N - b) = min i (8 * N - b) from by omega] at h
      rw [kb_no (fun hh => h2 hh.2), ih h]
/-- Such a change is found just if there is one. -/
theorem burst_found {p b N : Nat} (hp : p < 2 ^ 32) (hb : b < 8 * N) : dmg N (kb p b N 32) = 0 ↔ kb p b N 32 = [] := by
  constructor
  · intro h
    rw [kb_dmg hb] at h
    refine kb_nil 32 (hn_eq0 _ ?_ h)
    exact Nat.lt_of_le_of_lt (Nat.mod_le _ _) hp
  · intro h; rw [h]; rfl
end Go.Proofs.YtdaijbplbnkpeaaDoor
