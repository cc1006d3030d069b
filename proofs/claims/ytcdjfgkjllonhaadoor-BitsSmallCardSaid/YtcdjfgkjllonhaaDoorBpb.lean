/-
  Plain facts that join the bits of one word with those of all: ranks, the lowest one, what is left without it.
-/
import Derived.Test.YtcdjfgkjllonhaaDoorBpa
import Derived.Test.YtcdjfgkjllonhaaDoorBrn
import Derived.Lib.TrailingZeros
namespace Go.Proofs.YtcdjfgkjllonhaaDoor

/-- The word with a number. -/
def wd (l : List Int) (j : Nat) : Nat := (l[j]?.getD 0).toNat
theorem wd_lt {l : List Int} (h : Wds l) (j : Nat) : wd l j < 18446744073709551616 := h.toNat j
theorem wd_eq {l : List Int} (h : Wds l) (j : Nat) : l[j]?.getD 0 = (wd l j : Int) := by have := h.at j; unfold wd; omega
theorem bt_wd (l : List Int) (j k : Nat) (hk : k < 64) : bt l (64 * j + k) = (wd l j).testBit k := by
  unfold bt wd; rw [show (64 * j + k) / 64 = j by omega, show (64 * j + k) % 64 = k by omega]
theorem rk_word (l : List Int) (j k : Nat) (hk : k ≤ 64) : rk l (64 * j + k) = rk l (64 * j) + pop (wd l j) k := by
  induction k with
  | zero => rfl
  | succ k ih =>
    rw [show 64 * j + (k + 1) = 64 * j + k + 1 from by omega, rk_succ, ih (by omega), bt_wd l j k (by omega), pop_succ]
    cases (wd l j).testBit k <;> simp <;> omega
theorem rk_next (l : List Int) (j : Nat) : rk l (64 * (j + 1)) = rk l (64 * j) + pop (wd l j) 64 := rk_word l j 64 (by omega)
/-- A round of Rank. -/
theorem rank_step (l : List Int) (j i : Nat) : rk l (min (64 * (j + 1)) i) = rk l (min (64 * j) i) + pop (wd l j) (min (i - 64 * j) 64) := by
  by_cases h1 : i ≤ 64 * j
  · rw [show min (64 * (j + 1)) i = i by omega, show min (64 * j) i = i by omega, show min (i - 64 * j) 64 = 0 by omega]; rfl
  · by_cases h2 : i ≤ 64 * (j + 1)
    · have := rk_word l j (i - 64 * j) (by omega)
      rw [show min (64 * (j + 1)) i = 64 * j + (i - 64 * j) by omega, show min (64 * j) i = 64 * j by omega, show min (i - 64 * j) 64 = i - 64 * j by omega]
      exact this
    · rw [show min (64 * (j + 1)) i = 64 * (j + 1) by omega, show min (64 * j) i = 64 * j by omega, show min (i - 64 * j) 64 = 64 by omega]
      exact rk_next l j
theorem rank_end (l : List Int) (i : Nat) : rk l (min (64 * l.length) i) = rk l i := by
  by_cases h : i ≤ 64 * l.length
  · rw [show min (64 * l.length) i = i by omega]
  · rw [show min (64 * l.length) i = 64 * l.length by omega, rk_big (Nat.le_refl _), rk_big (by omega)]
/-- The lowest one of a word. -/
theorem low_word {w : Nat} (h0 : w ≠ 0) (h : w < 18446744073709551616) : ∃ t, Lib.ctz 64 w = t ∧ t < 64 ∧ w.testBit t = true ∧ (∀ i, i < t → w.testBit i = false) ∧ (∀ i, (dl w).testBit i = (w.testBit i && decide (t < i))) ∧ dl w < w := by
  obtain ⟨q, hq, hk⟩ := Lib.ctzFrom_spec 64 w (by omega) h
  have e : Lib.ctz 64 w = Lib.ctzFrom 64 w := by simp [Lib.ctz, h0]
  obtain ⟨t, ht⟩ : ∃ t, t = Lib.ctzFrom 64 w := ⟨_, rfl⟩
  rw [← ht] at hq hk e
  refine ⟨t, e, hk, by rw [hq, test_low]; simp, fun i hi => ?_, fun i => ?_, ?_⟩
  · rw [hq, test_low]
    have a1 : ¬ i = t := by omega
    have a2 : ¬ t < i := by omega
    simp [a1, a2]
  · rw [hq, test_dl, test_low]
    by_cases h1 : t < i
    · have a1 : ¬ i = t := by omega
      simp [h1, a1]
    · simp [h1]
  · unfold dl
    have := Nat.and_le_right (n := w) (m := w - 1)
    omega
theorem dl_lt {w : Nat} (h : w < 18446744073709551616) : dl w < 18446744073709551616 := by
  unfold dl; have := Nat.and_le_left (n := w) (m := w - 1); omega
/-- What is left of a word when its k lowest ones are gone. -/
def Drop (w k v : Nat) : Prop := v < 18446744073709551616 ∧ ∀ i, i < 64 → v.testBit i = (w.testBit i && decide (k ≤ pop w i))
theorem Drop.zero {w : Nat} (h : w < 18446744073709551616) : Drop w 0 w := ⟨h, fun i _ => by simp⟩
theorem test_high {v i : Nat} (h : v < 18446744073709551616) (hi : 64 ≤ i) : v.testBit i = false :=
  Nat.testBit_lt_two_pow (Nat.lt_of_lt_of_le h (Nat.pow_le_pow_right (n := 2) (by omega) hi))
theorem zero_of_bits {v : Nat} (h : v < 18446744073709551616) (hb : ∀ i, i < 64 → v.testBit i = false) : v = 0 := by
  refine Nat.eq_of_testBit_eq fun i => ?_
  rw [Nat.zero_testBit]
  by_cases hi : i < 64
  · exact hb i hi
  · exact test_high h (by omega)
/-- There is a one of each rank below the number of ones. -/
theorem pop_at {w k n : Nat} (h : k < pop w n) : ∃ t, t < n ∧ w.testBit t = true ∧ pop w t = k := by
  induction n with
  | zero => exact absurd h (Nat.not_lt_zero _)
  | succ n ih =>
    by_cases h2 : k < pop w n
    · obtain ⟨t, h3, h4⟩ := ih h2; exact ⟨t, by omega, h4⟩
    · rw [pop_succ] at h
      cases hb : w.testBit n with
      | false => rw [hb] at h; simp at h; omega
      | true => rw [hb] at h; simp at h; exact ⟨n, by omega, hb, by omega⟩
theorem pop_lt_of {w i j : Nat} (hij : i < j) (hb : w.testBit i = true) : pop w i < pop w j := by
  have := pop_mono w (show i + 1 ≤ j from hij)
  rw [pop_succ, hb] at this
  simp at this; omega
/-- The lowest one of what is left is the one with that rank. -/
theorem Drop.low {w k v t : Nat} (h : Drop w k v) (ht : t < 64) (hv : v.testBit t = true) (hl : ∀ i, i < t → v.testBit i = false) : w.testBit t = true ∧ pop w t = k := by
  have h1 := h.2 t ht
  rw [hv] at h1
  have h2 : w.testBit t = true := by cases hb : w.testBit t <;> simp [hb] at h1 ⊢
  have h3 : k ≤ pop w t := by rw [h2] at h1; simpa using h1
  refine ⟨h2, ?_⟩
  rcases Nat.lt_or_ge k (pop w t) with h4 | h4
  · obtain ⟨s, hs, hb, hp⟩ := pop_at h4
    have := hl s hs
    rw [h.2 s (by omega), hb, hp] at this
    simp at this
  · omega
theorem Drop.pos {w k v : Nat} (h : Drop w k v) (hk : k < pop w 64) : v ≠ 0 := by
  obtain ⟨t, ht, hb, hp⟩ := pop_at hk
  intro e
  have := h.2 t ht
  rw [e, Nat.zero_testBit, hb, hp] at this
  simp at this
theorem Drop.next {w k v : Nat} (h : Drop w k v) (hk : k < pop w 64) : Drop w (k + 1) (dl v) := by
  refine ⟨dl_lt h.1, fun i hi => ?_⟩
  obtain ⟨t, _, ht, hv, hl, hd, _⟩ := low_word (h.pos hk) h.1
  obtain ⟨hw, hp⟩ := h.low ht hv hl
  rw [hd, h.2 i hi]
  cases hb : w.testBit i with
  | false => simp
  | true =>
    rcases Nat.lt_trichotomy i t with h1 | h1 | h1
    · have := pop_lt_of h1 hb
      have a1 : ¬ k + 1 ≤ pop w i := by omega
      have a2 : ¬ t < i := by omega
      simp [a1, a2]
    · subst h1
      have a1 : ¬ k + 1 ≤ pop w i := by omega
      simp [a1]
    · have := pop_lt_of h1 hw
      have a1 : k + 1 ≤ pop w i := by omega
      have a2 : k ≤ pop w i := by omega
      simp [a1, a2, h1]
/-- What Select finds. -/
theorem select_at {l : List Int} {j k v t K : Nat} (hv : Drop (wd l j) k v) (ht : t < 64) (hb : v.testBit t = true) (hl : ∀ i, i < t → v.testBit i = false) (hK : K = rk l (64 * j) + k) : (all l)[K]? = some (64 * j + t) := by
  obtain ⟨hw, hp⟩ := hv.low ht hb hl
  have h1 : bt l (64 * j + t) = true := by rw [bt_wd l j t ht]; exact hw
  have h2 := (rk_at h1).2
  rw [rk_word l j t (by omega), hp, ← hK] at h2
  exact h2

/-- What is left of a word from a place on. -/
def Left (w z v : Nat) : Prop := v < 18446744073709551616 ∧ ∀ i, i < 64 → v.testBit i = (w.testBit i && decide (z ≤ i))
theorem Left.zero {w : Nat} (h : w < 18446744073709551616) : Left w 0 w := ⟨h, fun i _ => by simp⟩
theorem mem_skip {l : List Int} {a b : Nat} (hab : a ≤ b) (h : ∀ j, a ≤ j → j < b → bt l j = false) : mem b l = mem a l := by
  obtain ⟨d, rfl⟩ : ∃ d, b = a + d := ⟨b - a, by omega⟩
  clear hab
  induction d with
  | zero => rfl
  | succ d ih =>
    rw [show a + (d + 1) = a + d + 1 from by omega, mem_succ, h (a + d) (by omega) (by omega), if_neg (by simp)]
    exact ih fun j h1 h2 => h j h1 (by omega)
theorem Left.done {l : List Int} {j z : Nat} (h : Left (wd l j) z 0) (hz : z ≤ 64) : mem (64 * (j + 1)) l = mem (64 * j + z) l := by
  refine mem_skip (by omega) fun i h1 h2 => ?_
  obtain ⟨k, rfl⟩ : ∃ k, i = 64 * j + k := ⟨i - 64 * j, by omega⟩
  have := h.2 k (by omega)
  rw [bt_wd l j k (by omega)]
  rw [Nat.zero_testBit] at this
  cases hb : (wd l j).testBit k with
  | false => rfl
  | true => rw [hb] at this; have : z ≤ k := by omega
            simp_all
theorem Left.step {l : List Int} {j z v : Nat} (h : Left (wd l j) z v) (h0 : v ≠ 0) : ∃ t, Lib.ctz 64 v = t ∧ t < 64 ∧ mem (64 * j + t + 1) l = mem (64 * j + z) l ++ [64 * j + t] ∧ bt l (64 * j + t) = true ∧ Left (wd l j) (t + 1) (dl v) ∧ dl v < v := by
  obtain ⟨t, hc, ht, hv, hl, hd, hlt⟩ := low_word h0 h.1
  have h1 := h.2 t ht
  rw [hv] at h1
  have h2 : (wd l j).testBit t = true := by cases hb : (wd l j).testBit t <;> simp [hb] at h1 ⊢
  have hz : z ≤ t := by rw [h2] at h1; simpa using h1
  have hb : bt l (64 * j + t) = true := by rw [bt_wd l j t ht]; exact h2
  refine ⟨t, hc, ht, ?_, hb, ⟨dl_lt h.1, fun i hi => ?_⟩, hlt⟩
  · rw [mem_succ, hb, if_pos rfl]
    congr 1
    refine mem_skip (by omega) fun i h3 h4 => ?_
    obtain ⟨k, rfl⟩ : ∃ k, i = 64 * j + k := ⟨i - 64 * j, by omega⟩
    rw [bt_wd l j k (by omega)]
    have h5 := h.2 k (by omega)
    rw [hl k (by omega)] at h5
    have a1 : z ≤ k := by omega
    simp [a1] at h5
    exact h5
  · rw [hd, h.2 i hi]
    cases (wd l j).testBit i with
    | false => simp
    | true =>
      by_cases h3 : t < i
      · have a1 : z ≤ i := by omega
        have a2 : t + 1 ≤ i := by omega
        simp [h3, a1, a2]
      · have a2 : ¬ t + 1 ≤ i := by omega
        simp [h3, a2]
/-- The members' runs, one member after the other. -/
theorem runs_fold (l : List Int) : (all l).foldl addm [] = runs l := rfl
end Go.Proofs.YtcdjfgkjllonhaaDoor
