/-
  Plain facts: the runs of a set and those of its complement follow one another.
-/
import Derived.Test.YtgkckoejkljngaaDoorBrn
namespace Go.Proofs.YtgkckoejkljngaaDoor

theorem addm_append {X t : List (Nat × Nat)} {m : Nat} (ht : t ≠ []) : addm (X ++ t) m = X ++ addm t m := by
  have h : (X ++ t).getLast? = t.getLast? := by rw [List.getLast?_append]; cases h2 : t.getLast? with
    | none => exact absurd (List.getLast?_eq_none_iff.1 h2) ht
    | some p => rfl
  unfold addm
  rw [h]
  cases h2 : t.getLast? with
  | none => exact absurd (List.getLast?_eq_none_iff.1 h2) ht
  | some p =>
    obtain ⟨a, b⟩ := p
    simp only
    split
    · rw [List.dropLast_append_of_ne_nil ht, List.append_assoc]
    · rw [List.append_assoc]
theorem rn_first (l : List Int) (i : Nat) : ∀ p ∈ rn l i, bt l p.1 = true := by
  induction i with
  | zero => intro p h; cases h
  | succ i ih =>
    intro p h
    rw [rn_succ] at h
    by_cases hb : bt l i = true
    · rw [if_pos hb] at h
      rcases addm_mem h with h | ⟨_, h2 | h2⟩
      · exact ih p h
      · rw [h2]; exact hb
      · exact ih (p.1, i) h2
    · rw [if_neg hb] at h; exact ih p h
/-- From a border on runs are only added. -/
theorem rn_ext {l : List Int} {i : Nat} (hb : i = 0 ∨ bt l (i - 1) = false ∨ bt l i = false) (d : Nat) : ∃ t, rn l (i + d) = rn l i ++ t := by
  induction d with
  | zero => exact ⟨[], by simp⟩
  | succ d ih =>
    obtain ⟨t, ht⟩ := ih
    rw [← Nat.add_assoc, rn_succ, ht]
    by_cases hbit : bt l (i + d) = true
    · rw [if_pos hbit]
      by_cases h0 : t = []
      · subst h0
        refine ⟨[(i + d, i + d + 1)], ?_⟩
        rw [List.append_nil]
        refine addm_new fun p hp he => ?_
        obtain ⟨h1, h2, h3⟩ := rn_ends l i p hp
        have hd : d = 0 := by omega
        subst hd
        rw [Nat.add_zero] at hbit he
        rw [he] at h3
        rcases hb with hb | hb | hb
        · omega
        · rw [hb] at h3; cases h3
        · rw [hb] at hbit; cases hbit
      · exact ⟨addm t (i + d), addm_append h0⟩
    · rw [if_neg hbit]; exact ⟨t, rfl⟩
/-- How far a bit stays as it is. -/
theorem stretch (l : List Int) (N : Nat) {a : Nat} (ha : a < N) : ∃ e, a < e ∧ e ≤ N ∧ (∀ k, a ≤ k → k < e → bt l k = bt l a) ∧ (e = N ∨ bt l e ≠ bt l a) := by
  obtain ⟨d, hd⟩ : ∃ d, N = a + 1 + d := ⟨N - a - 1, by omega⟩
  clear ha
  induction d generalizing N with
  | zero => exact ⟨a + 1, by omega, by omega, fun k h1 h2 => by rw [show k = a by omega], .inl hd.symm⟩
  | succ d ih =>
    obtain ⟨e, h1, h2, h3, h4⟩ := ih (a + 1 + d) rfl
    rcases h4 with h4 | h4
    · by_cases hb : bt l e = bt l a
      · refine ⟨e + 1, by omega, by omega, fun k k1 k2 => ?_, .inl (by omega)⟩
        by_cases hk : k = e
        · rw [hk]; exact hb
        · exact h3 k k1 (by omega)
      · exact ⟨e, h1, by omega, h3, .inr hb⟩
    · exact ⟨e, h1, by omega, h3, .inr h4⟩
/-- Where the runs of a set and of its complement have been gone through up to a border. -/
structure Tile (l m : List Int) (N i : Nat) (a b : List (Nat × Nat)) : Prop where
  le : i ≤ N
  ra : runs l = rn l i ++ a
  rb : runs m = rn m i ++ b
  bd : i = 0 ∨ i = N ∨ bt l (i - 1) ≠ bt l i
  cm : ∀ k, bt m k = (decide (k < N) && !bt l k)
  out : ∀ k, N ≤ k → bt l k = false
theorem Tile.start {l m : List Int} {N : Nat} (cm : ∀ k, bt m k = (decide (k < N) && !bt l k)) (out : ∀ k, N ≤ k → bt l k = false) : Tile l m N 0 (runs l) (runs m) :=
  ⟨by omega, rfl, rfl, .inl rfl, cm, out⟩
theorem Tile.comp {l m : List Int} {N : Nat} (cm : ∀ k, bt m k = (decide (k < N) && !bt l k)) (out : ∀ k, N ≤ k → bt l k = false) : ∀ k, bt l k = (decide (k < N) && !bt m k) := fun k => by
  rw [cm k]
  by_cases h : k < N
  · simp [h]
  · simp [h, out k (by omega)]
theorem Tile.swap {l m : List Int} {N i : Nat} {a b : List (Nat × Nat)} (h : Tile l m N i a b) : Tile m l N i b a :=
  ⟨h.le, h.rb, h.ra, by
    rcases h.bd with h1 | h1 | h1
    · exact .inl h1
    · exact .inr (.inl h1)
    · by_cases hN : i < N
      · by_cases h0 : i = 0
        · exact .inl h0
        · refine .inr (.inr fun e => h1 ?_)
          rw [h.cm, h.cm, decide_eq_true hN, decide_eq_true (show i - 1 < N by omega), Bool.true_and, Bool.true_and] at e
          exact Bool.not_inj e
      · exact .inr (.inl (by have := h.le; omega)), Tile.comp h.cm h.out, fun k hk => by rw [h.cm k, decide_eq_false (by omega), Bool.false_and]⟩
theorem rn_all {l : List Int} {N i : Nat} (out : ∀ k, N ≤ k → bt l k = false) (h : N ≤ i) : rn l i = runs l := by
  by_cases hl : 64 * l.length ≤ i
  · exact rn_big hl
  · unfold runs
    exact (rn_false (by omega) fun j hj _ => out j (by omega)).symm
/-- A run of the set begins here. -/
theorem Tile.step {l m : List Int} {N i : Nat} {a b : List (Nat × Nat)} (h : Tile l m N i a b) (hi : i < N) (hb : bt l i = true) :
    ∃ e a', a = (i, e) :: a' ∧ i < e ∧ e ≤ N ∧ (∀ k, i ≤ k → k < e → bt l k = true ∧ bt m k = false) ∧ Tile l m N e a' b ∧ (∀ p ∈ a', p.1 ≠ e) := by
  obtain ⟨e, h1, h2, h3, h4⟩ := stretch l N hi
  rw [hb] at h3 h4
  have he : bt l e = false := by
    rcases h4 with h4 | h4
    · exact h.out e (by omega)
    · cases h5 : bt l e with
      | false => rfl
      | true => exact absurd h5 h4
  have h0 : i = 0 ∨ bt l (i - 1) = false := by
    rcases h.bd with h5 | h5 | h5
    · exact .inl h5
    · omega
    · right
      cases h6 : bt l (i - 1) with
      | false => rfl
      | true => rw [h6, hb] at h5; exact absurd rfl h5
  have hr := rn_true h1 h0 h3
  have hm : ∀ k, i ≤ k → k < e → bt m k = false := fun k k1 k2 => by rw [h.cm k, h3 k k1 k2]; simp
  have hr2 := rn_false (l := m) (a := i) (b := e) (by omega) hm
  obtain ⟨t, ht⟩ := rn_ext (l := l) (i := e) (.inr (.inr he)) (max (64 * l.length) N)
  have hbig := rn_all (l := l) (i := e + max (64 * l.length) N) h.out (by omega)
  rw [hbig, hr, List.append_assoc] at ht
  have hra := h.ra
  rw [ht] at hra
  have ha := List.append_cancel_left hra
  refine ⟨e, t, ha.symm, h1, h2, fun k k1 k2 => ⟨h3 k k1 k2, hm k k1 k2⟩, ⟨h2, by rw [ht, hr, List.append_assoc], by rw [h.rb, hr2], ?_, h.cm, h.out⟩, fun p hp hpe => ?_⟩
  · rcases h4 with h4 | h4
    · exact .inr (.inl h4)
    · exact .inr (.inr (by rw [h3 (e - 1) (by omega) (by omega), he]; simp))
  · have hpm : p ∈ runs l := by rw [ht]; simp [hp]
    have := rn_first l (64 * l.length) p hpm
    rw [hpe, he] at this; cases this
theorem Tile.firsts {l m : List Int} {N i : Nat} {a b : List (Nat × Nat)} (h : Tile l m N i a b) : ∀ p ∈ a, bt l p.1 = true := fun p hp => by
  have hpm : p ∈ runs l := by rw [h.ra]; simp [hp]
  exact rn_first l (64 * l.length) p hpm
theorem Tile.done {l m : List Int} {N : Nat} {a b : List (Nat × Nat)} (h : Tile l m N N a b) : a = [] ∧ b = [] := by
  have h1 := h.ra
  have h2 := h.rb
  rw [rn_all h.out (Nat.le_refl _)] at h1
  rw [rn_all h.swap.out (Nat.le_refl _)] at h2
  exact ⟨by simpa using h1, by simpa using h2⟩
theorem Tile.not_bit {l m : List Int} {N i : Nat} {a b : List (Nat × Nat)} (h : Tile l m N i a b) (hi : i < N) (hb : bt l i = false) : bt m i = true := by
  rw [h.cm i, hb, decide_eq_true hi]; rfl
end Go.Proofs.YtgkckoejkljngaaDoor
