/-
  Plain facts on the runs of a set.
-/
import Derived.Test.YtcdjfgkjllonhaaDoorBts
namespace Go.Proofs.YtcdjfgkjllonhaaDoor

/-- One member more, behind all others: it lengthens the last run, or begins a new one. -/
def addm (R : List (Nat × Nat)) (m : Nat) : List (Nat × Nat) :=
  match R.getLast? with
  | some (a, b) => if b = m then R.dropLast ++ [(a, m + 1)] else R ++ [(m, m + 1)]
  | none => [(m, m + 1)]
theorem addm_new {R : List (Nat × Nat)} {m : Nat} (h : ∀ p ∈ R, p.2 ≠ m) : addm R m = R ++ [(m, m + 1)] := by
  unfold addm
  cases hl : R.getLast? with
  | none => rw [List.getLast?_eq_none_iff.1 hl]; rfl
  | some p =>
    obtain ⟨a, b⟩ := p
    have hm := List.mem_of_getLast? hl
    have := h _ hm
    simp only at this ⊢
    rw [if_neg this]
theorem addm_more {R : List (Nat × Nat)} {a m : Nat} : addm (R ++ [(a, m)]) m = R ++ [(a, m + 1)] := by
  unfold addm; simp
/-- The runs of the members below i. -/
def rn (l : List Int) (i : Nat) : List (Nat × Nat) := (mem i l).foldl addm []
theorem rn_zero (l : List Int) : rn l 0 = [] := rfl
theorem rn_succ (l : List Int) (i : Nat) : rn l (i + 1) = if bt l i then addm (rn l i) i else rn l i := by
  unfold rn; rw [mem_succ]
  by_cases h : bt l i = true
  · rw [if_pos h, if_pos h, List.foldl_append]; rfl
  · rw [if_neg h, if_neg h]
theorem addm_mem {R : List (Nat × Nat)} {m : Nat} {p : Nat × Nat} (h : p ∈ addm R m) : p ∈ R ∨ (p.2 = m + 1 ∧ (p.1 = m ∨ (p.1, m) ∈ R)) := by
  unfold addm at h
  cases hl : R.getLast? with
  | none => rw [hl] at h; simp at h; right; rw [h]; exact ⟨rfl, .inl rfl⟩
  | some q =>
    obtain ⟨a, b⟩ := q
    rw [hl] at h
    simp only at h
    by_cases hb : b = m
    · rw [if_pos hb] at h
      rcases List.mem_append.1 h with h | h
      · exact .inl (List.dropLast_subset _ h)
      · simp at h; right; rw [h]; exact ⟨rfl, .inr (by rw [← hb]; exact List.mem_of_getLast? hl)⟩
    · rw [if_neg hb] at h
      rcases List.mem_append.1 h with h | h
      · exact .inl h
      · simp at h; right; rw [h]; exact ⟨rfl, .inl rfl⟩
/-- A run ends behind a member, and begins below its end. -/
theorem rn_ends (l : List Int) (i : Nat) : ∀ p ∈ rn l i, p.1 < p.2 ∧ p.2 ≤ i ∧ bt l (p.2 - 1) = true := by
  induction i with
  | zero => intro p h; cases h
  | succ i ih =>
    intro p h
    rw [rn_succ] at h
    by_cases hb : bt l i = true
    · rw [if_pos hb] at h
      rcases addm_mem h with h | ⟨h1, h2⟩
      · obtain ⟨h3, h4, h5⟩ := ih p h; exact ⟨h3, by omega, h5⟩
      · rw [h1]
        refine ⟨?_, Nat.le_refl _, by simpa using hb⟩
        rcases h2 with h2 | h2
        · omega
        · have := (ih _ h2).1; simp only at this; omega
    · rw [if_neg hb] at h
      obtain ⟨h3, h4, h5⟩ := ih p h; exact ⟨h3, by omega, h5⟩
theorem rn_false {l : List Int} {a b : Nat} (hab : a ≤ b) (h : ∀ j, a ≤ j → j < b → bt l j = false) : rn l b = rn l a := by
  obtain ⟨d, rfl⟩ : ∃ d, b = a + d := ⟨b - a, by omega⟩
  clear hab
  induction d with
  | zero => rfl
  | succ d ih =>
    rw [show a + (d + 1) = a + d + 1 from by omega, rn_succ, h (a + d) (by omega) (by omega), if_neg (by simp)]
    exact ih fun j h1 h2 => h j h1 (by omega)
theorem rn_true {l : List Int} {a b : Nat} (hab : a < b) (h0 : a = 0 ∨ bt l (a - 1) = false) (h : ∀ j, a ≤ j → j < b → bt l j = true) : rn l b = rn l a ++ [(a, b)] := by
  obtain ⟨d, rfl⟩ : ∃ d, b = a + d + 1 := ⟨b - a - 1, by omega⟩
  clear hab
  induction d with
  | zero =>
    rw [Nat.add_zero, rn_succ, h a (by omega) (by omega), if_pos rfl]
    refine addm_new fun p hp he => ?_
    obtain ⟨h1, h2, h3⟩ := rn_ends l a p hp
    rw [he] at h3
    rcases h0 with h0 | h0
    · omega
    · rw [h0] at h3; cases h3
  | succ d ih =>
    have := ih fun j h1 h2 => h j h1 (by omega)
    rw [show a + (d + 1) + 1 = (a + d + 1) + 1 from by omega, rn_succ, h (a + d + 1) (by omega) (by omega), if_pos rfl, this, addm_more]
/-- All runs. -/
def runs (l : List Int) : List (Nat × Nat) := rn l (64 * l.length)
theorem rn_big {l : List Int} {i : Nat} (h : 64 * l.length ≤ i) : rn l i = runs l := rn_false h fun _ hj _ => bt_out hj
theorem rn_right {N : Nat} {l : List Int} (h : RightS (N : Int) l) : rn l N = runs l := by
  by_cases hl : 64 * l.length ≤ N
  · exact rn_big hl
  · exact (rn_false (by omega) fun j hj _ => h.out (by omega)).symm
theorem runs_nil : runs [] = [] := rfl
theorem rn_len (l : List Int) (i : Nat) : (rn l i).length ≤ i := by
  induction i with
  | zero => simp [rn_zero]
  | succ i ih =>
    rw [rn_succ]
    split
    · unfold addm
      cases hl : (rn l i).getLast? with
      | none => simp
      | some p =>
        obtain ⟨a, b⟩ := p
        simp only
        split
        · simp; omega
        · simp; omega
    · omega
end Go.Proofs.YtcdjfgkjllonhaaDoor
