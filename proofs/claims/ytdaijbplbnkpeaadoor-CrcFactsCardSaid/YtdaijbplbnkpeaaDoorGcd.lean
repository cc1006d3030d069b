/-
  Plain facts on polynomials over two elements: the greatest common divisor, irreducible ones, powers. No program is named here; there are no conditions but those in each statement.
-/
import Derived.Test.YtdaijbplbnkpeaaDoorPol
namespace Go.Proofs.YtdaijbplbnkpeaaDoor

/-! ### the greatest common divisor -/
def pg (a b : Nat) : Nat := if _h : b = 0 then a else pg b (pm a b)
  termination_by bl b
  decreasing_by exact pm_bl a (by assumption)
theorem pg_zero (a : Nat) : pg a 0 = a := by rw [pg]; simp
theorem pg_step (a : Nat) {b : Nat} (h : b ≠ 0) : pg a b = pg b (pm a b) := by rw [pg, dif_neg h]
theorem pg_all : ∀ n a b, bl b ≤ n → Dv (pg a b) a ∧ Dv (pg a b) b ∧ (∃ u v, pg a b = cm u a ^^^ cm v b) ∧ (∀ c, Dv c a → Dv c b → Dv c (pg a b)) := by
  intro n
  induction n with
  | zero =>
    intro a b h
    have hb : b = 0 := bl_eq0.1 (by omega)
    subst hb
    rw [pg_zero]
    exact ⟨Dv.rfl, Dv.zero _, ⟨1, 0, by rw [one_cm]; simp⟩, fun c h _ => h⟩
  | succ n ih =>
    intro a b h
    by_cases hb : b = 0
    · subst hb
      rw [pg_zero]
      exact ⟨Dv.rfl, Dv.zero _, ⟨1, 0, by rw [one_cm]; simp⟩, fun c h _ => h⟩
    · have hlt := pm_bl a hb
      obtain ⟨h1, h2, ⟨u, v, h3⟩, h4⟩ := ih b (pm a b) (by omega)
      rw [pg_step a hb]
      have e := div_eq a hb
      have e2 : pm a b = cm (pq a b) b ^^^ a := by
        have := congrArg (fun x => cm (pq a b) b ^^^ x) e
        simp only [xor_cl] at this
        exact this
      refine ⟨?_, h1, ⟨v, u ^^^ cm v (pq a b), ?_⟩, ?_⟩
      · have := (h1.left (pq a b)).xor h2; rwa [e] at this
      · rw [h3]
        conv => lhs; rw [e2]
        rw [cm_xor_right, cm_xor_left, cm_assoc, Nat.xor_comm (cm v a), Nat.xor_assoc]
      · intro c ha hbb
        refine h4 c hbb ?_
        rw [e2]
        exact (hbb.left _).xor ha
theorem pg_left (a b : Nat) : Dv (pg a b) a := (pg_all _ a b (Nat.le_refl _)).1
theorem pg_right (a b : Nat) : Dv (pg a b) b := (pg_all _ a b (Nat.le_refl _)).2.1
theorem pg_bez (a b : Nat) : ∃ u v, pg a b = cm u a ^^^ cm v b := (pg_all _ a b (Nat.le_refl _)).2.2.1
theorem pg_great {a b c : Nat} (h : Dv c a) (h2 : Dv c b) : Dv c (pg a b) := (pg_all _ a b (Nat.le_refl _)).2.2.2 c h h2
theorem Dv.of_zero {a : Nat} (h : Dv 0 a) : a = 0 := by obtain ⟨q, rfl⟩ := h; simp
theorem Dv.anti {a b : Nat} (h : Dv a b) (h2 : Dv b a) : a = b := by
  by_cases ha : a = 0
  · subst ha; exact h.of_zero.symm
  · by_cases hb : b = 0
    · subst hb; exact h2.of_zero
    · have h3 := h.bl_le hb
      have h4 := h2.bl_le ha
      obtain ⟨q, hq⟩ := h
      have hq0 : q ≠ 0 := fun hh => by subst hh; simp at hq; exact hb hq
      have := (bl_cm hq0 ha).1
      rw [← hq] at this
      have : bl q = 1 := by have := bl_pos hq0; omega
      rw [bl_one_iff.1 this, one_cm] at hq
      exact hq.symm
theorem pg_comm (a b : Nat) : pg a b = pg b a :=
  Dv.anti (pg_great (pg_right a b) (pg_left a b)) (pg_great (pg_right b a) (pg_left b a))
theorem pg_eq0 {a b : Nat} : pg a b = 0 ↔ a = 0 ∧ b = 0 := by
  constructor
  · intro h
    have h1 := pg_left a b; have h2 := pg_right a b
    rw [h] at h1 h2
    exact ⟨h1.of_zero, h2.of_zero⟩
  · rintro ⟨rfl, rfl⟩; rw [pg_zero]
theorem pg_bl (a b : Nat) : bl (pg a b) ≤ max (bl a) (bl b) := by
  by_cases ha : a = 0
  · by_cases hb : b = 0
    · subst ha hb; rw [pg_zero]; simp
    · have := (pg_right a b).bl_le hb; omega
  · have := (pg_left a b).bl_le ha; omega
theorem pg_one_right (a : Nat) : pg a 1 = 1 := by
  have h := pg_right a 1
  have h2 := h.bl_le (by decide)
  have h3 : pg a 1 ≠ 0 := fun hh => by have := (pg_eq0.1 hh).2; omega
  have := bl_pos h3
  exact bl_one_iff.1 (by simp at h2; omega)

/-! ### irreducible polynomials -/
def Irr (p : Nat) : Prop := 2 ≤ bl p ∧ ∀ a b, p = cm a b → a = 1 ∨ b = 1
theorem Irr.ne0 {p : Nat} (h : Irr p) : p ≠ 0 := fun hh => by have := h.1; subst hh; simp at this
theorem Irr.dv {p d : Nat} (h : Irr p) (hd : Dv d p) : d = 1 ∨ d = p := by
  obtain ⟨q, hq⟩ := hd
  rcases h.2 q d hq with h1 | h1
  · subst h1; rw [one_cm] at hq; exact .inr hq.symm
  · exact .inl h1
theorem Irr.pg {p a : Nat} (h : Irr p) (ha : ¬ Dv p a) : pg a p = 1 := by
  rcases h.dv (pg_right a p) with h1 | h1
  · exact h1
  · exfalso; apply ha; have := pg_left a p; rwa [h1] at this
/-- An irreducible one that divides a product divides a factor. -/
theorem Irr.prime {p a b : Nat} (h : Irr p) (hd : Dv p (cm a b)) : Dv p a ∨ Dv p b := by
  by_cases ha : Dv p a
  · exact .inl ha
  · right
    obtain ⟨u, v, e⟩ := pg_bez a p
    rw [h.pg ha] at e
    have e2 : b = cm (cm u a) b ^^^ cm (cm v p) b := by rw [← cm_xor_left, ← e, one_cm]
    rw [e2]
    refine Dv.xor ?_ ?_
    · rw [cm_assoc]; exact hd.left u
    · exact (Dv.self_left p v).right b
/-- What is longer than 1 has an irreducible divisor. -/
theorem irr_divisor : ∀ n p, bl p ≤ n → 2 ≤ bl p → ∃ f, Irr f ∧ Dv f p := by
  intro n
  induction n with
  | zero => intro p h h2; omega
  | succ n ih =>
    intro p h h2
    by_cases hi : Irr p
    · exact ⟨p, hi, Dv.rfl⟩
    · have : ∃ a b, p = cm a b ∧ a ≠ 1 ∧ b ≠ 1 := by
        apply Classical.byContradiction
        intro hn
        apply hi
        refine ⟨h2, fun a b hab => ?_⟩
        by_cases h1 : a = 1
        · exact .inl h1
        · by_cases h3 : b = 1
          · exact .inr h3
          · exact absurd ⟨a, b, hab, h1, h3⟩ hn
      obtain ⟨a, b, rfl, h1, h3⟩ := this
      have ha : a ≠ 0 := fun hh => by subst hh; simp at h2
      have hb : b ≠ 0 := fun hh => by subst hh; simp at h2
      have hl := (bl_cm ha hb).1
      have hpa := bl_pos ha
      have hpb := bl_pos hb
      have hna : bl a ≠ 1 := fun hh => h1 (bl_one_iff.1 hh)
      have hnb : bl b ≠ 1 := fun hh => h3 (bl_one_iff.1 hh)
      obtain ⟨f, hf, hd⟩ := ih a (by omega) (by omega)
      exact ⟨f, hf, hd.right b⟩
/-- What can be divided has an irreducible divisor of at most half of its degree. -/
theorem irr_small {a b : Nat} (ha : 2 ≤ bl a) (hb : 2 ≤ bl b) : ∃ f, Irr f ∧ Dv f (cm a b) ∧ 2 * (bl f - 1) ≤ bl (cm a b) - 1 := by
  have ha0 : a ≠ 0 := fun hh => by subst hh; simp at ha
  have hb0 : b ≠ 0 := fun hh => by subst hh; simp at hb
  have hl := (bl_cm ha0 hb0).1
  by_cases hc : bl a ≤ bl b
  · obtain ⟨f, hf, hd⟩ := irr_divisor _ a (Nat.le_refl _) ha
    refine ⟨f, hf, hd.right b, ?_⟩
    have := hd.bl_le ha0; omega
  · obtain ⟨f, hf, hd⟩ := irr_divisor _ b (Nat.le_refl _) hb
    refine ⟨f, hf, hd.left a, ?_⟩
    have := hd.bl_le hb0; omega
theorem irr_two : Irr 2 := by
  refine ⟨by simp, fun a b h => ?_⟩
  have ha : a ≠ 0 := fun hh => by subst hh; simp at h
  have hb : b ≠ 0 := fun hh => by subst hh; simp at h
  have := (bl_cm ha hb).1
  rw [← h] at this
  simp at this
  have h1 := bl_pos ha; have h2 := bl_pos hb
  by_cases h3 : bl a = 1
  · exact .inl (bl_one_iff.1 h3)
  · exact .inr (bl_one_iff.1 (by omega))

/-! ### powers -/
def pw (a : Nat) : Nat → Nat
  | 0 => 1
  | n + 1 => cm (pw a n) a
@[simp] theorem pw_zero (a : Nat) : pw a 0 = 1 := rfl
theorem pw_succ (a n : Nat) : pw a (n + 1) = cm (pw a n) a := rfl
@[simp] theorem pw_one (a : Nat) : pw a 1 = a := by rw [pw_succ, pw_zero, one_cm]
theorem pw_add (a m n : Nat) : pw a (m + n) = cm (pw a m) (pw a n) := by
  induction n with
  | zero => simp
  | succ n ih => rw [← Nat.add_assoc, pw_succ, pw_succ, ih, cm_assoc]
theorem pw_mul (a m n : Nat) : pw a (m * n) = pw (pw a m) n := by
  induction n with
  | zero => simp
  | succ n ih => rw [Nat.mul_succ, pw_add, ih, pw_succ]
theorem pw_cm (a b n : Nat) : pw (cm a b) n = cm (pw a n) (pw b n) := by
  induction n with
  | zero => simp
  | succ n ih => rw [pw_succ, pw_succ, pw_succ, ih, cm_assoc, cm_assoc, cm_left_comm a]
theorem pw_two (n : Nat) : pw 2 n = 2 ^ n := by
  induction n with
  | zero => rfl
  | succ n ih => rw [pw_succ, ih, cm_two, Nat.pow_succ, Nat.mul_comm]
theorem one_pw (n : Nat) : pw 1 n = 1 := by
  induction n with
  | zero => rfl
  | succ n ih => rw [pw_succ, ih, one_cm]
theorem pw_sq (a : Nat) : pw a 2 = cm a a := by rw [show 2 = 1 + 1 from rfl, pw_add]; simp
/-- The power by 2^i of a sum. -/
theorem pw_xor (i a b : Nat) : pw (a ^^^ b) (2 ^ i) = pw a (2 ^ i) ^^^ pw b (2 ^ i) := by
  induction i with
  | zero => simp
  | succ i ih => rw [Nat.pow_succ, pw_mul, pw_mul, pw_mul, ih, pw_sq, pw_sq, pw_sq, sq_xor]
theorem pm_pw (a n : Nat) {m : Nat} (hm : m ≠ 0) : pm (pw (pm a m) n) m = pm (pw a n) m := by
  induction n with
  | zero => rfl
  | succ n ih => rw [pw_succ, pw_succ, pm_cm_right _ _ hm, ← pm_cm_left (pw a n) a hm, ← ih, pm_cm_left _ _ hm]
end Go.Proofs.YtdaijbplbnkpeaaDoor
