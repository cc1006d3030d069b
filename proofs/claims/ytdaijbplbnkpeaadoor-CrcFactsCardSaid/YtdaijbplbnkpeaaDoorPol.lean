/-
  Plain facts on polynomials over two elements, as natural numbers whose bits are the coefficients: sums are exclusive or, products without carries. No program is named here; there are no conditions but those in each statement.
-/
namespace Go.Proofs.YtdaijbplbnkpeaaDoor

/-! ### exclusive or -/
theorem xor_cl (a b : Nat) : a ^^^ (a ^^^ b) = b := by rw [← Nat.xor_assoc, Nat.xor_self, Nat.zero_xor]
theorem xor_cr (a b : Nat) : (a ^^^ b) ^^^ b = a := by rw [Nat.xor_assoc, Nat.xor_self, Nat.xor_zero]
theorem xor_ex (a b c d : Nat) : (a ^^^ b) ^^^ (c ^^^ d) = (a ^^^ c) ^^^ (b ^^^ d) := by
  rw [Nat.xor_assoc, Nat.xor_assoc, ← Nat.xor_assoc b, Nat.xor_comm b c, Nat.xor_assoc c]
theorem xor_eq0 {a b : Nat} (h : a ^^^ b = 0) : a = b := by
  have := congrArg (fun x => x ^^^ b) h
  simpa [xor_cr] using this
theorem xor_move {a b c : Nat} (h : a = b ^^^ c) : a ^^^ c = b := by rw [h, xor_cr]
theorem xor_ee (a b : Nat) : (2 * a) ^^^ (2 * b) = 2 * (a ^^^ b) := by
  have := Nat.shiftLeft_xor_distrib (a := a) (b := b) (i := 1)
  simp only [Nat.shiftLeft_eq, Nat.pow_one] at this
  rw [Nat.mul_comm 2 a, Nat.mul_comm 2 b, Nat.mul_comm 2, this]
theorem even_xor_one (a : Nat) : (2 * a) ^^^ 1 = 2 * a + 1 := by
  have h1 : ((2 * a) ^^^ 1) / 2 = a := by rw [Nat.xor_div_two]; simp
  have h2 : ((2 * a) ^^^ 1) % 2 = 1 := by rw [Nat.xor_mod_two_eq_one]; simp
  omega
theorem xor_oe (a b : Nat) : (2 * a + 1) ^^^ (2 * b) = 2 * (a ^^^ b) + 1 := by
  rw [← even_xor_one, ← even_xor_one, ← xor_ee, Nat.xor_assoc, Nat.xor_assoc, Nat.xor_comm 1]
theorem xor_eo (a b : Nat) : (2 * a) ^^^ (2 * b + 1) = 2 * (a ^^^ b) + 1 := by
  rw [Nat.xor_comm, xor_oe, Nat.xor_comm]
theorem xor_oo (a b : Nat) : (2 * a + 1) ^^^ (2 * b + 1) = 2 * (a ^^^ b) := by
  rw [← even_xor_one, ← even_xor_one, xor_ex, xor_ee]; simp

theorem bin_ind {P : Nat → Prop} (z : P 0) (e : ∀ a, P a → P (2 * a)) (o : ∀ a, P a → P (2 * a + 1)) (n : Nat) : P n := by
  induction n using Nat.strongRecOn with
  | ind n ih =>
    by_cases h0 : n = 0
    · rw [h0]; exact z
    · have hh := ih (n / 2) (by omega)
      by_cases h : n % 2 = 1
      · have := o _ hh; rwa [show 2 * (n / 2) + 1 = n from by omega] at this
      · have := e _ hh; rwa [show 2 * (n / 2) = n from by omega] at this

/-! ### the length in bits -/
def bl (x : Nat) : Nat := if x = 0 then 0 else Nat.log2 x + 1
theorem bl_le {x k : Nat} : bl x ≤ k ↔ x < 2 ^ k := by
  unfold bl
  by_cases h : x = 0
  · simp [h, Nat.two_pow_pos]
  · rw [if_neg h, ← Nat.log2_lt h]; omega
theorem lt_bl {x k : Nat} : k < bl x ↔ 2 ^ k ≤ x := by
  have := bl_le (x := x) (k := k); omega
@[simp] theorem bl_zero : bl 0 = 0 := by simp [bl]
@[simp] theorem bl_one : bl 1 = 1 := by
  have h1 := bl_le (x := 1) (k := 1); have h2 := lt_bl (x := 1) (k := 0); simp at h1 h2; omega
@[simp] theorem bl_two : bl 2 = 2 := by
  have h1 := bl_le (x := 2) (k := 2); have h2 := lt_bl (x := 2) (k := 1); simp at h1 h2; omega
theorem bl_eq {x k : Nat} (h : 2 ^ k ≤ x) (h2 : x < 2 ^ (k + 1)) : bl x = k + 1 := by
  have := bl_le.2 h2; have := lt_bl.2 h; omega
theorem bl_eq0 {x : Nat} : bl x = 0 ↔ x = 0 := by
  constructor
  · intro h; have := bl_le.1 (Nat.le_of_eq h); simpa using this
  · rintro rfl; simp
theorem bl_pos {x : Nat} (h : x ≠ 0) : 0 < bl x := Nat.pos_of_ne_zero (fun hh => h (bl_eq0.1 hh))
theorem bl_lo {x : Nat} (h : x ≠ 0) : 2 ^ (bl x - 1) ≤ x := lt_bl.1 (by have := bl_pos h; omega)
theorem bl_hi (x : Nat) : x < 2 ^ bl x := bl_le.1 (Nat.le_refl _)
theorem bl_mono {x y : Nat} (h : x ≤ y) : bl x ≤ bl y := bl_le.2 (Nat.lt_of_le_of_lt h (bl_hi y))
theorem bl_two_pow (k : Nat) : bl (2 ^ k) = k + 1 := bl_eq (Nat.le_refl _) (by rw [Nat.pow_succ]; have := Nat.two_pow_pos k; omega)
theorem bl_dbl {x : Nat} (h : x ≠ 0) : bl (2 * x) = bl x + 1 := by
  have h1 := bl_lo h; have h2 := bl_hi x; have hp := bl_pos h
  refine bl_eq ?_ ?_
  · have : 2 ^ bl x = 2 ^ (bl x - 1) * 2 := by rw [← Nat.pow_succ]; congr 1; omega
    omega
  · rw [Nat.pow_succ]; omega
theorem bl_one_iff {x : Nat} : bl x = 1 ↔ x = 1 := by
  constructor
  · intro h
    have h1 := bl_hi x; rw [h] at h1
    have : x ≠ 0 := fun hh => by rw [hh] at h; simp at h
    omega
  · rintro rfl; simp
theorem bl_ge2 {x : Nat} : 2 ≤ bl x ↔ 2 ≤ x := lt_bl (k := 1)
theorem bl_xor_lt {a b k : Nat} (ha : bl a ≤ k) (hb : bl b ≤ k) : bl (a ^^^ b) ≤ k :=
  bl_le.2 (Nat.xor_lt_two_pow (bl_le.1 ha) (bl_le.1 hb))
theorem bl_xor_le (a b : Nat) : bl (a ^^^ b) ≤ max (bl a) (bl b) := bl_xor_lt (Nat.le_max_left _ _) (Nat.le_max_right _ _)
/-- The longer summand gives the sum its length. -/
theorem bl_xor_of_lt {a b : Nat} (h : bl b < bl a) : bl (a ^^^ b) = bl a := by
  have h1 : bl (a ^^^ b) ≤ bl a := bl_xor_lt (Nat.le_refl _) (by omega)
  have h2 : bl a ≤ max (bl (a ^^^ b)) (bl b) := by
    have := bl_xor_le (a ^^^ b) b; rwa [xor_cr] at this
  omega
theorem top_of_bl {x k : Nat} (h : bl x = k + 1) : x.testBit k = true := by
  have h1 := bl_hi x; rw [h] at h1
  have h2 := lt_bl.1 (show k < bl x by omega)
  rw [Nat.testBit_eq_decide_div_mod_eq]
  have e1 : x / 2 ^ k = 1 := by
    have hk := Nat.two_pow_pos k
    have a1 : x / 2 ^ k < 2 := by rw [Nat.div_lt_iff_lt_mul hk, Nat.mul_comm, ← Nat.pow_succ]; exact h1
    have a2 : 1 ≤ x / 2 ^ k := by rw [Nat.le_div_iff_mul_le hk]; omega
    omega
  simp [e1]
/-- Two of one length: the sum is shorter. -/
theorem bl_xor_eq {a b : Nat} (h : bl a = bl b) (h0 : b ≠ 0) : bl (a ^^^ b) < bl b := by
  obtain ⟨k, hk⟩ : ∃ k, bl b = k + 1 := ⟨bl b - 1, by have := bl_pos h0; omega⟩
  have hle : bl (a ^^^ b) ≤ k + 1 := bl_xor_lt (by omega) (by omega)
  have : bl (a ^^^ b) ≠ k + 1 := by
    intro hh
    have h1 := top_of_bl hh
    rw [Nat.testBit_xor, top_of_bl (h.trans hk), top_of_bl hk] at h1
    simp at h1
  omega

/-! ### products without carries -/
def cm (a b : Nat) : Nat := if h : b = 0 then 0 else (if b % 2 = 1 then a else 0) ^^^ (2 * cm a (b / 2))
  termination_by b
  decreasing_by omega
@[simp] theorem cm_zero (a : Nat) : cm a 0 = 0 := by rw [cm]; simp
theorem cm_even (a b : Nat) : cm a (2 * b) = 2 * cm a b := by
  by_cases h : b = 0
  · simp [h]
  · rw [cm, dif_neg (by omega), if_neg (by omega), show 2 * b / 2 = b from by omega]; simp
theorem cm_odd (a b : Nat) : cm a (2 * b + 1) = a ^^^ 2 * cm a b := by
  rw [cm, dif_neg (by omega), if_pos (by omega), show (2 * b + 1) / 2 = b from by omega]
@[simp] theorem cm_one (a : Nat) : cm a 1 = a := by have := cm_odd a 0; simpa using this
@[simp] theorem zero_cm (b : Nat) : cm 0 b = 0 := by
  induction b using bin_ind with
  | z => simp
  | e b ih => rw [cm_even, ih]
  | o b ih => rw [cm_odd, ih]; simp
theorem cm_xor_left (a b c : Nat) : cm (a ^^^ b) c = cm a c ^^^ cm b c := by
  induction c using bin_ind with
  | z => simp
  | e c ih => rw [cm_even, cm_even, cm_even, ih, xor_ee]
  | o c ih => rw [cm_odd, cm_odd, cm_odd, ih, ← xor_ee, xor_ex]
theorem even_cm (a b : Nat) : cm (2 * a) b = 2 * cm a b := by
  induction b using bin_ind with
  | z => simp
  | e b ih => rw [cm_even, cm_even, ih]
  | o b ih => rw [cm_odd, cm_odd, ih, xor_ee]
theorem one_cm (b : Nat) : cm 1 b = b := by
  induction b using bin_ind with
  | z => simp
  | e b ih => rw [cm_even, ih]
  | o b ih => rw [cm_odd, ih, Nat.xor_comm, even_xor_one]
theorem odd_cm (a b : Nat) : cm (2 * a + 1) b = b ^^^ 2 * cm a b := by
  rw [← even_xor_one, cm_xor_left, even_cm, one_cm, Nat.xor_comm]
theorem cm_comm (a b : Nat) : cm a b = cm b a := by
  induction b using bin_ind with
  | z => simp
  | e b ih => rw [cm_even, even_cm, ih]
  | o b ih => rw [cm_odd, odd_cm, ih]
theorem cm_xor_right (a b c : Nat) : cm a (b ^^^ c) = cm a b ^^^ cm a c := by
  rw [cm_comm, cm_xor_left, cm_comm b, cm_comm c]
theorem cm_assoc (a b c : Nat) : cm (cm a b) c = cm a (cm b c) := by
  induction c using bin_ind with
  | z => simp
  | e c ih => rw [cm_even, cm_even, cm_even, ih]
  | o c ih => rw [cm_odd, cm_odd, cm_xor_right, cm_even, ih]
theorem cm_left_comm (a b c : Nat) : cm a (cm b c) = cm b (cm a c) := by
  rw [← cm_assoc, cm_comm a b, cm_assoc]
theorem cm_two (a : Nat) : cm a 2 = 2 * a := by have := cm_even a 1; simpa using this
theorem cm_pow (a k : Nat) : cm a (2 ^ k) = a * 2 ^ k := by
  induction k with
  | zero => simp
  | succ k ih => rw [Nat.pow_succ, Nat.mul_comm (2 ^ k) 2, cm_even, ih, Nat.mul_left_comm]
theorem pow_cm_pow (j k : Nat) : cm (2 ^ j) (2 ^ k) = 2 ^ (j + k) := by rw [cm_pow, Nat.pow_add]
theorem bl_cm {a b : Nat} (ha : a ≠ 0) (hb : b ≠ 0) : bl (cm a b) + 1 = bl a + bl b ∧ cm a b ≠ 0 := by
  induction b using bin_ind with
  | z => exact absurd rfl hb
  | e b ih =>
    have hb0 : b ≠ 0 := by omega
    obtain ⟨h1, h2⟩ := ih hb0
    rw [cm_even]
    refine ⟨?_, by omega⟩
    rw [bl_dbl h2, bl_dbl hb0]; omega
  | o b ih =>
    by_cases hb0 : b = 0
    · subst hb0; simp [ha]
    · obtain ⟨h1, h2⟩ := ih hb0
      have hpb := bl_pos hb0
      have h3 : bl (2 * cm a b ^^^ a) = bl (2 * cm a b) := bl_xor_of_lt (by rw [bl_dbl h2]; omega)
      have h4 : bl (2 * b + 1) = bl b + 1 := by
        rw [← even_xor_one, bl_xor_of_lt (by rw [bl_dbl hb0]; simp; omega), bl_dbl hb0]
      rw [cm_odd, Nat.xor_comm]
      rw [bl_dbl h2] at h3
      refine ⟨by rw [h3, h4]; omega, fun hh => ?_⟩
      rw [hh] at h3; simp at h3
theorem cm_ne {a b : Nat} (ha : a ≠ 0) (hb : b ≠ 0) : cm a b ≠ 0 := (bl_cm ha hb).2
theorem cm_eq0 {a b : Nat} (h : cm a b = 0) : a = 0 ∨ b = 0 := by
  by_cases ha : a = 0
  · exact .inl ha
  · by_cases hb : b = 0
    · exact .inr hb
    · exact absurd h (cm_ne ha hb)
theorem bl_cm_le (a b : Nat) : bl (cm a b) ≤ bl a + bl b := by
  by_cases ha : a = 0
  · subst ha; simp
  · by_cases hb : b = 0
    · subst hb; simp
    · have := (bl_cm ha hb).1; omega
theorem cm_cancel {a b c : Nat} (h : cm a c = cm b c) (hc : c ≠ 0) : a = b := by
  have : cm (a ^^^ b) c = 0 := by rw [cm_xor_left, h, Nat.xor_self]
  rcases cm_eq0 this with h | h
  · exact xor_eq0 h
  · exact absurd h hc
/-- The square of a sum is the sum of the squares. -/
theorem sq_xor (a b : Nat) : cm (a ^^^ b) (a ^^^ b) = cm a a ^^^ cm b b := by
  rw [cm_xor_left, cm_xor_right, cm_xor_right, cm_comm b a, xor_ex, Nat.xor_comm (cm a b) (cm b b), xor_ex]
  simp

/-! ### quotient and remainder -/
/-- The step of a division ends with something shorter. -/
theorem step_lt {a b : Nat} (hb : b ≠ 0) (h : bl b ≤ bl a) : bl (a ^^^ b * 2 ^ (bl a - bl b)) < bl a := by
  have hne : b * 2 ^ (bl a - bl b) ≠ 0 := by
    have := Nat.two_pow_pos (bl a - bl b)
    exact Nat.ne_of_gt (Nat.mul_pos (Nat.pos_of_ne_zero hb) this)
  have he : bl (b * 2 ^ (bl a - bl b)) = bl a := by
    have := (bl_cm hb (Nat.ne_of_gt (Nat.two_pow_pos (bl a - bl b)))).1
    rw [cm_pow, bl_two_pow] at this; omega
  have := bl_xor_eq he.symm hne
  omega
def pm (a b : Nat) : Nat := if h : b ≠ 0 ∧ bl b ≤ bl a then pm (a ^^^ b * 2 ^ (bl a - bl b)) b else a
  termination_by bl a
  decreasing_by exact step_lt h.1 h.2
def pq (a b : Nat) : Nat := if h : b ≠ 0 ∧ bl b ≤ bl a then 2 ^ (bl a - bl b) ^^^ pq (a ^^^ b * 2 ^ (bl a - bl b)) b else 0
  termination_by bl a
  decreasing_by exact step_lt h.1 h.2
theorem pm_lt0 {a b : Nat} (h : bl a < bl b) : pm a b = a := by rw [pm, dif_neg (by omega)]
theorem pq_lt0 {a b : Nat} (h : bl a < bl b) : pq a b = 0 := by rw [pq, dif_neg (by omega)]
theorem pm_step {a b : Nat} (hb : b ≠ 0) (h : bl b ≤ bl a) : pm a b = pm (a ^^^ b * 2 ^ (bl a - bl b)) b := by rw [pm, dif_pos ⟨hb, h⟩]
theorem pq_step {a b : Nat} (hb : b ≠ 0) (h : bl b ≤ bl a) : pq a b = 2 ^ (bl a - bl b) ^^^ pq (a ^^^ b * 2 ^ (bl a - bl b)) b := by rw [pq, dif_pos ⟨hb, h⟩]
theorem div_all (b : Nat) (hb : b ≠ 0) : ∀ n a, bl a ≤ n → cm (pq a b) b ^^^ pm a b = a ∧ bl (pm a b) < bl b ∧ bl (pq a b) + bl b ≤ max (bl a + 1) (bl b) := by
  intro n
  induction n with
  | zero =>
    intro a ha
    have hp := bl_pos hb
    rw [pm_lt0 (by omega), pq_lt0 (by omega)]
    simp; omega
  | succ n ih =>
    intro a ha
    by_cases h : bl b ≤ bl a
    · have hs := step_lt hb h
      obtain ⟨h1, h2, h3⟩ := ih _ (by omega : bl (a ^^^ b * 2 ^ (bl a - bl b)) ≤ n)
      rw [pm_step hb h, pq_step hb h]
      refine ⟨?_, h2, ?_⟩
      · rw [cm_xor_left, Nat.xor_assoc, h1, cm_comm, cm_pow, Nat.xor_comm a, xor_cl]
      · have := bl_xor_le (2 ^ (bl a - bl b)) (pq (a ^^^ b * 2 ^ (bl a - bl b)) b)
        rw [bl_two_pow] at this
        omega
    · rw [pm_lt0 (by omega), pq_lt0 (by omega)]
      simp; omega
theorem div_eq (a : Nat) {b : Nat} (hb : b ≠ 0) : cm (pq a b) b ^^^ pm a b = a := (div_all b hb _ a (Nat.le_refl _)).1
theorem pm_bl (a : Nat) {b : Nat} (hb : b ≠ 0) : bl (pm a b) < bl b := (div_all b hb _ a (Nat.le_refl _)).2.1
theorem pq_bl (a : Nat) {b : Nat} (hb : b ≠ 0) : bl (pq a b) + bl b ≤ max (bl a + 1) (bl b) := (div_all b hb _ a (Nat.le_refl _)).2.2
theorem pm_lt {a b k : Nat} (hb : b ≠ 0) (h : b < 2 ^ k) : pm a b < 2 ^ k := bl_le.1 (by have := pm_bl a hb; have := bl_le.2 h; omega)

/-- b divides a. -/
def Dv (b a : Nat) : Prop := ∃ q, a = cm q b
theorem Dv.zero (b : Nat) : Dv b 0 := ⟨0, by simp⟩
theorem Dv.rfl {b : Nat} : Dv b b := ⟨1, by rw [one_cm]⟩
theorem Dv.one (b : Nat) : Dv 1 b := ⟨b, by simp⟩
theorem Dv.xor {b x y : Nat} (h : Dv b x) (h2 : Dv b y) : Dv b (x ^^^ y) := by
  obtain ⟨q, rfl⟩ := h; obtain ⟨r, rfl⟩ := h2; exact ⟨q ^^^ r, by rw [cm_xor_left]⟩
theorem Dv.left {b x : Nat} (h : Dv b x) (c : Nat) : Dv b (cm c x) := by
  obtain ⟨q, rfl⟩ := h; exact ⟨cm c q, by rw [cm_assoc]⟩
theorem Dv.right {b x : Nat} (h : Dv b x) (c : Nat) : Dv b (cm x c) := by rw [cm_comm]; exact h.left c
theorem Dv.self_left (b c : Nat) : Dv b (cm c b) := ⟨c, by rfl⟩
theorem Dv.self_right (b c : Nat) : Dv b (cm b c) := ⟨c, cm_comm _ _⟩
theorem Dv.trans {a b c : Nat} (h : Dv a b) (h2 : Dv b c) : Dv a c := by
  obtain ⟨q, rfl⟩ := h2; exact h.left q
theorem Dv.bl_le {b x : Nat} (h : Dv b x) (hx : x ≠ 0) : bl b ≤ bl x := by
  obtain ⟨q, rfl⟩ := h
  have hq : q ≠ 0 := fun hh => by subst hh; simp at hx
  have hb : b ≠ 0 := fun hh => by subst hh; simp at hx
  have := (bl_cm hq hb).1
  have := bl_pos hq
  omega
theorem Dv.zero_of_lt {b x : Nat} (h : Dv b x) (hl : bl x < bl b) : x = 0 := by
  by_cases hx : x = 0
  · exact hx
  · have := h.bl_le hx; omega
theorem Dv.xor_iff {b x y : Nat} (h : Dv b y) : Dv b (x ^^^ y) ↔ Dv b x :=
  ⟨fun hh => by have := hh.xor h; rwa [xor_cr] at this, fun hh => hh.xor h⟩

theorem pm_dv (a : Nat) {b : Nat} (hb : b ≠ 0) : Dv b (a ^^^ pm a b) := ⟨pq a b, xor_move (div_eq a hb).symm⟩
/-- The remainder is the one that is short enough. -/
theorem pm_uniq {a b r : Nat} (hb : b ≠ 0) (h : Dv b (a ^^^ r)) (hr : bl r < bl b) : pm a b = r := by
  have h1 := (pm_dv a hb).xor h
  rw [Nat.xor_comm a, xor_ex, Nat.xor_comm (pm a b) a, xor_ex, Nat.xor_self, Nat.zero_xor] at h1
  have h2 := h1.zero_of_lt (by
    have := bl_xor_le (pm a b) r; have := pm_bl a hb; omega)
  exact xor_eq0 h2
theorem pq_uniq {a b q r : Nat} (hb : b ≠ 0) (h : a = cm q b ^^^ r) (hr : bl r < bl b) : pq a b = q := by
  have e : pm a b = r := pm_uniq hb ⟨q, by rw [h, xor_cr]⟩ hr
  have h2 := div_eq a hb
  rw [e] at h2
  have h3 : cm (pq a b) b = cm q b := by
    have := congrArg (fun x => x ^^^ r) (h2.trans h)
    simpa [xor_cr] using this
  exact cm_cancel h3 hb
theorem pm_cong {a c b : Nat} (hb : b ≠ 0) (h : Dv b (a ^^^ c)) : pm a b = pm c b := by
  refine pm_uniq hb ?_ (pm_bl c hb)
  have := h.xor (pm_dv c hb)
  rwa [xor_ex, Nat.xor_comm c (pm c b), ← xor_ex, Nat.xor_self, Nat.xor_zero] at this
theorem pm_eq_iff {a c b : Nat} (hb : b ≠ 0) : pm a b = pm c b ↔ Dv b (a ^^^ c) := by
  constructor
  · intro h
    have := (pm_dv a hb).xor (pm_dv c hb)
    rw [h, xor_ex, Nat.xor_self, Nat.xor_zero] at this
    exact this
  · exact pm_cong hb
theorem pm_eq0 {a b : Nat} (hb : b ≠ 0) : pm a b = 0 ↔ Dv b a := by
  have := pm_eq_iff (a := a) (c := 0) hb
  rw [pm_lt0 (a := 0) (by simpa using bl_pos hb)] at this
  simpa using this
theorem pm_pm (a : Nat) {b : Nat} (hb : b ≠ 0) : pm (pm a b) b = pm a b := pm_lt0 (pm_bl a hb)
theorem pm_xor (a c : Nat) {b : Nat} (hb : b ≠ 0) : pm (a ^^^ c) b = pm a b ^^^ pm c b := by
  refine pm_uniq hb ?_ ?_
  · have := (pm_dv a hb).xor (pm_dv c hb)
    rwa [xor_ex] at this
  · have := bl_xor_le (pm a b) (pm c b); have := pm_bl a hb; have := pm_bl c hb; omega
theorem pm_cm_left (a c : Nat) {b : Nat} (hb : b ≠ 0) : pm (cm (pm a b) c) b = pm (cm a c) b := by
  refine pm_cong hb ?_
  rw [← cm_xor_left, Nat.xor_comm]
  exact (pm_dv a hb).right c
theorem pm_cm_right (a c : Nat) {b : Nat} (hb : b ≠ 0) : pm (cm a (pm c b)) b = pm (cm a c) b := by
  rw [cm_comm, pm_cm_left _ _ hb, cm_comm]
theorem pm_one (a : Nat) : pm a 1 = 0 := by
  have := pm_bl a (b := 1) (by decide); simp at this; exact bl_eq0.1 this
end Go.Proofs.YtdaijbplbnkpeaaDoor
