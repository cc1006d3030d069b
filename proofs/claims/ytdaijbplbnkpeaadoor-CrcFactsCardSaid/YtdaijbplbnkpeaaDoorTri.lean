/-
  Plain facts on the generator x^32 + x^26 + .. + 1 of the checksum CRC-32: the first 32768 powers of x modulo it are different, and no two of them differ by 1 alone. No program is named here; the conditions are those in each statement.
-/
import Derived.Test.YtdaijbplbnkpeaaDoorOrd
namespace Go.Proofs.YtdaijbplbnkpeaaDoor

/-- The generator. -/
def gP : Nat := 4374732215
/-- The next power of x. -/
def nxG (s : Nat) : Nat := bif Nat.blt s 2147483648 then 2 * s else Nat.xor (2 * s) 4374732215
/-- The powers from s on, each without its last bit. -/
def gnG : Nat → Nat → List Nat → List Nat
  | 0, _, acc => acc
  | n + 1, s, acc => gnG n (nxG s) ((s / 2) :: acc)
def ptG (k : Nat) : List Nat → List Nat → List Nat → (List Nat → List Nat → Bool) → Bool
  | [], a, b, f => f a b
  | x :: l, a, b, f => bif Nat.beq (Nat.land (Nat.shiftRight x k) 1) 0 then ptG k l (x :: a) b f else ptG k l a (x :: b) f
/-- All are different: parted bit by bit. -/
def dsG : Nat → List Nat → Bool
  | _, [] => true
  | _, [_] => true
  | 0, _ => false
  | k + 1, l => ptG k l [] [] fun a b => dsG k a && dsG k b

theorem ptG_eq (k : Nat) (f : List Nat → List Nat → Bool) : ∀ l a b, ptG k l a b f = f ((l.filter fun x => Nat.beq (Nat.land (Nat.shiftRight x k) 1) 0).reverse ++ a) ((l.filter fun x => !Nat.beq (Nat.land (Nat.shiftRight x k) 1) 0).reverse ++ b) := by
  intro l
  induction l with
  | nil => intro a b; rfl
  | cons x l ih =>
    intro a b
    cases h : Nat.beq (Nat.land (Nat.shiftRight x k) 1) 0 with
    | true =>
      rw [ptG, h, cond_true, ih, List.filter_cons_of_pos (by exact h), List.filter_cons_of_neg (by rw [h]; simp), List.reverse_cons, List.append_assoc]
      rfl
    | false =>
      rw [ptG, h, cond_false, ih, List.filter_cons_of_neg (by rw [h]; simp), List.filter_cons_of_pos (by rw [h]; rfl), List.reverse_cons, List.append_assoc]
      rfl
theorem nodup_parts (p : Nat → Bool) : ∀ l : List Nat, (l.filter p).Nodup → (l.filter fun x => !p x).Nodup → l.Nodup := by
  intro l
  induction l with
  | nil => intro _ _; exact List.nodup_nil
  | cons x l ih =>
    intro h1 h2
    cases hp : p x with
    | true =>
      rw [List.filter_cons_of_pos hp] at h1
      rw [List.filter_cons_of_neg (by simp [hp])] at h2
      obtain ⟨h3, h4⟩ := List.nodup_cons.1 h1
      exact List.nodup_cons.2 ⟨fun hm => h3 (List.mem_filter.2 ⟨hm, hp⟩), ih h4 h2⟩
    | false =>
      rw [List.filter_cons_of_neg (by simp [hp])] at h1
      rw [List.filter_cons_of_pos (by simp [hp])] at h2
      obtain ⟨h3, h4⟩ := List.nodup_cons.1 h2
      exact List.nodup_cons.2 ⟨fun hm => h3 (List.mem_filter.2 ⟨hm, by simp [hp]⟩), ih h1 h4⟩
theorem nodup_rev {l : List Nat} (h : l.reverse.Nodup) : l.Nodup := (List.reverse_perm l).nodup_iff.1 h
theorem dsG_nodup : ∀ k l, dsG k l = true → l.Nodup := by
  intro k
  induction k with
  | zero =>
    intro l h
    match l, h with
    | [], _ => exact List.nodup_nil
    | [x], _ => simp
    | x :: y :: t, h => simp [dsG] at h
  | succ k ih =>
    intro l h
    match l, h with
    | [], _ => exact List.nodup_nil
    | [x], _ => simp
    | x :: y :: t, h =>
      rw [dsG, ptG_eq] at h
      · simp only [List.append_nil, Bool.and_eq_true] at h
        exact nodup_parts _ _ (nodup_rev (ih _ h.1)) (nodup_rev (ih _ h.2))
      · simp
      · simp
/-- The powers as a list. -/
def lsG : Nat → Nat → List Nat
  | 0, _ => []
  | n + 1, s => (s / 2) :: lsG n (nxG s)
theorem gnG_eq : ∀ n s acc, gnG n s acc = (lsG n s).reverse ++ acc := by
  intro n
  induction n with
  | zero => intro s acc; rfl
  | succ n ih => intro s acc; rw [gnG, ih, lsG]; simp
theorem gP_ne : gP ≠ 0 := by decide
theorem gP_bl : bl gP = 33 := by decide +kernel
theorem nxG_eq {s : Nat} (h : s < 2 ^ 32) : nxG s = pm (2 * s) gP ∧ nxG s < 2 ^ 32 := by
  unfold nxG
  by_cases h1 : s < 2147483648
  · rw [show Nat.blt s 2147483648 = true from by simp [Nat.blt_eq]; exact h1, cond_true]
    refine ⟨(pm_lt0 ?_).symm, by omega⟩
    rw [gP_bl]
    have : bl (2 * s) ≤ 32 := bl_le.2 (by omega)
    omega
  · have hf : Nat.blt s 2147483648 = false := by
      cases hb : Nat.blt s 2147483648 with
      | false => rfl
      | true => exact absurd (by simpa using hb) h1
    rw [hf, cond_false]
    have hb : bl (2 * s) = 33 := by
      have h2 : bl (2 * s) ≤ 33 := bl_le.2 (by omega)
      have h3 : 32 < bl (2 * s) := lt_bl.2 (by omega)
      omega
    have e := pm_step (a := 2 * s) gP_ne (by rw [gP_bl, hb]; omega)
    rw [hb, gP_bl, Nat.sub_self, Nat.pow_zero, Nat.mul_one] at e
    have hlt : bl (2 * s ^^^ gP) < 33 := by
      have := step_lt (a := 2 * s) gP_ne (by rw [gP_bl, hb]; omega)
      rw [hb, gP_bl, Nat.sub_self, Nat.pow_zero, Nat.mul_one] at this
      exact this
    have e2 : pm (2 * s ^^^ gP) gP = 2 * s ^^^ gP := pm_lt0 (by rw [gP_bl]; exact hlt)
    rw [e2] at e
    exact ⟨e.symm, bl_le.1 (by show bl (2 * s ^^^ gP) ≤ 32; omega)⟩
theorem lsG_get : ∀ n s i k, s < 2 ^ 32 → s = pm (2 ^ k) gP → i < n → (lsG n s)[i]? = some (pm (2 ^ (k + i)) gP / 2) := by
  intro n
  induction n with
  | zero => intro s i k _ _ h; omega
  | succ n ih =>
    intro s i k hs he hi
    rw [lsG]
    cases i with
    | zero => simp [he]
    | succ i =>
      rw [List.getElem?_cons_succ]
      have hn := nxG_eq hs
      rw [ih (nxG s) i (k + 1) hn.2 (by rw [hn.1, he, pw_next gP_ne]) (by omega)]
      rw [show k + 1 + i = k + (i + 1) from by omega]
set_option maxRecDepth 100000000 in
theorem tri_run : dsG 31 (gnG 32768 1 []) = true := by decide +kernel
/-- Two of the first 32768 powers of x modulo the generator differ, and not by the last bit alone. -/
theorem tri_free {i j : Nat} (hij : i < j) (hj : j < 32768) : pm (2 ^ i) gP / 2 ≠ pm (2 ^ j) gP / 2 := by
  have hnd := dsG_nodup _ _ tri_run
  rw [gnG_eq, List.append_nil] at hnd
  have hnd2 := nodup_rev hnd
  have h1 : (1 : Nat) = pm (2 ^ 0) gP := by rw [Nat.pow_zero, pm_lt0 (by rw [gP_bl]; decide)]
  have hi' := lsG_get 32768 1 i 0 (by omega) h1 (by omega)
  have hj' := lsG_get 32768 1 j 0 (by omega) h1 hj
  rw [Nat.zero_add] at hi' hj'
  intro e
  rw [e, ← hj'] at hi'
  have hlen : i < (lsG 32768 1).length := by
    rcases Nat.lt_or_ge i (lsG 32768 1).length with h | h
    · exact h
    · rw [List.getElem?_eq_none h, hj'] at hi'; cases hi'
  have := (List.getElem?_inj hlen hnd2).1 hi'
  omega

/-! ### changes of one, two and three bits -/
theorem cut_all {m : Nat} (hm : m % 2 = 1) (y : Nat) : ∀ i, Dv m (cm y (2 ^ i)) → Dv m y := by
  intro i
  induction i with
  | zero => intro h; rwa [Nat.pow_zero, cm_comm, one_cm] at h
  | succ i ih =>
    intro h
    refine ih ?_
    have e : cm 2 (cm y (2 ^ i)) ^^^ cm 2 0 = cm y (2 ^ (i + 1)) := by
      rw [cm_zero, Nat.xor_zero, cm_comm 2, cm_two, cm_pow, cm_pow, Nat.pow_succ]
      rw [Nat.mul_comm (2 ^ i) 2, Nat.mul_left_comm]
    have := cut_two (a := cm y (2 ^ i)) (b := 0) hm (by rw [e]; exact h)
    rwa [Nat.xor_zero] at this
theorem gP_odd : gP % 2 = 1 := by decide
theorem pm_one_gP : pm 1 gP = 1 := pm_lt0 (by rw [gP_bl]; decide)
theorem shift_pow (d a : Nat) : cm (2 ^ d) (2 ^ a) = 2 ^ (a + d) := by rw [cm_pow, Nat.add_comm a d, Nat.pow_add]
theorem one_free (a : Nat) : pm (2 ^ a) gP ≠ 0 := by
  intro h
  have h1 := (pm_eq0 gP_ne).1 h
  have h2 := cut_all gP_odd 1 a (by rwa [one_cm])
  have := (pm_eq0 gP_ne).2 h2
  rw [pm_one_gP] at this
  cases this
theorem two_free {a d : Nat} (h0 : 0 < d) (h : d < 32768) : pm (2 ^ a ^^^ 2 ^ (a + d)) gP ≠ 0 := by
  intro hh
  have h1 := (pm_eq0 gP_ne).1 hh
  have h2 := cut_all gP_odd (1 ^^^ 2 ^ d) a (by rwa [cm_xor_left, one_cm, shift_pow])
  have h3 := (pm_eq0 gP_ne).2 h2
  rw [pm_xor _ _ gP_ne] at h3
  refine tri_free h0 h ?_
  have : pm 1 gP = pm (2 ^ d) gP := by
    have e := xor_cr (pm 1 gP) (pm (2 ^ d) gP)
    rw [h3, Nat.zero_xor] at e; exact e.symm
  rw [Nat.pow_zero, this]
theorem three_free {a d e : Nat} (h1 : d < e) (h : e < 32768) : pm (2 ^ a ^^^ 2 ^ (a + d) ^^^ 2 ^ (a + e)) gP ≠ 0 := by
  intro hh
  have h2 := cut_all gP_odd (1 ^^^ 2 ^ d ^^^ 2 ^ e) a (by
    rw [cm_xor_left, cm_xor_left, one_cm, shift_pow, shift_pow]; exact (pm_eq0 gP_ne).1 hh)
  have h3 := (pm_eq0 gP_ne).2 h2
  rw [pm_xor _ _ gP_ne, pm_xor _ _ gP_ne, pm_one_gP] at h3
  refine tri_free h1 h ?_
  have e1 : 1 ^^^ pm (2 ^ d) gP = pm (2 ^ e) gP := by
    have e := xor_cr (1 ^^^ pm (2 ^ d) gP) (pm (2 ^ e) gP)
    rw [h3, Nat.zero_xor] at e; exact e.symm
  rw [← e1, Nat.xor_div_two]
  simp
/-- A burst: a polynomial of degree below 32, moved. -/
theorem burst_free {y : Nat} (h0 : y ≠ 0) (h : y < 2 ^ 32) (a : Nat) : pm (cm y (2 ^ a)) gP ≠ 0 := by
  intro hh
  have h2 := cut_all gP_odd y a ((pm_eq0 gP_ne).1 hh)
  have h3 := (pm_eq0 gP_ne).2 h2
  rw [pm_lt0 (by rw [gP_bl]; have : bl y ≤ 32 := bl_le.2 h; omega)] at h3
  exact h0 h3
end Go.Proofs.YtdaijbplbnkpeaaDoor
