/-
  Plain facts on reading texts term by term, and on writing them from the greatest term on. No program is named here; there are no conditions but those in each statement.
-/
import Derived.Test.YtjajojdlgpmpfaaDoorRdt
namespace Go.Proofs.YtjajojdlgpmpfaaDoor

/-- The text of the terms from degree g on; none is nothing. -/
def hiT (p g : Nat) : List UInt8 := if p ^^^ p % 2 ^ g = 0 then [] else textT (p ^^^ p % 2 ^ g)
theorem hiT_start {p : Nat} (h : p < 2 ^ 64) : hiT p 64 = [] := by
  unfold hiT; rw [Nat.mod_eq_of_lt h, Nat.xor_self, if_pos rfl]
theorem hiT_end (p : Nat) : hiT p 0 = if p = 0 then [] else textT p := by
  unfold hiT; rw [Nat.pow_zero, Nat.mod_one, Nat.xor_zero]
theorem hiT_off {p i : Nat} (h : p.testBit i = false) : hiT p i = hiT p (i + 1) := by
  unfold hiT
  have := mod_low (q := p) (j := i)
  rw [h, if_neg (by simp), Nat.zero_xor] at this
  rw [this]
theorem preT_join {l : List Nat} (h : l ≠ []) : preT l = Lib.join (l.map termT) [43] ++ [43] := by
  obtain ⟨m, j, rfl⟩ : ∃ m j, l = m ++ [j] := ⟨l.dropLast, l.getLast h, (List.dropLast_concat_getLast h).symm⟩
  rw [join_pre, preT_snoc, List.append_assoc]
theorem hiT_ne {p g : Nat} (h : p ^^^ p % 2 ^ g ≠ 0) : hiT p g ≠ [] := by
  unfold hiT
  rw [if_neg h, text_cons h]
  have h1 : ∀ i : Fin 64, termT i.val ≠ [] := by decide +kernel
  intro e
  have e2 := (List.append_eq_nil_iff.1 e).1
  unfold termT at e2
  split at e2
  · simp at e2
  · split at e2 <;> simp at e2
theorem hiT_on {p i : Nat} (h : p.testBit i = true) : hiT p i = (if hiT p (i + 1) = [] then [] else hiT p (i + 1) ++ [43]) ++ termT i := by
  have hml := mod_low (q := p) (j := i)
  rw [h, if_pos rfl] at hml
  have hz : (p ^^^ p % 2 ^ (i + 1)) % 2 ^ (i + 1) = 0 := by rw [Nat.xor_mod_two_pow, Nat.mod_mod]; exact Nat.xor_self _
  have htail : p % 2 ^ (i + 1) ^^^ 2 ^ i = p % 2 ^ i := by rw [hml, Nat.xor_comm (2 ^ i), xor_cr]
  have hor : (p ^^^ p % 2 ^ (i + 1)) ||| 2 ^ i = p ^^^ p % 2 ^ i := by rw [or_flip (off_of_mod hz), Nat.xor_assoc, htail]
  have hne : p ^^^ p % 2 ^ i ≠ 0 := fun e => by
    rw [← hor] at e
    have := Nat.right_le_or (n := p ^^^ p % 2 ^ (i + 1)) (m := 2 ^ i); have := Nat.two_pow_pos i; omega
  have e1 : hiT p i = preT (tdeg (p ^^^ p % 2 ^ (i + 1))) ++ termT i := by
    unfold hiT; rw [if_neg hne, ← hor, text_snoc hz]
  rw [e1]
  by_cases h0 : p ^^^ p % 2 ^ (i + 1) = 0
  · have e2 : hiT p (i + 1) = [] := by unfold hiT; rw [if_pos h0]
    rw [if_pos e2, h0, tdeg_zero]; rfl
  · rw [if_neg (hiT_ne h0), preT_join (by rw [tdeg_cons h0]; simp)]
    have e2 : hiT p (i + 1) = Lib.join ((tdeg (p ^^^ p % 2 ^ (i + 1))).map termT) [43] := by unfold hiT; rw [if_neg h0]; unfold textT; rw [if_neg h0]
    rw [e2]

/-! ### reading term by term -/
/-- How far it is to the next sign. -/
def cl : List UInt8 → Nat
  | [] => 0
  | c :: l => if c = 43 then 0 else cl l + 1
/-- The degrees below i whose term this is, as bits. -/
def ors (c : List UInt8) : Nat → Nat
  | 0 => 0
  | i + 1 => if c = termT i then ors c i ||| 2 ^ i else ors c i
/-- All terms that occur. -/
def par : Nat → List UInt8 → Nat → Nat
  | 0, _, p => p
  | f + 1, l, p => if l = [] then p else par f (l.drop (cl l + 1)) (p ||| ors (l.take (cl l)) 64)
theorem cl_le (l : List UInt8) : cl l ≤ l.length := by
  induction l with
  | nil => simp [cl]
  | cons c l ih => rw [cl]; split <;> simp <;> omega
theorem cl_app {a r : List UInt8} (h : ¬ (43 : UInt8) ∈ a) (hr : r = [] ∨ ∃ u, r = 43 :: u) : cl (a ++ r) = a.length := by
  induction a with
  | nil =>
    rcases hr with rfl | ⟨u, rfl⟩
    · rfl
    · simp [cl]
  | cons c a ih =>
    simp only [List.mem_cons, not_or] at h
    rw [List.cons_append, cl, if_neg (fun e => h.1 e.symm), ih h.2]; rfl
theorem cl_step {l : List UInt8} {t : Nat} {c : UInt8} (h : l[t]? = some c) : cl (l.drop t) = if c = 43 then 0 else cl (l.drop (t + 1)) + 1 := by
  obtain ⟨ht, hc⟩ := List.getElem?_eq_some_iff.1 h
  rw [List.drop_eq_getElem_cons ht, cl, hc]
theorem ors_lt (c : List UInt8) : ∀ i, i ≤ 64 → ors c i < 2 ^ 64 := by
  intro i
  induction i with
  | zero => intro _; simp [ors]
  | succ i ih =>
    intro h
    rw [ors]
    split
    · exact Nat.or_lt_two_pow (ih (by omega)) (Nat.pow_lt_pow_right (by omega) (by omega))
    · exact ih (by omega)
theorem ors_term : ∀ d : Fin 64, ors (termT d.val) 64 = 2 ^ d.val := by decide +kernel
theorem ors_zero : ors [48] 64 = 0 := by decide +kernel
theorem par_nil (f p : Nat) : par f [] p = p := by cases f <;> simp [par]
theorem par_lt : ∀ (f : Nat) (l : List UInt8) (p : Nat), p < 2 ^ 64 → par f l p < 2 ^ 64 := by
  intro f
  induction f with
  | zero => intro l p h; exact h
  | succ f ih =>
    intro l p h
    rw [par]
    split
    · exact h
    · exact ih _ _ (Nat.or_lt_two_pow h (ors_lt _ _ (Nat.le_refl _)))
theorem par_text (q : Nat) : q < 2 ^ 64 → q ≠ 0 → ∀ f p, (textT q).length ≤ f → par f (textT q) p = p ||| q := by
  refine bl_ind (P := fun q => q < 2 ^ 64 → q ≠ 0 → ∀ f p, (textT q).length ≤ f → par f (textT q) p = p ||| q) ?_ ?_ q
  · intro _ h; exact absurd rfl h
  · intro q hq0 ih hq _ f p hf
    have hd : bl q - 1 < 64 := by have := bl_le.2 hq; have := bl_pos hq0; omega
    have htc := text_cons hq0
    have ho := ors_term ⟨bl q - 1, hd⟩
    have hs := no_sign ⟨bl q - 1, hd⟩
    simp only at ho hs
    have hne : textT q ≠ [] := fun e => by
      have := hiT_ne (p := q) (g := 0) (by rw [Nat.pow_zero, Nat.mod_one, Nat.xor_zero]; exact hq0)
      rw [hiT_end, if_neg hq0] at this
      exact this e
    obtain ⟨f, rfl⟩ : ∃ k, f = k + 1 := by
      have := List.length_pos_iff.2 hne
      exact ⟨f - 1, by omega⟩
    have hcl : cl (textT q) = (termT (bl q - 1)).length := by
      rw [htc]
      refine cl_app hs ?_
      split
      · exact .inl rfl
      · exact .inr ⟨_, rfl⟩
    rw [par, if_neg hne, hcl]
    have ht : (textT q).take (termT (bl q - 1)).length = termT (bl q - 1) := by rw [htc, List.take_left]
    rw [ht, ho]
    by_cases h0 : q ^^^ 2 ^ (bl q - 1) = 0
    · rw [if_pos h0, List.append_nil] at htc
      rw [htc, List.drop_eq_nil_of_le (by omega), par_nil]
      rw [show q = 2 ^ (bl q - 1) from by have h1 : q ^^^ 2 ^ (bl q - 1) ^^^ 2 ^ (bl q - 1) = q := xor_cr _ _; rw [h0, Nat.zero_xor] at h1; exact h1.symm]
      rw [bl_two_pow, Nat.add_sub_cancel]
    · rw [if_neg h0] at htc
      have hl := congrArg List.length htc
      simp at hl
      have hdr : (textT q).drop ((termT (bl q - 1)).length + 1) = textT (q ^^^ 2 ^ (bl q - 1)) := by
        rw [htc, ← List.drop_drop, List.drop_left, List.drop_succ_cons, List.drop_zero]
      have hlow : q ^^^ 2 ^ (bl q - 1) < 2 ^ (bl q - 1) := by
        refine bl_le.1 ?_
        have h1 := top_off hq0
        omega
      have hbit : (q ^^^ 2 ^ (bl q - 1)).testBit (bl q - 1) = false := Nat.testBit_lt_two_pow hlow
      rw [hdr, ih (by refine Nat.lt_of_lt_of_le hlow (Nat.pow_le_pow_right (by omega) (by omega))) h0 f _ (by omega), Nat.or_assoc, Nat.or_comm (2 ^ _), or_flip hbit, xor_cr]

/-- What the reference's Read gives for a string. -/
def refR (l : List UInt8) : Nat × Int := if 400 < l.length then (0, 3) else if textT (par l.length l 0) = l then (par l.length l 0, 0) else (0, 30)
theorem readR_no3 {l : List UInt8} (h : ¬ 400 < l.length) : (readR l).2 ≠ 3 := by
  unfold readR
  rw [if_neg h]
  split
  · simp
  · obtain ⟨_, g⟩ := rdT_sound 64 l 0 (by simp) (by simp) (Nat.le_refl _)
    by_cases h0 : (rdT 64 l 0).2 = 0
    · rw [h0]; simp
    · rw [g h0]; simp
theorem refR_eq (l : List UInt8) : refR l = readR l := by
  unfold refR
  by_cases h4 : 400 < l.length
  · rw [if_pos h4]; unfold readR; rw [if_pos h4]
  · rw [if_neg h4]
    by_cases h : textT (par l.length l 0) = l
    · rw [if_pos h]
      have := readR_text (par_lt l.length l 0 (by simp))
      rw [h] at this
      exact this.symm
    · rw [if_neg h]
      obtain ⟨g1, g2⟩ := readR_spec l
      by_cases h0 : (readR l).2 = 0
      · exfalso
        obtain ⟨e, hlt⟩ := g1 h0
        generalize (readR l).1 = q at e hlt
        subst e
        by_cases hq : q = 0
        · subst hq
          refine h ?_
          have : textT 0 = [48] := by decide
          rw [this]
          have : par ([48] : List UInt8).length [48] 0 = 0 := by decide +kernel
          rw [this]; decide
        · refine h ?_
          rw [par_text q hlt hq _ 0 (Nat.le_refl _), Nat.zero_or]
      · obtain ⟨e1, e2 | e2⟩ := g2 h0
        · exact absurd e2 (readR_no3 h4)
        · exact (Prod.ext e1 e2).symm
end Go.Proofs.YtjajojdlgpmpfaaDoor
