/-
  Plain facts on reading the texts of polynomials over two elements. No program is named here; there are no conditions but those in each statement.
-/
import Derived.Test.YtjajojdlgpmpfaaDoorTxt
import Derived.Test.YtjajojdlgpmpfaaDoorRev
namespace Go.Proofs.YtjajojdlgpmpfaaDoor

/-- Reading, as it goes: j degrees are left to try. -/
def rdT : Nat → List UInt8 → Nat → Nat × Int
  | 0, _, _ => (0, 30)
  | j + 1, rest, p =>
    if Lib.hasPrefix rest (termT j) then
      if rest.drop (termT j).length = [] then (p ||| 2 ^ j, 0)
      else if Lib.hasPrefix (rest.drop (termT j).length) [43] then rdT j ((rest.drop (termT j).length).drop 1) (p ||| 2 ^ j)
      else (0, 30)
    else rdT j rest p
/-- What Read gives for a string. -/
def readR (s : List UInt8) : Nat × Int := if 400 < s.length then (0, 3) else if s = [48] then (0, 0) else rdT 64 s 0

/-- Setting a bit that is off is flipping it. -/
theorem or_flip {p i : Nat} (hb : p.testBit i = false) : p ||| 2 ^ i = p ^^^ 2 ^ i := by
  refine Nat.eq_of_testBit_eq fun j => ?_
  rw [Nat.testBit_or, Nat.testBit_xor, Nat.testBit_two_pow]
  by_cases hj : i = j
  · subst hj; rw [hb]; simp
  · simp [hj]
theorem off_of_mod {p i : Nat} (h : p % 2 ^ (i + 1) = 0) : p.testBit i = false := by
  have := Nat.testBit_mod_two_pow p (i + 1) i
  rw [h] at this; simpa using this.symm
/-! ### terms in order -/
theorem tdeg_snoc (i : Nat) : ∀ p, p % 2 ^ (i + 1) = 0 → tdeg (p ||| 2 ^ i) = tdeg p ++ [i] := by
  intro p
  refine bl_ind (P := fun p => p % 2 ^ (i + 1) = 0 → tdeg (p ||| 2 ^ i) = tdeg p ++ [i]) ?_ ?_ p
  · intro _
    rw [Nat.zero_or, tdeg_zero, tdeg_cons (Nat.ne_of_gt (Nat.two_pow_pos i)), bl_two_pow, Nat.add_sub_cancel, Nat.xor_self, tdeg_zero]
    rfl
  · intro p hp ih hm
    have hbp : i + 1 < bl p := by
      refine lt_bl.2 ?_
      have := Nat.le_of_dvd (Nat.pos_of_ne_zero hp) (Nat.dvd_of_mod_eq_zero hm)
      exact this
    have hor : p ||| 2 ^ i = p ^^^ 2 ^ i := or_flip (off_of_mod hm)
    have hbl : bl (p ||| 2 ^ i) = bl p := by rw [hor]; exact bl_xor_of_lt (by rw [bl_two_pow]; omega)
    have hne : p ||| 2 ^ i ≠ 0 := fun h => by rw [h] at hbl; simp at hbl; omega
    have hm2 : (p ^^^ 2 ^ (bl p - 1)) % 2 ^ (i + 1) = 0 := by
      rw [Nat.xor_mod_two_pow, hm, Nat.mod_eq_zero_of_dvd (Nat.pow_dvd_pow 2 (by omega : i + 1 ≤ bl p - 1))]; rfl
    have e : (p ||| 2 ^ i) ^^^ 2 ^ (bl p - 1) = (p ^^^ 2 ^ (bl p - 1)) ||| 2 ^ i := by
      have hor2 : (p ^^^ 2 ^ (bl p - 1)) ||| 2 ^ i = (p ^^^ 2 ^ (bl p - 1)) ^^^ 2 ^ i := or_flip (off_of_mod hm2)
      rw [hor, hor2, Nat.xor_assoc, Nat.xor_comm (2 ^ i), ← Nat.xor_assoc]
    rw [tdeg_cons hne, tdeg_cons hp, hbl, e, ih hm2]
    rfl
/-- The terms, each with a sign behind it. -/
def preT (l : List Nat) : List UInt8 := (l.map fun i => termT i ++ [43]).flatten
theorem preT_snoc (l : List Nat) (i : Nat) : preT (l ++ [i]) = preT l ++ (termT i ++ [43]) := by simp [preT]
theorem join_pre (l : List Nat) (i : Nat) : Lib.join ((l ++ [i]).map termT) [43] = preT l ++ termT i := by
  induction l with
  | nil => simp [preT, Lib.join_one]
  | cons d l ih =>
    cases l with
    | nil => simp [preT, Lib.join_cons, Lib.joinTail]
    | cons c l =>
      simp only [List.cons_append, List.map_cons, Lib.join_cons] at ih ⊢
      simp only [Lib.joinTail, List.map_cons, List.flatten_cons] at ih ⊢
      rw [List.append_assoc, ih]
      simp [preT]
theorem text_snoc {p i : Nat} (h : p % 2 ^ (i + 1) = 0) : textT (p ||| 2 ^ i) = preT (tdeg p) ++ termT i := by
  have hne : p ||| 2 ^ i ≠ 0 := fun e => by
    have := Nat.right_le_or (n := p) (m := 2 ^ i); have := Nat.two_pow_pos i; omega
  unfold textT
  rw [if_neg hne, tdeg_snoc i p h, join_pre]
theorem or_mod {p j : Nat} (h : p % 2 ^ (j + 1) = 0) : (p ||| 2 ^ j) % 2 ^ j = 0 := by
  rw [Nat.or_mod_two_pow, Nat.mod_self, Nat.or_zero]
  exact Nat.mod_eq_zero_of_dvd (Nat.dvd_trans (Nat.pow_dvd_pow 2 (by omega)) (Nat.dvd_of_mod_eq_zero h))
theorem prefix_split {s p : List UInt8} (h : Lib.hasPrefix s p = true) : s = p ++ s.drop p.length := by
  unfold Lib.hasPrefix at h
  obtain ⟨t, ht⟩ := List.isPrefixOf_iff_prefix.1 h
  rw [← ht]; simp

/-- What is read has the string as its text. -/
theorem rdT_sound : ∀ (j : Nat) (rest : List UInt8) (p : Nat), p % 2 ^ j = 0 → p < 2 ^ 64 → j ≤ 64 →
    ((rdT j rest p).2 = 0 → textT (rdT j rest p).1 = preT (tdeg p) ++ rest ∧ (rdT j rest p).1 < 2 ^ 64) ∧ ((rdT j rest p).2 ≠ 0 → rdT j rest p = (0, 30)) := by
  intro j
  induction j with
  | zero => intro rest p _ _ _; exact ⟨fun h => by simp [rdT] at h, fun _ => rfl⟩
  | succ j ih =>
    intro rest p hm hp hj
    have hm' : p % 2 ^ j = 0 := Nat.mod_eq_zero_of_dvd (Nat.dvd_trans (Nat.pow_dvd_pow 2 (by omega)) (Nat.dvd_of_mod_eq_zero hm))
    have hlt : p ||| 2 ^ j < 2 ^ 64 := Nat.or_lt_two_pow hp (Nat.pow_lt_pow_right (by omega) (by omega))
    rw [rdT]
    by_cases h1 : Lib.hasPrefix rest (termT j) = true
    · rw [if_pos h1]
      have hs := prefix_split h1
      by_cases h2 : rest.drop (termT j).length = []
      · rw [if_pos h2]
        refine ⟨fun _ => ⟨?_, hlt⟩, fun h => absurd rfl h⟩
        rw [h2, List.append_nil] at hs
        rw [text_snoc hm, ← hs]
      · rw [if_neg h2]
        by_cases h3 : Lib.hasPrefix (rest.drop (termT j).length) [43] = true
        · rw [if_pos h3]
          have hs3 := prefix_split h3
          obtain ⟨g1, g2⟩ := ih ((rest.drop (termT j).length).drop 1) (p ||| 2 ^ j) (or_mod hm) hlt (by omega)
          refine ⟨fun h => ⟨?_, (g1 h).2⟩, g2⟩
          rw [(g1 h).1, tdeg_snoc j p hm, preT_snoc]
          conv => rhs; rw [hs, hs3]
          simp
        · rw [if_neg h3]
          exact ⟨fun h => by simp at h, fun _ => rfl⟩
    · rw [if_neg h1]
      exact ih rest p hm' hp (by omega)

/-! ### texts are read -/
theorem no_sign : ∀ i : Fin 64, ¬ (43 : UInt8) ∈ termT i.val := by decide +kernel
theorem no_prefix : ∀ i t : Fin 64, t.val < i.val → (termT i.val).isPrefixOf (termT t.val ++ [43]) = false := by decide +kernel
/-- A greater term does not begin what begins with a lesser one. -/
theorem not_prefix {i t : Nat} (hi : i < 64) (ht : t < i) (r : List UInt8) (hr : r = [] ∨ ∃ u, r = 43 :: u) : Lib.hasPrefix (termT t ++ r) (termT i) = false := by
  have h1 := no_prefix ⟨i, hi⟩ ⟨t, by omega⟩ ht
  have h2 := no_sign ⟨i, hi⟩
  simp only at h1 h2
  refine Bool.eq_false_iff.2 fun h => ?_
  unfold Lib.hasPrefix at h
  have hp := List.isPrefixOf_iff_prefix.1 h
  have key : (termT i) <+: (termT t ++ [43]) := by
    rcases hr with rfl | ⟨u, rfl⟩
    · rw [List.append_nil] at hp
      exact hp.trans (List.prefix_append _ _)
    · by_cases hl : (termT i).length ≤ (termT t ++ [43]).length
      · exact List.prefix_of_prefix_length_le hp (by rw [show termT t ++ 43 :: u = (termT t ++ [43]) ++ u from by simp]; exact List.prefix_append _ _) hl
      · have h3 : (termT t ++ [43]) <+: termT i := List.prefix_of_prefix_length_le (by rw [show termT t ++ 43 :: u = (termT t ++ [43]) ++ u from by simp]; exact List.prefix_append _ _) hp (by omega)
        exact absurd (h3.subset (by simp)) h2
  rw [List.isPrefixOf_iff_prefix.2 key] at h1
  exact absurd h1 (by simp)
/-- The text of what has a term at its head. -/
theorem text_cons {q : Nat} (h : q ≠ 0) : textT q = termT (bl q - 1) ++ (if q ^^^ 2 ^ (bl q - 1) = 0 then [] else 43 :: textT (q ^^^ 2 ^ (bl q - 1))) := by
  have h1 : textT q = Lib.join ((tdeg q).map termT) [43] := by unfold textT; rw [if_neg h]
  rw [h1, tdeg_cons h, List.map_cons, Lib.join_cons]
  by_cases h0 : q ^^^ 2 ^ (bl q - 1) = 0
  · rw [if_pos h0, h0, tdeg_zero]; simp [Lib.joinTail]
  · rw [if_neg h0]
    unfold textT
    rw [if_neg h0, tdeg_cons h0, List.map_cons, Lib.join_cons]
    simp [Lib.joinTail]
theorem has_self (a b : List UInt8) : Lib.hasPrefix (a ++ b) a = true := by
  unfold Lib.hasPrefix; exact List.isPrefixOf_iff_prefix.2 (List.prefix_append _ _)
theorem mod_low {q j : Nat} : q % 2 ^ (j + 1) = (if q.testBit j then 2 ^ j else 0) ^^^ q % 2 ^ j := by
  refine Nat.eq_of_testBit_eq fun k => ?_
  rw [Nat.testBit_mod_two_pow, Nat.testBit_xor, Nat.testBit_mod_two_pow]
  by_cases hk : k = j
  · subst hk
    by_cases hb : q.testBit k = true
    · simp [hb]
    · simp at hb; simp [hb]
  · have : decide (k < j + 1) = decide (k < j) := by simp; omega
    rw [this]
    split
    · rw [Nat.testBit_two_pow, show decide (j = k) = false from by simp; omega, Bool.false_xor]
    · rw [Nat.zero_testBit, Bool.false_xor]
theorem rdT_text (q : Nat) : ∀ j, j ≤ 64 → q % 2 ^ j ≠ 0 → rdT j (textT (q % 2 ^ j)) (q ^^^ q % 2 ^ j) = (q, 0) := by
  intro j
  induction j with
  | zero => intro _ h; simp [Nat.mod_one] at h
  | succ j ih =>
    intro hj hne
    have hml := mod_low (q := q) (j := j)
    have hlt : q % 2 ^ j < 2 ^ j := Nat.mod_lt _ (Nat.two_pow_pos j)
    by_cases hb : q.testBit j = true
    · rw [if_pos hb] at hml
      have hbl : bl (q % 2 ^ (j + 1)) = j + 1 := by
        rw [hml, bl_xor_of_lt (by rw [bl_two_pow]; have := bl_le.2 hlt; omega), bl_two_pow]
      have htail : q % 2 ^ (j + 1) ^^^ 2 ^ j = q % 2 ^ j := by rw [hml, Nat.xor_comm (2 ^ j), xor_cr]
      have hor : (q ^^^ q % 2 ^ (j + 1)) ||| 2 ^ j = q ^^^ q % 2 ^ j := by
        have hz : (q ^^^ q % 2 ^ (j + 1)) % 2 ^ (j + 1) = 0 := by rw [Nat.xor_mod_two_pow, Nat.mod_mod]; exact Nat.xor_self _
        have h2 : (q ^^^ q % 2 ^ (j + 1)) ||| 2 ^ j = (q ^^^ q % 2 ^ (j + 1)) ^^^ 2 ^ j := or_flip (off_of_mod hz)
        rw [h2, Nat.xor_assoc, htail]
      rw [text_cons hne, hbl, Nat.add_sub_cancel, htail, rdT, if_pos (has_self _ _), List.drop_left, hor]
      by_cases h0 : q % 2 ^ j = 0
      · rw [if_pos h0, if_pos rfl, h0, Nat.xor_zero]
      · rw [if_neg h0, if_neg (by simp), if_pos (by unfold Lib.hasPrefix; simp [List.isPrefixOf]), List.drop_succ_cons, List.drop_zero]
        exact ih (by omega) h0
    · rw [if_neg hb, Nat.zero_xor] at hml
      rw [hml] at hne ⊢
      have hnp : Lib.hasPrefix (textT (q % 2 ^ j)) (termT j) = false := by
        rw [text_cons hne]
        have hb1 := bl_le.2 hlt
        have hb2 := bl_pos hne
        refine not_prefix (by omega) (by omega) _ ?_
        split
        · exact .inl rfl
        · exact .inr ⟨_, rfl⟩
      rw [rdT, hnp]
      exact ih (by omega) hne
theorem text_not_zero {q : Nat} (h : q ≠ 0) : textT q ≠ [48] := by
  rw [text_cons h]
  intro e
  by_cases h0 : bl q - 1 = 0
  · rw [h0, termT_zero] at e; simp at e
  · by_cases h1 : bl q - 1 = 1
    · rw [h1, termT_one] at e; simp at e
    · rw [termT_big (by omega)] at e; simp at e
/-- A text is read. -/
theorem readR_text {q : Nat} (h : q < 2 ^ 64) : readR (textT q) = (q, 0) := by
  have hl := textT_len (p := q) (by simpa using h)
  unfold readR
  rw [if_neg (by omega)]
  by_cases h0 : q = 0
  · subst h0; rfl
  · rw [if_neg (text_not_zero h0)]
    have := rdT_text q 64 (Nat.le_refl _) (by rw [Nat.mod_eq_of_lt h]; exact h0)
    rwa [Nat.mod_eq_of_lt h, Nat.xor_self] at this
/-- What is read, and what is not. -/
theorem readR_spec (s : List UInt8) : ((readR s).2 = 0 → textT (readR s).1 = s ∧ (readR s).1 < 2 ^ 64) ∧ ((readR s).2 ≠ 0 → (readR s).1 = 0 ∧ ((readR s).2 = 3 ∨ (readR s).2 = 30)) := by
  unfold readR
  by_cases h1 : 400 < s.length
  · rw [if_pos h1]; exact ⟨fun h => by simp at h, fun _ => ⟨rfl, .inl rfl⟩⟩
  · rw [if_neg h1]
    by_cases h2 : s = [48]
    · rw [if_pos h2]; exact ⟨fun _ => ⟨h2.symm, by simp⟩, fun h => absurd rfl h⟩
    · rw [if_neg h2]
      obtain ⟨g1, g2⟩ := rdT_sound 64 s 0 (by simp) (by simp) (Nat.le_refl _)
      refine ⟨fun h => ?_, fun h => ?_⟩
      · have := g1 h
        rw [tdeg_zero] at this
        exact this
      · rw [g2 h]; exact ⟨rfl, .inr rfl⟩
theorem textT_inj {a b : Nat} (ha : a < 2 ^ 64) (hb : b < 2 ^ 64) (h : textT a = textT b) : a = b := by
  have h1 := readR_text ha
  rw [h, readR_text hb] at h1
  exact (Prod.mk.inj h1).1.symm
end Go.Proofs.YtjajojdlgpmpfaaDoor
