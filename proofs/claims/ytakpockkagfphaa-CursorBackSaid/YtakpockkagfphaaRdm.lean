/-
  Plain facts on what is read out of bytes: one form, and all forms. No program is named here; there are no conditions but those in each statement.
-/
import Derived.Test.YtakpockkagfphaaMath
namespace Go.Proofs.Ytakpockkagfphaa
open Go.RowKit

/-- One form, from place i on, with the weight p of the next byte and the sum so far: the number, how many bytes it has, the error. -/
def rdA : Nat → Int → Int → List Int → Int × Nat × Int
  | _, _, _, [] => (0, 0, 10)
  | i, p, acc, c :: r => if i = 9 ∧ 1 < c then (0, 0, 11) else if 128 ≤ c then rdA (i + 1) (p * 128) (acc + (c - 128) * p) r else if c = 0 ∧ 0 < i then (0, 0, 12) else (acc + c * p, i + 1, 0)

theorem rdA_nil (i : Nat) (p acc : Int) : rdA i p acc [] = (0, 0, 10) := rfl
theorem rdA_over {i : Nat} {p acc c : Int} {r : List Int} (hi : i = 9) (hc : 1 < c) : rdA i p acc (c :: r) = (0, 0, 11) := by simp [rdA, hi, hc]
theorem rdA_more {i : Nat} {p acc c : Int} {r : List Int} (h9 : ¬ (i = 9 ∧ 1 < c)) (hc : 128 ≤ c) : rdA i p acc (c :: r) = rdA (i + 1) (p * 128) (acc + (c - 128) * p) r := by rw [rdA, if_neg h9, if_pos hc]
theorem rdA_zero {i : Nat} {p acc c : Int} {r : List Int} (hc : c = 0) (hi : 0 < i) : rdA i p acc (c :: r) = (0, 0, 12) := by
  rw [rdA, if_neg (by omega), if_neg (by omega), if_pos ⟨hc, hi⟩]
theorem rdA_last {i : Nat} {p acc c : Int} {r : List Int} (h9 : ¬ (i = 9 ∧ 1 < c)) (hc : c < 128) (h0 : ¬ (c = 0 ∧ 0 < i)) : rdA i p acc (c :: r) = (acc + c * p, i + 1, 0) := by
  rw [rdA, if_neg h9, if_neg (by omega), if_neg h0]

def vread (l : List Int) : Int × Nat × Int := rdA 0 1 0 l

/-- Bytes. -/
def Bytes (l : List Int) : Prop := ∀ c ∈ l, 0 ≤ c ∧ c ≤ 255

theorem Bytes.at {l : List Int} (h : Bytes l) (j : Nat) (hj : j < l.length) : 0 ≤ l[j]?.getD 0 ∧ l[j]?.getD 0 ≤ 255 := by
  rw [List.getElem?_eq_getElem hj]
  exact h _ (List.getElem_mem hj)

theorem Bytes.drop {l : List Int} (h : Bytes l) (j : Nat) : Bytes (l.drop j) := fun c hc => h c (List.mem_of_mem_drop hc)
theorem Bytes.take {l : List Int} (h : Bytes l) (j : Nat) : Bytes (l.take j) := fun c hc => h c (List.mem_of_mem_take hc)
theorem Bytes.append {l m : List Int} (h : Bytes l) (h2 : Bytes m) : Bytes (l ++ m) := fun c hc => (List.mem_append.1 hc).elim (h c) (h2 c)

theorem drop_cons (l : List Int) (j : Nat) (hj : j < l.length) : l.drop j = l[j]?.getD 0 :: l.drop (j + 1) := by
  rw [List.drop_eq_getElem_cons hj, List.getElem?_eq_getElem hj]; rfl

/-- The error is one of four; with an error there is no number. -/
theorem rdA_err (l : List Int) : ∀ (i : Nat) (p acc : Int), (rdA i p acc l).2.2 = 0 ∨ ∃ e : Int, (e = 10 ∨ e = 11 ∨ e = 12) ∧ rdA i p acc l = (0, 0, e) := by
  induction l with
  | nil => intro i p acc; exact .inr ⟨10, .inl rfl, rfl⟩
  | cons c r ih =>
    intro i p acc
    by_cases h9 : i = 9 ∧ 1 < c
    · exact .inr ⟨11, by simp, rdA_over h9.1 h9.2⟩
    by_cases hc : 128 ≤ c
    · rw [rdA_more h9 hc]; exact ih _ _ _
    by_cases h0 : c = 0 ∧ 0 < i
    · exact .inr ⟨12, by simp, rdA_zero h0.1 h0.2⟩
    · rw [rdA_last h9 (by omega) h0]; exact .inl rfl

/-- A form is read back, whatever follows. -/
theorem rdA_form (x : Int) : ∀ (i : Nat) (p acc : Int) (b : List Int), 0 ≤ x → i ≤ 9 → x < 2 * 128 ^ (9 - i) → (0 < i → 0 < x) →
    rdA i p acc (vform x ++ b) = (acc + x * p, i + vsize x, 0) := by
  refine vform_ind (P := fun x => ∀ (i : Nat) (p acc : Int) (b : List Int), 0 ≤ x → i ≤ 9 → x < 2 * 128 ^ (9 - i) → (0 < i → 0 < x) → rdA i p acc (vform x ++ b) = (acc + x * p, i + vsize x, 0)) ?_ ?_ x
  · intro x h i p acc b h0 hi hb hp
    rw [vform_lt h, vsize_lt h]
    refine rdA_last ?_ h ?_
    · rintro ⟨rfl, h1⟩; simp at hb; omega
    · rintro ⟨rfl, h1⟩; have := hp h1; omega
  · intro x h ih i p acc b h0 hi hb hp
    rw [vform_ge h, vsize_ge h, List.cons_append]
    have hi9 : i < 9 := by
      refine Nat.lt_of_le_of_ne hi ?_
      rintro rfl; simp at hb; omega
    rw [rdA_more (by omega) (by omega), ih (i + 1) (p * 128) _ b (by omega) (by omega) ?_ (by omega)]
    · refine Prod.ext ?_ (Prod.ext ?_ rfl)
      · show acc + (128 + x % 128 - 128) * p + x / 128 * (p * 128) = acc + x * p
        have e1 : 128 + x % 128 - 128 = x % 128 := by omega
        have e2 : x / 128 * (p * 128) = x / 128 * 128 * p := by rw [Int.mul_assoc, Int.mul_comm p 128]
        rw [e1, e2, Int.add_assoc, ← Int.add_mul, show x % 128 + x / 128 * 128 = x from by omega]
      · show i + 1 + vsize (x / 128) = i + (vsize (x / 128) + 1); omega
    · have e : 9 - i = 9 - (i + 1) + 1 := by omega
      rw [e, Int.pow_succ, ← Int.mul_assoc] at hb
      exact Int.ediv_lt_of_lt_mul (by decide) hb

theorem lt_bound {x : Int} (h : x ≤ 18446744073709551615) : x < 2 * 128 ^ (9 - 0) := by
  have : (2 : Int) * 128 ^ (9 - 0) = 18446744073709551616 := by decide
  rw [this]; omega

theorem vread_form (x : Int) (b : List Int) (h0 : 0 ≤ x) (h1 : x ≤ 18446744073709551615) : vread (vform x ++ b) = (x, vsize x, 0) := by
  unfold vread
  rw [rdA_form x 0 1 0 b h0 (by omega) (lt_bound h1) (by omega)]
  simp

/-- What is read is a form that the bytes begin with. -/
theorem rdA_inv (l : List Int) : ∀ (i : Nat) (p acc z : Int) (m : Nat), i ≤ 9 → Bytes l → rdA i p acc l = (z, m, 0) →
    ∃ (x : Int) (b : List Int), 0 ≤ x ∧ x < 2 * 128 ^ (9 - i) ∧ (0 < i → 0 < x) ∧ l = vform x ++ b ∧ z = acc + x * p ∧ m = i + vsize x := by
  induction l with
  | nil => intro i p acc z m _ _ h; simp [rdA] at h
  | cons c r ih =>
    intro i p acc z m hi hB h
    have hc0 := hB c (by simp)
    by_cases h9 : i = 9 ∧ 1 < c
    · rw [rdA_over h9.1 h9.2] at h; simp at h
    by_cases hc : 128 ≤ c
    · rw [rdA_more h9 hc] at h
      have hi9 : i < 9 := by omega
      obtain ⟨x, b, hx0, hx1, hxp, hl, hz, hm⟩ := ih (i + 1) (p * 128) _ z m (by omega) (fun d hd => hB d (by simp [hd])) h
      have hxp := hxp (by omega)
      have hge : 128 ≤ (c - 128) + 128 * x := by omega
      refine ⟨(c - 128) + 128 * x, b, by omega, ?_, by omega, ?_, ?_, ?_⟩
      · have e : 9 - i = 9 - (i + 1) + 1 := by omega
        rw [e, Int.pow_succ, ← Int.mul_assoc]
        omega
      · rw [vform_ge hge, hl]
        rw [show ((c - 128) + 128 * x) % 128 = c - 128 from by omega, show ((c - 128) + 128 * x) / 128 = x from by omega]
        simp; omega
      · rw [hz, Int.add_mul, ← Int.add_assoc]
        congr 1
        rw [Int.mul_comm 128 x, Int.mul_assoc, Int.mul_comm p 128]
      · rw [hm, vsize_ge hge, show ((c - 128) + 128 * x) / 128 = x from by omega]; omega
    by_cases h0 : c = 0 ∧ 0 < i
    · rw [rdA_zero h0.1 h0.2] at h; simp at h
    · rw [rdA_last h9 (by omega) h0] at h
      simp only [Prod.mk.injEq, and_true] at h
      refine ⟨c, r, by omega, ?_, by omega, ?_, h.1.symm, ?_⟩
      · by_cases hi9 : i = 9
        · subst hi9; simp; omega
        · have e : 9 - i = 9 - (i + 1) + 1 := by omega
          rw [e, Int.pow_succ]
          have : (1 : Int) ≤ 128 ^ (9 - (i + 1)) := Int.pow_pos (by decide)
          omega
      · rw [vform_lt (by omega)]; rfl
      · rw [vsize_lt (by omega)]; omega

theorem vread_inv {l : List Int} {z : Int} {m : Nat} (hB : Bytes l) (h : vread l = (z, m, 0)) :
    ∃ b, 0 ≤ z ∧ z ≤ 18446744073709551615 ∧ l = vform z ++ b ∧ m = vsize z := by
  obtain ⟨x, b, hx0, hx1, _, hl, hz, hm⟩ := rdA_inv l 0 1 0 z m (by omega) hB h
  have : (2 : Int) * 128 ^ (9 - 0) = 18446744073709551616 := by decide
  rw [this] at hx1
  obtain rfl : z = x := by rw [hz]; simp
  exact ⟨b, hx0, by omega, hl, by omega⟩

/-- A form that is cut ends inside a number. -/
theorem rdA_cut (x : Int) : ∀ (i : Nat) (p acc : Int) (k : Nat), 0 ≤ x → i ≤ 9 → x < 2 * 128 ^ (9 - i) → k < vsize x → rdA i p acc ((vform x).take k) = (0, 0, 10) := by
  refine vform_ind (P := fun x => ∀ (i : Nat) (p acc : Int) (k : Nat), 0 ≤ x → i ≤ 9 → x < 2 * 128 ^ (9 - i) → k < vsize x → rdA i p acc ((vform x).take k) = (0, 0, 10)) ?_ ?_ x
  · intro x h i p acc k _ _ _ hk
    rw [vsize_lt h] at hk
    obtain rfl : k = 0 := by omega
    simp [rdA]
  · intro x h ih i p acc k h0 hi hb hk
    cases k with
    | zero => simp [rdA]
    | succ k =>
      rw [vsize_ge h] at hk
      have hi9 : i < 9 := by
        refine Nat.lt_of_le_of_ne hi ?_
        rintro rfl; simp at hb; omega
      rw [vform_ge h, List.take_succ_cons, rdA_more (by omega) (by omega)]
      refine ih _ _ _ k (by omega) (by omega) ?_ (by omega)
      have e : 9 - i = 9 - (i + 1) + 1 := by omega
      rw [e, Int.pow_succ, ← Int.mul_assoc] at hb
      exact Int.ediv_lt_of_lt_mul (by decide) hb

theorem vread_cut (x : Int) (k : Nat) (h0 : 0 ≤ x) (h1 : x ≤ 18446744073709551615) (hk : k < vsize x) : vread ((vform x).take k) = (0, 0, 10) :=
  rdA_cut x 0 1 0 k h0 (by omega) (lt_bound h1) hk

/-! ### all forms -/
/-- All forms, with so many steps: the numbers, the error. -/
def raF : Nat → List Int → List Int × Int
  | 0, _ => ([], 0)
  | n + 1, l => if l = [] then ([], 0) else
    if (vread l).2.2 = 0 then
      (if (raF n (l.drop (vread l).2.1)).2 = 0 then ((vread l).1 :: (raF n (l.drop (vread l).2.1)).1, 0) else ([], (raF n (l.drop (vread l).2.1)).2))
    else ([], (vread l).2.2)

def vreads (l : List Int) : List Int × Int := raF l.length l

theorem vread_pos {l : List Int} (h : (vread l).2.2 = 0) (hB : Bytes l) : 1 ≤ (vread l).2.1 ∧ (vread l).2.1 ≤ l.length := by
  rcases hr : vread l with ⟨z, m, e⟩
  rw [hr] at h
  simp only at h
  subst h
  obtain ⟨b, _, _, hl, hm⟩ := vread_inv hB hr
  have := vsize_pos z
  simp only
  rw [hl, List.length_append]
  unfold vsize at *
  omega

theorem raF_more (n : Nat) : ∀ (m : Nat) (l : List Int), Bytes l → l.length ≤ n → l.length ≤ m → raF n l = raF m l := by
  induction n with
  | zero =>
    intro m l _ hl _
    obtain rfl : l = [] := List.eq_nil_of_length_eq_zero (by omega)
    cases m <;> simp [raF]
  | succ n ih =>
    intro m l hB hl hm
    cases m with
    | zero =>
      obtain rfl : l = [] := List.eq_nil_of_length_eq_zero (by omega)
      simp [raF]
    | succ m =>
      by_cases h : l = []
      · simp [raF, h]
      by_cases he : (vread l).2.2 = 0
      · have hp := vread_pos he hB
        simp only [raF, if_neg h, if_pos he]
        rw [ih m (l.drop (vread l).2.1) (hB.drop _) (by simp; omega) (by simp; omega)]
      · simp [raF, h, he]

theorem vreads_nil : vreads [] = ([], 0) := rfl

theorem vreads_err {l : List Int} (h : l ≠ []) (he : (vread l).2.2 ≠ 0) : vreads l = ([], (vread l).2.2) := by
  unfold vreads
  cases l with
  | nil => exact absurd rfl h
  | cons c r => simp [raF, he]

theorem vreads_ok {l : List Int} (hB : Bytes l) (h : l ≠ []) (he : (vread l).2.2 = 0) :
    vreads l = if (vreads (l.drop (vread l).2.1)).2 = 0 then ((vread l).1 :: (vreads (l.drop (vread l).2.1)).1, 0) else ([], (vreads (l.drop (vread l).2.1)).2) := by
  have hp := vread_pos he hB
  have e : raF l.length l = if (raF (l.length - 1) (l.drop (vread l).2.1)).2 = 0 then ((vread l).1 :: (raF (l.length - 1) (l.drop (vread l).2.1)).1, 0) else ([], (raF (l.length - 1) (l.drop (vread l).2.1)).2) := by
    obtain ⟨n, hn⟩ : ∃ n, l.length = n + 1 := ⟨l.length - 1, by omega⟩
    rw [hn]
    simp only [raF, if_neg h, if_pos he, Nat.add_sub_cancel]
  unfold vreads
  rw [e, raF_more (l.length - 1) _ _ (hB.drop _) (by simp; omega) (Nat.le_refl _)]

/-! ### the sum as the program makes it -/
theorem andNot_u8 (c : Int) (h0 : 0 ≤ c) (h1 : c ≤ 255) : bits .andNot .u8 c 128 = c % 128 := by
  have h : ∀ n : Fin 256, bits .andNot .u8 (n.val : Int) 128 = (n.val : Int) % 128 := by decide +kernel
  have h2 := h ⟨c.toNat, by omega⟩
  simp only at h2
  rw [Int.toNat_of_nonneg h0] at h2
  exact h2

theorem pow_128 (j : Nat) : (128 : Nat) ^ j = 2 ^ (7 * j) := by rw [Nat.pow_mul]

def joinB (acc c : Int) (j : Nat) : Int := bits .or .u64 acc (IntKind.u64.wrap (IntKind.u64.wrap (bits .andNot .u8 c 128) * 2 ^ (7 * j)))

theorem join_eq {acc c : Int} {j : Nat} (ha0 : 0 ≤ acc) (ha1 : acc < 128 ^ j) (hc0 : 0 ≤ c) (hc1 : c ≤ 255) (hj : j ≤ 9) (h9 : ¬ (j = 9 ∧ 1 < c)) : joinB acc c j = acc + c % 128 * 128 ^ j := by
  unfold joinB
  rw [andNot_u8 c hc0 hc1, show IntKind.u64.wrap (c % 128) = c % 128 from by rw [IntKind.wrap_u64]; omega]
  obtain ⟨A, rfl⟩ := Int.eq_ofNat_of_zero_le ha0
  obtain ⟨Y, hY⟩ := Int.eq_ofNat_of_zero_le (show 0 ≤ c % 128 by omega)
  rw [hY]
  have e1 : ((2 : Int) ^ (7 * j)) = (((2 ^ (7 * j) : Nat)) : Int) := by simp
  have e2 : ((128 : Int) ^ j) = (((2 ^ (7 * j) : Nat)) : Int) := by rw [← pow_128]; simp
  rw [e2] at ha1
  rw [e1, e2]
  generalize hP : (2 ^ (7 * j) : Nat) = P at *
  have hA : A < P := by omega
  have hYb : Y ≤ 127 := by omega
  have hb : Y * P + P ≤ 18446744073709551616 := by
    by_cases hj9 : j = 9
    · subst hj9
      have hY1 : Y ≤ 1 := by omega
      have hP2 : P = 9223372036854775808 := by rw [← hP]
      have : Y * P ≤ 1 * P := Nat.mul_le_mul_right _ hY1
      omega
    · have hP2 : P ≤ 72057594037927936 := by
        rw [← hP]
        exact Nat.pow_le_pow_right (by decide) (by omega : 7 * j ≤ 56)
      have : Y * P ≤ 127 * P := Nat.mul_le_mul_right _ hYb
      omega
  have ew : IntKind.u64.wrap ((Y : Int) * (P : Int)) = ((Y * P : Nat) : Int) := by
    rw [IntKind.wrap_u64, ← Int.natCast_mul]; omega
  rw [ew, bits_or_u64_nat A (Y * P) (by omega) (by omega)]
  have eo : A ||| Y * P = A + Y * P := by
    have := Nat.two_pow_add_eq_or_of_lt (i := 7 * j) (b := A) (by rw [hP]; exact hA) Y
    rw [hP] at this
    rw [Nat.or_comm, Nat.mul_comm Y P, ← this, Nat.add_comm]
  rw [eo]
  simp

theorem scan_over {l : List Int} {j : Nat} {acc c : Int} {R : Int × Nat × Int} (HR : rdA j (128 ^ j) acc (l.drop j) = R) (HD : l.drop j = c :: l.drop (j + 1)) (h9 : j = 9 ∧ 1 < c) : R = (0, 0, 11) := by
  rw [← HR, HD, rdA_over h9.1 h9.2]
theorem scan_zero {l : List Int} {j : Nat} {acc c : Int} {R : Int × Nat × Int} (HR : rdA j (128 ^ j) acc (l.drop j) = R) (HD : l.drop j = c :: l.drop (j + 1)) (hc : c = 0) (hj : 0 < j) : R = (0, 0, 12) := by
  rw [← HR, HD, rdA_zero hc hj]
theorem scan_last {l : List Int} {j : Nat} {acc c : Int} {R : Int × Nat × Int} (HR : rdA j (128 ^ j) acc (l.drop j) = R) (HD : l.drop j = c :: l.drop (j + 1)) (ha0 : 0 ≤ acc) (ha1 : acc < 128 ^ j) (hc0 : 0 ≤ c) (hj : j ≤ 9) (h9 : ¬ (j = 9 ∧ 1 < c)) (hc : c < 128) (h0 : ¬ (c = 0 ∧ 0 < j)) : R = (joinB acc c j, j + 1, 0) := by
  rw [← HR, HD, rdA_last h9 hc h0, join_eq ha0 ha1 hc0 (by omega) hj h9, show c % 128 = c from by omega]
theorem scan_more {l : List Int} {j : Nat} {acc c : Int} {R : Int × Nat × Int} (HR : rdA j (128 ^ j) acc (l.drop j) = R) (HD : l.drop j = c :: l.drop (j + 1)) (ha0 : 0 ≤ acc) (ha1 : acc < 128 ^ j) (hc1 : c ≤ 255) (hj : j ≤ 9) (h9 : ¬ (j = 9 ∧ 1 < c)) (hc : 128 ≤ c) :
    0 ≤ joinB acc c j ∧ joinB acc c j < 128 ^ (j + 1) ∧ rdA (j + 1) (128 ^ (j + 1)) (joinB acc c j) (l.drop (j + 1)) = R := by
  have e := join_eq ha0 ha1 (by omega : 0 ≤ c) hc1 hj h9
  have e2 : c % 128 = c - 128 := by omega
  rw [e2] at e
  have hp : (0 : Int) < 128 ^ j := Int.pow_pos (by decide)
  have hm : 0 ≤ (c - 128) * 128 ^ j := Int.mul_nonneg (by omega) (by omega)
  have hm2 : (c - 128) * 128 ^ j ≤ 127 * 128 ^ j := Int.mul_le_mul_of_nonneg_right (by omega) (by omega)
  refine ⟨by rw [e]; omega, by rw [e, Int.pow_succ]; omega, ?_⟩
  rw [e, Int.pow_succ, ← HR, HD, rdA_more h9 hc]

theorem scan_short {l : List Int} {j : Nat} {acc : Int} {R : Int × Nat × Int} (HR : rdA j (128 ^ j) acc (l.drop j) = R) (h : l.length ≤ j) : R = (0, 0, 10) := by
  rw [← HR, List.drop_eq_nil_of_le h]; rfl
end Go.Proofs.Ytakpockkagfphaa
