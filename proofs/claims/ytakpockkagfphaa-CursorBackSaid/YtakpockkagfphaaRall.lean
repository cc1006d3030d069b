/-
  Plain facts on all forms, one after the other: what is written is read back, what is read is written as the same bytes, and a wrong form behind right ones is an error. There are no conditions but those in each statement.
-/
import Derived.Test.YtakpockkagfphaaRdm
namespace Go.Proofs.Ytakpockkagfphaa
open Go.RowKit

def vwall : List Int → List Int
  | [] => []
  | x :: r => vform x ++ vwall r
theorem vwall_cons (x : Int) (r : List Int) : vwall (x :: r) = vform x ++ vwall r := rfl
theorem vwall_append (l m : List Int) : vwall (l ++ m) = vwall l ++ vwall m := by
  induction l with
  | nil => rfl
  | cons x r ih => rw [List.cons_append, vwall_cons, vwall_cons, ih, List.append_assoc]

/-- Numbers of 64 bits. -/
def Nums (l : List Int) : Prop := ∀ n ∈ l, 0 ≤ n ∧ n ≤ 18446744073709551615
theorem Nums.at {l : List Int} (h : Nums l) (j : Nat) (hj : j < l.length) : 0 ≤ l[j]?.getD 0 ∧ l[j]?.getD 0 ≤ 18446744073709551615 := by
  rw [List.getElem?_eq_getElem hj]; exact h _ (List.getElem_mem hj)
theorem Nums.take {l : List Int} (h : Nums l) (j : Nat) : Nums (l.take j) := fun n hn => h n (List.mem_of_mem_take hn)

def vsizes : List Int → Nat
  | [] => 0
  | x :: r => vsize x + vsizes r
theorem vwall_length (l : List Int) : (vwall l).length = vsizes l := by
  induction l with
  | nil => rfl
  | cons x r ih => rw [vwall_cons, List.length_append, ih]; rfl
theorem vsizes_append (l m : List Int) : vsizes (l ++ m) = vsizes l + vsizes m := by
  rw [← vwall_length, vwall_append, List.length_append, vwall_length, vwall_length]
theorem vsizes_le {l : List Int} (h : Nums l) : vsizes l ≤ 10 * l.length := by
  induction l with
  | nil => simp [vsizes]
  | cons x r ih =>
    have h1 := ih (fun n hn => h n (by simp [hn]))
    have h2 := vsize_10 (h x (by simp)).2
    simp only [vsizes, List.length_cons]; omega

theorem vwall_bytes {l : List Int} (h : Nums l) : Bytes (vwall l) := by
  induction l with
  | nil => intro c hc; cases hc
  | cons x r ih =>
    rw [vwall_cons]
    exact Bytes.append (vform_bytes x (h x (by simp)).1) (ih (fun n hn => h n (by simp [hn])))

theorem take_snoc (l : List Int) (j : Nat) (hj : j < l.length) : l.take (j + 1) = l.take j ++ [l[j]?.getD 0] := by
  rw [List.take_succ_eq_append_getElem hj, List.getElem?_eq_getElem hj]; rfl

theorem vwall_step (l : List Int) (j : Nat) (hj : j < l.length) : vwall (l.take (j + 1)) = vwall (l.take j) ++ vform (l[j]?.getD 0) := by
  rw [take_snoc l j hj, vwall_append]; simp [vwall]
theorem vsizes_step (l : List Int) (j : Nat) (hj : j < l.length) : vsizes (l.take (j + 1)) = vsizes (l.take j) + vsize (l[j]?.getD 0) := by
  rw [take_snoc l j hj, vsizes_append]; simp [vsizes]

/-- Right forms, and bytes that are no right form behind them. -/
theorem vreads_wrong (l : List Int) (b : List Int) (h : Nums l) (hb : Bytes b) (hne : b ≠ []) (he : (vread b).2.2 ≠ 0) : vreads (vwall l ++ b) = ([], (vread b).2.2) := by
  induction l with
  | nil => exact vreads_err hne he
  | cons x r ih =>
    have hx := h x (by simp)
    have ih := ih (fun n hn => h n (by simp [hn]))
    rw [vwall_cons, List.append_assoc]
    have hv := vread_form x (vwall r ++ b) hx.1 hx.2
    have hB : Bytes (vform x ++ (vwall r ++ b)) := (Bytes.append (vform_bytes x hx.1) (Bytes.append (vwall_bytes fun n hn => h n (by simp [hn])) hb))
    have hne2 : vform x ++ (vwall r ++ b) ≠ [] := by simp [vform_ne x]
    rw [vreads_ok hB hne2 (by rw [hv])]
    have hd : (vform x ++ (vwall r ++ b)).drop (vread (vform x ++ (vwall r ++ b))).2.1 = vwall r ++ b := by
      rw [hv]; exact List.drop_left
    rw [hd, ih, if_neg he]

/-- What is written is read back. -/
theorem vreads_all (l : List Int) (h : Nums l) : vreads (vwall l) = (l, 0) := by
  induction l with
  | nil => rfl
  | cons x r ih =>
    have hx := h x (by simp)
    have ih := ih (fun n hn => h n (by simp [hn]))
    rw [vwall_cons]
    have hv := vread_form x (vwall r) hx.1 hx.2
    have hB : Bytes (vform x ++ vwall r) := Bytes.append (vform_bytes x hx.1) (vwall_bytes fun n hn => h n (by simp [hn]))
    rw [vreads_ok hB (by simp [vform_ne x]) (by rw [hv])]
    have hd : (vform x ++ vwall r).drop (vread (vform x ++ vwall r)).2.1 = vwall r := by rw [hv]; exact List.drop_left
    rw [hd, ih, hv]
    simp

/-- What is read is written as the same bytes; with an error there are no numbers; the numbers fit. -/
theorem vreads_inv (n : Nat) : ∀ b : List Int, b.length ≤ n → Bytes b → ((vreads b).2 = 0 ∧ vwall (vreads b).1 = b ∧ Nums (vreads b).1 ∧ (vreads b).1.length ≤ b.length) ∨ ((vreads b).1 = [] ∧ ((vreads b).2 = 10 ∨ (vreads b).2 = 11 ∨ (vreads b).2 = 12)) := by
  induction n with
  | zero =>
    intro b hb _
    obtain rfl : b = [] := List.eq_nil_of_length_eq_zero (by omega)
    exact .inl ⟨rfl, rfl, (fun n hn => by cases hn), by simp [vreads_nil]⟩
  | succ n ih =>
    intro b hb hB
    by_cases h0 : b = []
    · subst h0; exact .inl ⟨rfl, rfl, (fun n hn => by cases hn), by simp [vreads_nil]⟩
    rcases rdA_err b 0 1 0 with he | ⟨E, hE, he⟩
    · have he' : (vread b).2.2 = 0 := he
      have hp := vread_pos he' hB
      have hvr : vread b = ((vread b).1, (vread b).2.1, 0) := by rw [← he']
      obtain ⟨r, hz0, hz1, hl, hm⟩ := vread_inv hB hvr
      have hd : b.drop (vread b).2.1 = r := by
        have h9 := List.drop_left (l₁ := vform (vread b).1) (l₂ := r)
        rw [← hl] at h9
        rw [hm]
        exact h9
      rw [vreads_ok hB h0 he', hd]
      have hrl : r.length ≤ n := by rw [← hd]; simp; omega
      have hrB : Bytes r := by rw [← hd]; exact hB.drop _
      rcases ih r hrl hrB with ⟨h1, h2, h3, h4⟩ | ⟨h1, h2⟩
      · rw [if_pos h1]
        refine .inl ⟨rfl, ?_, ?_, ?_⟩
        · rw [vwall_cons, h2, ← hl]
        · intro x hx
          rcases List.mem_cons.1 hx with rfl | hx
          · exact ⟨hz0, hz1⟩
          · exact h3 x hx
        · have : r.length + 1 ≤ b.length := by rw [← hd]; simp; omega
          simp; omega
      · rw [if_neg (by omega)]
        exact .inr ⟨rfl, h2⟩
    · have he' : vread b = (0, 0, E) := he
      rw [vreads_err h0 (by rw [he']; simp; omega), he']
      exact .inr ⟨rfl, hE⟩
end Go.Proofs.Ytakpockkagfphaa
