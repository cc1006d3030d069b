/-
  Plain facts on the texts of polynomials over two elements. No program is named here; there are no conditions but those in each statement.
-/
import Derived.Lib.ItoaNum
import Derived.Lib.Join
import Derived.Lib.Strings
import Derived.Test.YtdaijbplbnkpeaaDoorTrm
namespace Go.Proofs.YtdaijbplbnkpeaaDoor

/-- The text of a term. -/
def termT (i : Nat) : List UInt8 := if i = 0 then [49] else if i = 1 then [120] else 120 :: 94 :: Lib.decDigits i
/-- The text of a polynomial. -/
def textT (p : Nat) : List UInt8 := if p = 0 then [48] else Lib.join ((tdeg p).map termT) [43]
theorem termT_zero : termT 0 = [49] := rfl
theorem termT_one : termT 1 = [120] := rfl
theorem termT_big {i : Nat} (h : 2 ≤ i) : termT i = 120 :: 94 :: Lib.decDigits i := by
  unfold termT; rw [if_neg (by omega), if_neg (by omega)]
theorem termT_len {i : Nat} (h : i < 64) : (termT i).length ≤ 4 := by
  have hh : ∀ j : Fin 64, (termT j.val).length ≤ 4 := by decide +kernel
  exact hh ⟨i, h⟩
theorem join_len (l : List Nat) (h : ∀ i ∈ l, i < 64) : (Lib.joinTail [43] (l.map termT)).length ≤ 5 * l.length := by
  induction l with
  | nil => simp [Lib.joinTail]
  | cons i l ih =>
    have h1 := ih fun j hj => h j (List.mem_cons_of_mem _ hj)
    have h2 := termT_len (h i (List.mem_cons_self ..))
    simp only [Lib.joinTail, List.map_cons, List.flatten_cons, List.length_append, List.length_cons, List.length_nil] at h1 ⊢
    omega
theorem textT_len {p : Nat} (h : p < 18446744073709551616) : (textT p).length ≤ 320 := by
  unfold textT
  split
  · simp
  · rename_i h0
    have hb : bl p ≤ 64 := bl_le.2 (by simpa using h)
    have hlt : ∀ i ∈ tdeg p, i < 64 := fun i hi => by have := tdeg_lt p i hi; omega
    have hl := tdeg_len p
    rw [tdeg_cons h0] at hlt hl ⊢
    rw [List.map_cons, Lib.join_cons, List.length_append]
    have h1 := termT_len (hlt _ (List.mem_cons_self ..))
    have h2 := join_len _ (fun j hj => hlt j (List.mem_cons_of_mem _ hj))
    simp only [List.length_cons] at hl
    omega
end Go.Proofs.YtdaijbplbnkpeaaDoor
