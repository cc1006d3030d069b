/-
  What it is for a slice of integers to read as a list, and the contracts of SameBytes and SameNums: they tell whether two slices read alike, for any two slices; the world stays as it is, but for draws.
-/
import Derived.Test.YtdaijbplbnkpeaaDoorRows
import Derived.Test.YtdaijbplbnkpeaaDoorNum
import Derived.WalkKit
import Derived.WalkSpells
import Derived.WalkLawsBesides
import Derived.Lib.Hide
import Derived.Deep.QuietTactic
import Derived.BigQuiet
namespace Go.Proofs.YtdaijbplbnkpeaaDoor
open Go.RowKit

/-- A slice of integers that reads as the list l. -/
def Sl (k : IntKind) (w : World) (a : Option Addr) (len cap : Nat) (l : List Int) : Prop :=
  l.length = len ∧ len ≤ cap ∧ cap ≤ 9223372036854775807 ∧
  ((len = 0 ∧ cap = 0) ∨ ∃ b off, a = some ⟨b, off, none⟩ ∧ b < w.heap.size ∧ ∀ i, i < len → w.cell? ⟨b, off + i, none⟩ = some (.int k (l[i]?.getD 0)))

theorem Sl.below {k : IntKind} {w w' : World} {a : Option Addr} {len cap : Nat} {l : List Int} (h : Sl k w a len cap l) (hb : Below w.heap.size w w') : Sl k w' a len cap l := by
  obtain ⟨h1, h2, h3, h4⟩ := h
  refine ⟨h1, h2, h3, ?_⟩
  rcases h4 with h4 | ⟨b, off, ha, hlt, hc⟩
  · exact .inl h4
  · exact .inr ⟨b, off, ha, Nat.lt_of_lt_of_le hlt hb.size, fun i hi => (hb.cell (p := ⟨b, off + i, none⟩) hlt).trans (hc i hi)⟩

/-- Whether two lists are one; it is not unfolded. -/
def eqB (l m : List Int) : Bool := decide (l = m)
theorem eqB_yes {l m : List Int} (h : l = m) : eqB l m = true := by unfold eqB; simp [h]
theorem eqB_no {l m : List Int} (h : l ≠ m) : eqB l m = false := by unfold eqB; simp [h]
attribute [irreducible] eqB

/-- An ending with a bool. -/
theorem ret_bool {a b : Bool} (h : a = b) : Ending.returned (.bool a) = .returned (.bool b) := by rw [h]

/-- Draws alone. -/
def Draws (w w' : World) : Prop := ∃ n, w' = w.drewN n

theorem Draws.below {w w' : World} (h : Draws w w') : Below w.heap.size w w' := by
  obtain ⟨n, rfl⟩ := h
  exact below_drewN (Below.refl _ _) n

theorem drewN_add (w : World) (n m : Nat) : (w.drewN n).drewN m = w.drewN (n + m) := by
  simp [World.drewN, Nat.add_assoc]

theorem take_eq_of {l m : List Int} {j : Nat} (h : l.take j = m.take j) (hl : j < l.length) (hm : j < m.length) (he : l[j]?.getD 0 = m[j]?.getD 0) : l.take (j + 1) = m.take (j + 1) := by
  rw [List.take_succ_eq_append_getElem hl, List.take_succ_eq_append_getElem hm, h]
  simp [hl, hm] at he
  rw [he]

theorem take_ne_of {l m : List Int} {j : Nat} (he : l[j]?.getD 0 ≠ m[j]?.getD 0) : l ≠ m := fun h => he (by rw [h])

theorem eq_of_take {l m : List Int} {n : Nat} (hl : l.length = n) (hm : m.length = n) (h : l.take n = m.take n) : l = m := by
  rw [List.take_of_length_le (by omega), List.take_of_length_le (by omega)] at h
  exact h

end Go.Proofs.YtdaijbplbnkpeaaDoor
