/-
  Plain facts on checksums: the exclusive or of bytes, bytes 0 before and behind others, parts put together. No program is named here; the conditions are those in each statement.
-/
import Derived.Test.YtdaijbplbnkpeaaDoorHst
namespace Go.Proofs.YtdaijbplbnkpeaaDoor

/-- The exclusive or of two lists of bytes. -/
def xl (a b : List Int) : List Int := List.zipWith (fun x y => ((x.toNat ^^^ y.toNat : Nat) : Int)) a b
theorem xl_len {a b : List Int} (h : a.length = b.length) : (xl a b).length = a.length := by unfold xl; simp [h]
theorem xl_bys {a b : List Int} (ha : Bys a) (hb : Bys b) : Bys (xl a b) := by
  induction a generalizing b with
  | nil => exact Bys.nil
  | cons x a ih => cases b with
    | nil => exact Bys.nil
    | cons y b =>
      have hx := ha.head
      have hy := hb.head
      have : x.toNat ^^^ y.toNat < 256 := Nat.xor_lt_two_pow (n := 8) (by omega) (by omega)
      exact Bys.cons (show (0 : Int) ≤ ((x.toNat ^^^ y.toNat : Nat) : Int) ∧ ((x.toNat ^^^ y.toNat : Nat) : Int) < 256 by omega) (ih ha.tail hb.tail)
theorem fol_xl (a : List Int) : ∀ (b : List Int) (c d : Nat), a.length = b.length → fol (c ^^^ d) (xl a b) = fol c a ^^^ fol d b := by
  induction a with
  | nil => intro b c d h; cases b with
    | nil => rfl
    | cons y b => simp at h
  | cons x a ih => intro b c d h; cases b with
    | nil => simp at h
    | cons y b =>
      have e : xl (x :: a) (y :: b) = ((x.toNat ^^^ y.toNat : Nat) : Int) :: xl a b := rfl
      rw [e, fol_cons, fol_cons, fol_cons, Int.toNat_natCast, xor_ex, hn_xor, ih _ _ _ (by simpa using h)]
theorem lin_xl {a b : List Int} (h : a.length = b.length) : fol 0 (xl a b) = fol 0 a ^^^ fol 0 b := by
  have := fol_xl a b 0 0 h; simpa using this
theorem upd_xl {a b : List Int} (h : a.length = b.length) : upd 0 a ^^^ upd 0 b = fol 0 (xl a b) := by
  have := fol_xl a b 4294967295 4294967295 h
  rw [Nat.xor_self] at this
  unfold upd
  rw [Nat.xor_zero, this, xor_ex, Nat.xor_self, Nat.zero_xor]
theorem fol_zeros (k : Nat) (l : List Int) : fol 0 (List.replicate k 0 ++ l) = fol 0 l := by rw [fol_append, fol_rep, hn_zero]
theorem fol_shift (k : Nat) (l : List Int) : fol 0 (l ++ List.replicate k 0) = hn (8 * k) (fol 0 l) := by rw [fol_append, fol_rep]
/-- How far the list has been made. -/
theorem xl_step {a b : List Int} {n j : Nat} (hn : n ≤ a.length) (hn2 : n ≤ b.length) (hj : j < n) (u : Int) (hu : u = (((a[j]?.getD 0).toNat ^^^ (b[j]?.getD 0).toNat : Nat) : Int)) :
    (xl (a.take j) (b.take j) ++ List.replicate (n - j) 0).set j u = xl (a.take (j + 1)) (b.take (j + 1)) ++ List.replicate (n - (j + 1)) 0 := by
  have hl : (xl (a.take j) (b.take j)).length = j := by rw [xl_len (by simp; omega)]; simp; omega
  have e1 : xl (a.take (j + 1)) (b.take (j + 1)) = xl (a.take j) (b.take j) ++ [u] := by
    rw [List.take_succ_eq_append_getElem (by omega : j < a.length), List.take_succ_eq_append_getElem (by omega : j < b.length)]
    unfold xl
    rw [List.zipWith_append (by simp; omega)]
    rw [hu, List.getElem?_eq_getElem (by omega : j < a.length), List.getElem?_eq_getElem (by omega : j < b.length)]
    rfl
  rw [e1, List.set_append_right _ _ (by omega), hl, Nat.sub_self, show n - j = (n - (j + 1)) + 1 from by omega, List.replicate_succ, List.set_cons_zero, List.append_assoc]
  rfl
/-- The checksum of two parts, put together. -/
theorem join_eq (a b : List Int) : hn (8 * b.length) (upd 0 a) ^^^ upd 0 b = upd 0 (a ++ b) := by
  rw [upd_append, upd_eq (upd 0 a) b]
theorem join_three (a b c : List Int) : hn (8 * (b.length + c.length)) (upd 0 a) ^^^ upd 0 (b ++ c) = upd 0 (a ++ b ++ c) := by
  rw [← List.length_append, join_eq, List.append_assoc]
theorem hn_two (m n c : Nat) : hn (8 * n) (hn (8 * m) c) = hn (8 * (m + n)) c := by rw [← hn_add, Nat.mul_add]
end Go.Proofs.YtdaijbplbnkpeaaDoor
