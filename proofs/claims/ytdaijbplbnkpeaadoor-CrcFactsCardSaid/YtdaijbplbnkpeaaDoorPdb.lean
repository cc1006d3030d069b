/-
  The contracts of poly's terms and Mul: the iterator yields the degrees of a polynomial's terms, for every loop body; Mul returns the product; for every number of 64 bits.
-/
import Derived.RangeFuncBox
import Derived.RangeFuncLeaves
import Derived.RangeFuncWrites
import Derived.RangeFuncCalls
import Derived.RangeFuncNested
import Derived.Shelf.Abstract
import Derived.WalkKit
import Derived.OwnWalkIn
import Derived.TacticsInMore
import Derived.LoopNIn
import Derived.LoopIn
import Derived.Maps.AppendAt
import Derived.Test.YtdaijbplbnkpeaaDoorPda
import Derived.Test.YtdaijbplbnkpeaaDoorTrm
namespace Go.Proofs.YtdaijbplbnkpeaaDoor
open Go.RowKit Go.Shelf

attribute [local go_sem] Oper.semAt_some

def KpAll (_ _ : World) : Prop := True
/-- The degrees of terms, as an iterator yields them. -/
def termsOf (p : Nat) (l : List (Fin 64)) : Prop := l.map Fin.val = tdeg p

theorem wrapM (n : Nat) (x : Int) (hx : x = (n : Int)) : IntKind.u64.wrap x = ((n % 18446744073709551616 : Nat) : Int) := by
  subst hx; rw [IntKind.wrap_u64]; omega
/-- The sum, as far as 64 bits go. -/
theorem ts_step (a : Nat) (pre : List (Fin 64)) (c : Fin 64) : (ts a (pre.map Fin.val) % 18446744073709551616) ^^^ (a * 2 ^ c.val % 18446744073709551616) = ts a ((pre ++ [c]).map Fin.val) % 18446744073709551616 := by
  have := Nat.xor_mod_two_pow (a := ts a (pre.map Fin.val)) (b := a * 2 ^ c.val) (n := 64)
  rw [List.map_append, List.map_cons, List.map_nil, ts_snoc]
  exact this.symm

end Go.Proofs.YtdaijbplbnkpeaaDoor
