/-
  Find's answer to too few and to too many bytes.
-/
import Derived.Test.YtdaijbplbnkpeaaDoorFne
namespace Go.Proofs.YtdaijbplbnkpeaaDoor
open Go.RowKit Go.Shelf

attribute [local go_sem] Oper.semAt_some

set_option maxHeartbeats 1000000 in
theorem find_few (a : Option Addr) (n cap : Nat) (w : World) (h : n < 4 ∨ 65536 < n) (hc : n ≤ 9223372036854775807) :
    Calls Tryd.prog 20 #[.slice a n cap] w fun e w' => e = .returned (.tuple #[.int .i64 0, .int .i64 2]) ∧ w' = w := by
  refine (callsIn_wide (n := 3)).1 ?_
  rcases Nat.lt_or_ge n 4 with h4 | h4
  · have hd1 : decide ((n : Int) < 4) = true := by simp; omega
    refine callsIn_of_wp_marks Tryd.func20 rfl trivial ?_ rfl
    simp only [Tryd.ntmps20, List.size_toArray, List.length_cons, List.length_nil, Nat.reduceAdd, Nat.reduceSub, Array.replicate_succ, Array.replicate_zero, List.push_toArray, List.append_toArray, List.nil_append, List.cons_append]
    gi_wp2_with (apply wpIn_scope_wide)
    exact ⟨_, results_tmp2 rfl _ _ _, rfl, rfl⟩
  · have hd1 : decide ((n : Int) < 4) = false := by simp; omega
    have hd2 : decide ((65536 : Int) < (n : Int)) = true := by simp; omega
    refine callsIn_of_wp_marks Tryd.func20 rfl trivial ?_ rfl
    simp only [Tryd.ntmps20, List.size_toArray, List.length_cons, List.length_nil, Nat.reduceAdd, Nat.reduceSub, Array.replicate_succ, Array.replicate_zero, List.push_toArray, List.append_toArray, List.nil_append, List.cons_append]
    gi_wp2_with (apply wpIn_scope_wide)
    exact ⟨_, results_tmp2 rfl _ _ _, rfl, rfl⟩

end Go.Proofs.YtdaijbplbnkpeaaDoor
