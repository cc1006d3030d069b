/-
  The walk of the law on writers. No condition but those in each statement.
-/
import Derived.Test.YtakpockkagfphaaWts
namespace Go.Proofs.Ytakpockkagfphaa
open Go.RowKit Go.Shelf

theorem writes_any (w : World) (lim : Int) (aa : Option Addr) (an ac : Nat) (hA : Acts w aa an ac) :
    Calls Try.prog 13 #[.int .i64 lim, .slice aa an ac] w fun e w' => e = .returned (.bool true) ∧ Below w.heap.size w w' := by
  by_cases hn : 100 < an
  · exact writes_long w lim aa an ac hn
  · by_cases hl : lim < 0 ∨ 16777216 < lim
    · exact writes_arg w lim aa an ac (by omega) hl
    · exact writes_go w lim aa an ac hA (by omega) hl

set_option maxRecDepth 100000 in
set_option maxHeartbeats 1000000 in
theorem cwrites_walk (W : World) (lim : Int) (aa : Option Addr) (an ac : Nat) (_ : (Lit.int .i64 lim).wf = true) (hA : Acts W aa an ac) :
    Calls Try.prog 4 #[.int .i64 lim, .slice aa an ac] W fun e w' => e = .returned (.bool true) ∧ Below W.heap.size W w' := by
  go_enter Try.func4, Try.ntmps4
  go_wp2_with fail
  refine (writes_any W lim aa an ac hA).mono ?_
  rintro e w1 ⟨rfl, hB1⟩
  go_wp2_with fail
  refine (awake_any w1).mono ?_
  rintro e w2 ⟨rfl, hB2⟩
  have hB := step_below hB1 hB2 (Nat.le_refl _)
  go_wp2_with fail
  go_ret
  exact ⟨rfl, hB⟩
end Go.Proofs.Ytakpockkagfphaa
