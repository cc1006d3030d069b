/-
  The walk of BitsTells.
-/
import Derived.Test.YtcdjfgkjllonhaaDoorBt
namespace Go.Proofs.YtcdjfgkjllonhaaDoor
open Go.RowKit Go.Shelf

set_option maxRecDepth 100000 in
set_option maxHeartbeats 2000000 in
theorem bitsTells_walk (w : World) (hT : Tbz w) (N : Int) (a : Option Addr) (len cap : Nat) (l : List Int) (i : Int) (hz : (Lit.int .i64 N).wf = true) (hs : Sl .u64 w a len cap l) (hf : Fits .u64 l) (hi : (Lit.int .i64 i).wf = true) :
    Calls Tryd.prog 3 #[.agg #[.int .i64 N, .slice a len cap], .int .i64 i] w fun e w' => e = .returned (.bool true) ∧ Below w.heap.size w w' := by
  obtain ⟨x0, x1⟩ := bounds_i64 hz
  obtain ⟨i0, i1⟩ := bounds_i64 hi
  have s1 : SetIn w N a len cap l := ⟨hs, Wds.of_fits hf, x0, x1, hT⟩
  obtain ⟨hB0, hTa⟩ := box1 w (.int .i64 N) (.slice a len cap)
  have a0 := hTa.c0
  have a1 := hTa.c1
  clear hz hs hf hi
  go_enter Tryd.func3, Tryd.ntmps3
  go_wp2_with fail
  refine (tells_any _ (hT.step hB0) N i a len cap l (s1.below hB0) i0 i1).mono ?_
  rintro e v ⟨rfl, hD⟩
  have hB1 := bstep hB0 hD
  clear a0 a1 hTa hD
  go_wp2_with fail
  refine (awake_any _ (hT.step hB1)).mono ?_
  rintro e v2 ⟨rfl, hD2⟩
  have hB2 := bstep hB1 hD2
  go_wp2_with fail
  go_ret
  exact ⟨rfl, hB2⟩
end Go.Proofs.YtcdjfgkjllonhaaDoor
