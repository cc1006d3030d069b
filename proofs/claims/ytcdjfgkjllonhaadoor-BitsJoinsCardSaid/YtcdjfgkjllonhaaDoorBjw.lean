/-
  The walk of BitsJoins.
-/
import Derived.Test.YtcdjfgkjllonhaaDoorBj
namespace Go.Proofs.YtcdjfgkjllonhaaDoor
open Go.RowKit Go.Shelf

set_option maxRecDepth 100000 in
set_option maxHeartbeats 2000000 in
theorem bitsJoins_walk (w : World) (hT : Tbz w) (N : Int) (a : Option Addr) (len cap : Nat) (l : List Int) (M : Int) (a2 : Option Addr) (len2 cap2 : Nat) (l2 : List Int) (hz : (Lit.int .i64 N).wf = true) (hs : Sl .u64 w a len cap l) (hf : Fits .u64 l) (hz2 : (Lit.int .i64 M).wf = true) (hs2 : Sl .u64 w a2 len2 cap2 l2) (hf2 : Fits .u64 l2) :
    Calls Tryd.prog 5 #[.agg #[.int .i64 N, .slice a len cap], .agg #[.int .i64 M, .slice a2 len2 cap2]] w fun e w' => e = .returned (.bool true) ∧ Below w.heap.size w w' := by
  obtain ⟨x0, x1⟩ := bounds_i64 hz
  obtain ⟨y0, y1⟩ := bounds_i64 hz2
  have s1 : SetIn w N a len cap l := ⟨hs, Wds.of_fits hf, x0, x1, hT⟩
  have s2 : SetIn w M a2 len2 cap2 l2 := ⟨hs2, Wds.of_fits hf2, y0, y1, hT⟩
  obtain ⟨hB0, hTa, hTb⟩ := boxes2j w (.int .i64 N) (.slice a len cap) (.int .i64 M) (.slice a2 len2 cap2)
  have a0 := hTa.c0
  have a1 := hTa.c1
  have b0 := hTb.c0
  have b1 := hTb.c1
  clear hz hz2 hs hs2 hf hf2
  go_enter Tryd.func5, Tryd.ntmps5
  go_wp2_with fail
  refine (joins_any _ (hT.step hB0) N M a a2 len len2 cap cap2 l l2 (s1.below hB0) (s2.below hB0)).mono ?_
  rintro e v ⟨rfl, hD⟩
  have hB1 := bstep hB0 hD
  clear a0 a1 b0 b1 hTa hTb hD
  go_wp2_with fail
  refine (awake_any _ (hT.step hB1)).mono ?_
  rintro e v2 ⟨rfl, hD2⟩
  have hB2 := bstep hB1 hD2
  go_wp2_with fail
  go_ret
  exact ⟨rfl, hB2⟩
end Go.Proofs.YtcdjfgkjllonhaaDoor
