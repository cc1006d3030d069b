/-
  The walk of CrcTells.
-/
import Derived.Test.YtdaijbplbnkpeaaDoorQw7
import Derived.Test.YtdaijbplbnkpeaaDoorQw1
namespace Go.Proofs.YtdaijbplbnkpeaaDoor
open Go.RowKit Go.Shelf

set_option maxHeartbeats 1000000 in
theorem tells_walk (W : World) (hT : Tab W) (a : Option Addr) (len cap : Nat) (l : List Int) (c : Int) (hs : Sl .u8 W a len cap l) (hf : Fits .u8 l) (wc : (Lit.int .u32 c).wf = true) :
    Calls Tryd.prog 3 #[.slice a len cap, .int .u32 c] W fun e w' => e = .returned (.bool true) ∧ Below W.heap.size W w' := by
  have hby := bys_fits hf
  have hc := bounds_u32 wc
  obtain ⟨C, rfl⟩ : ∃ C : Nat, c = (C : Int) := ⟨c.toNat, by omega⟩
  have hlc := hs.2.1
  have hcm := hs.2.2.1
  by_cases h2 : len ≤ 200
  · have hd : decide ((200 : Int) < (len : Int)) = false := by simp; omega
    have q := tells_law W hT C a len cap l (by omega) hs hby (by omega)
    clear wc hs hf hby
    go_enter Tryd.func3, Tryd.ntmps3
    go_wp2_with fail
    refine q.mono ?_
    rintro e w1 ⟨rfl, hB1⟩
    go_wp2_with fail
    refine (awake_any _ (hT.step hB1)).mono ?_
    rintro e w' ⟨rfl, hb3⟩
    go_wp2_with fail
    go_ret
    exact ⟨rfl, below_step hB1 hb3⟩
  · have hd : decide ((200 : Int) < (len : Int)) = true := by simp; omega
    clear wc hs hf hby
    go_enter Tryd.func3, Tryd.ntmps3
    go_wp2_with fail
    refine (awake_any _ hT).mono ?_
    rintro e w' ⟨rfl, hb3⟩
    go_wp2_with fail
    go_ret
    exact ⟨rfl, hb3⟩
end Go.Proofs.YtdaijbplbnkpeaaDoor
