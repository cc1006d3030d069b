/-
  The walk of the law that compares texts with the reference. No condition but those in each statement.
-/
import Derived.Test.YtjajojdlgpmpfaaDoorRtb
import Derived.Test.YtjajojdlgpmpfaaDoorPw6
namespace Go.Proofs.YtjajojdlgpmpfaaDoor
open Go.RowKit Go.Shelf

set_option maxRecDepth 100000 in
set_option maxHeartbeats 4000000 in
theorem texts_walk (W : World) (p : Int) (s : ByteArray) (wp : (Lit.int .u64 p).wf = true) :
    Calls Tryd.prog 5 #[.int .u64 p, .string s] W fun e w' => e = .returned (.bool true) ∧ Below W.heap.size W w' := by
  obtain ⟨p, rfl, hp⟩ := nat_u64 wp
  clear wp
  by_cases h5 : 500 < s.size
  · have hd : decide (500 < (s.size : Int)) = true := by simp; omega
    go_enter Tryd.func5, Tryd.ntmps5
    go_wp2_with fail
    refine (awake_any _).mono ?_
    rintro e w7 ⟨rfl, hB7⟩
    go_wp2_with fail
    go_ret
    exact ⟨rfl, hB7⟩
  · have hd : decide (500 < (s.size : Int)) = false := by simp; omega
    obtain ⟨P, E, hPE⟩ : ∃ P E, readR s.data.toList = (P, E) := ⟨_, _, rfl⟩
    obtain ⟨T, hT⟩ := some_text (textT p)
    have c1 := read_as s _ P E rfl hPE
    have c2 := rread_as s _ P E rfl hPE
    have c3 := text_as p T hp hT
    have c4 := rtext_as (p : Int) p T rfl hp hT
    clear hPE hT
    go_enter Tryd.func5, Tryd.ntmps5
    go_wp2_with fail
    refine (c1 _).mono ?_
    rintro e w1 ⟨rfl, rfl⟩
    go_wp2_with fail
    refine (c2 _).mono ?_
    rintro e w2 ⟨rfl, hB2⟩
    go_wp2_with fail
    refine (c3 _).mono ?_
    rintro e w3 ⟨rfl, hB3⟩
    have hb3 := below_step hB2 hB3
    clear hB2 hB3
    go_wp2_with fail
    refine (c4 _).mono ?_
    rintro e w4 ⟨rfl, hB4⟩
    have hb4 := below_step hb3 hB4
    clear hb3 hB4
    go_wp2_with fail
    refine (awake_any _).mono ?_
    rintro e w7 ⟨rfl, hB7⟩
    have hb7 := below_step hb4 hB7
    go_wp2_with fail
    go_ret
    exact ⟨rfl, hb7⟩
end Go.Proofs.YtjajojdlgpmpfaaDoor
