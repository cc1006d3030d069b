/-
  The walk of the law CrcShifts. Where the table of the halves lies as the program's text lays it.
-/
import Derived.Test.YtdaijbplbnkpeaaDoorQaw
import Derived.Test.YtdaijbplbnkpeaaDoorRgb
namespace Go.Proofs.YtdaijbplbnkpeaaDoor
open Go.RowKit Go.Shelf

theorem nat_u32 {n : Int} (h : (Lit.int .u32 n).wf = true) : ∃ m : Nat, n = (m : Int) ∧ m < 4294967296 := by
  have := bounds_u32 h
  exact ⟨n.toNat, by omega, by omega⟩
set_option maxRecDepth 100000 in
set_option maxHeartbeats 1000000 in
theorem shifts_ok (c d n : Nat) (w : World) (hc : c < 4294967296) (hd : d < 4294967296) (hn' : n ≤ 16777216) :
    Calls Tryd.prog 17 #[.int .u32 (c : Int), .int .u32 (d : Int), .int .i64 (n : Int)] w fun e w' => e = .returned (.bool true) ∧ Below w.heap.size w w' := by
  have q1 := fun w => shift_any c n w hc hn'
  have q2 := fun w => rshift_any c n w hc hn'
  have q3 := fun w => join_any c d n w hc hd hn'
  have hx := bits32_xor (hn (8 * n) c) d (hn_lt _ hc) hd _ _ rfl rfl
  obtain ⟨x, hxe⟩ : ∃ x, x = hn (8 * n) c := ⟨_, rfl⟩
  rw [← hxe] at hx
  simp only [← hxe] at q1 q2 q3
  obtain ⟨z, hz⟩ : ∃ z, z = x ^^^ d := ⟨_, rfl⟩
  rw [← hz] at hx
  simp only [← hz] at q3
  clear hxe hz
  go_enter Tryd.func17, Tryd.ntmps17
  go_wp2_with fail
  refine (q1 _).mono ?_
  rintro e w1 ⟨rfl, hB1⟩
  go_wp2_with fail
  refine (q2 _).mono ?_
  rintro e w2 ⟨rfl, hb⟩
  have hB2 := below_step hB1 hb
  clear hb hB1
  go_wp2_with fail
  refine (q3 _).mono ?_
  rintro e w3 ⟨rfl, hb⟩
  have hB3 := below_step hB2 hb
  clear hb hB2
  go_wp2_with fail
  go_ret
  exact ⟨rfl, hB3⟩
set_option maxRecDepth 100000 in
set_option maxHeartbeats 1000000 in
theorem shifts_no (c d n : Int) (w : World) (h : n < 0 ∨ 16777216 < n) :
    Calls Tryd.prog 17 #[.int .u32 c, .int .u32 d, .int .i64 n] w fun e w' => e = .returned (.bool true) ∧ w = w' := by
  have q1 := fun w => shift_no c n w h
  have q2 := fun w => rshift_no c n w h
  have q3 := fun w => join_no c d n w h
  clear h
  go_enter Tryd.func17, Tryd.ntmps17
  go_wp2_with fail
  refine (q1 _).mono ?_
  rintro e w1 ⟨rfl, rfl⟩
  go_wp2_with fail
  refine (q2 _).mono ?_
  rintro e w2 ⟨rfl, rfl⟩
  go_wp2_with fail
  refine (q3 _).mono ?_
  rintro e w3 ⟨rfl, rfl⟩
  go_wp2_with fail
  go_ret
  exact ⟨rfl, rfl⟩
set_option maxRecDepth 100000 in
set_option maxHeartbeats 1000000 in
theorem shifts_walk (W : World) (hT : Tab W) (a b n : Int) (wa : (Lit.int .u32 a).wf = true) (wb : (Lit.int .u32 b).wf = true) (wn : (Lit.int .i64 n).wf = true) :
    Calls Tryd.prog 4 #[.int .u32 a, .int .u32 b, .int .i64 n] W fun e w' => e = .returned (.bool true) ∧ Below W.heap.size W w' := by
  obtain ⟨c, rfl, hc⟩ := nat_u32 wa
  obtain ⟨d, rfl, hd⟩ := nat_u32 wb
  have hn3 := bounds_i64 wn
  clear wn wa wb hn3
  by_cases h4 : 400 < n
  · have e1 : decide (400 < n) = true := by simpa using h4
    by_cases h5 : n ≤ 16777216
    · have e2 : decide (n ≤ 16777216) = true := by simpa using h5
      go_enter Tryd.func4, Tryd.ntmps4
      go_wp2_with fail
      refine (awake_any _ hT).mono ?_
      rintro e w' ⟨rfl, hb⟩
      go_wp2_with fail
      go_ret
      exact ⟨rfl, hb⟩
    · have e2 : decide (n ≤ 16777216) = false := by simpa using h5
      have q := fun w => shifts_no c d n w (by omega)
      go_enter Tryd.func4, Tryd.ntmps4
      go_wp2_with fail
      refine (q _).mono ?_
      rintro e w1 ⟨rfl, rfl⟩
      go_wp2_with fail
      refine (awake_any _ hT).mono ?_
      rintro e w' ⟨rfl, hb⟩
      go_wp2_with fail
      go_ret
      exact ⟨rfl, hb⟩
  · have e1 : decide (400 < n) = false := by simpa using h4
    by_cases h0 : n < 0
    · have q := fun w => shifts_no c d n w (by omega)
      go_enter Tryd.func4, Tryd.ntmps4
      go_wp2_with fail
      refine (q _).mono ?_
      rintro e w1 ⟨rfl, rfl⟩
      go_wp2_with fail
      refine (awake_any _ hT).mono ?_
      rintro e w' ⟨rfl, hb⟩
      go_wp2_with fail
      go_ret
      exact ⟨rfl, hb⟩
    · obtain ⟨m, rfl⟩ : ∃ m : Nat, n = (m : Int) := ⟨n.toNat, by omega⟩
      have q := fun w => shifts_ok c d m w hc hd (by omega)
      go_enter Tryd.func4, Tryd.ntmps4
      go_wp2_with fail
      refine (q _).mono ?_
      rintro e w1 ⟨rfl, hb1⟩
      go_wp2_with fail
      refine (awake_any _ (hT.step hb1)).mono ?_
      rintro e w' ⟨rfl, hb⟩
      go_wp2_with fail
      go_ret
      exact ⟨rfl, below_step hb1 hb⟩
end Go.Proofs.YtdaijbplbnkpeaaDoor
