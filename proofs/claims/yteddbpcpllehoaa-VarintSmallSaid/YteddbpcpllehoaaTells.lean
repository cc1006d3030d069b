/-
  The walk of the law VarintTells: for every number and every integer it returns true; nothing that was there is changed.
-/
import Derived.Test.YteddbpcpllehoaaAwake
namespace Go.Proofs.Yteddbpcpllehoaa
open Go.RowKit Go.Shelf

set_option maxHeartbeats 2000000 in
theorem tells_any (w : World) (x n : Int) (hx0 : 0 ≤ x) (hx1 : x ≤ 18446744073709551615) (hn0 : -9223372036854775808 ≤ n) (hn1 : n ≤ 9223372036854775807) :
    Calls Try.prog 12 #[.int .u64 x, .int .i64 n] w fun e w' => e = .returned (.bool true) ∧ Below w.heap.size w w' := by
  go_enter Try.func12, Try.ntmps12
  go_wp2_with fail
  refine (size_any x _ hx0 hx1).mono ?_
  rintro e w1 ⟨rfl, rfl⟩
  go_wp2_with fail
  refine (rsize_any x _ hx0 hx1).mono ?_
  rintro e w1 ⟨rfl, rfl⟩
  go_wp2_with fail
  refine (write_any x w hx0 hx1).mono ?_
  rintro e w1 ⟨a1, cap1, rfl, hown1, hB1⟩
  go_wp2_with fail
  refine (rwrite_any x w1 hx0 hx1).mono ?_
  rintro e w2 ⟨a2, cap2, rfl, hown2, hB2⟩
  have s1 := (own_sl hown1).below hB2
  have s2 := own_sl hown2
  have hB := hB1.trans (hB2.mono hB1.size)
  clear hown1 hown2 hB1 hB2
  go_wp2_with fail
  refine (sameBytes_yes w2 _ _ _ _ _ _ _ _ s1 s2 rfl).mono ?_
  rintro e w3 ⟨rfl, hD⟩
  have hB3 := hB.trans (hD.below.mono hB.size)
  clear s1 s2 hB hD
  go_wp2_with fail
  refine (zigzag_any n w3 hn0 hn1).mono ?_
  rintro e w4 ⟨rfl, rfl⟩
  go_wp2_with fail
  refine (rzigzag_any n w3 hn0 hn1).mono ?_
  rintro e w4 ⟨rfl, rfl⟩
  go_wp2_with fail
  refine (unzigzag_any x w3 hx0 hx1).mono ?_
  rintro e w4 ⟨rfl, rfl⟩
  go_wp2_with fail
  refine (runzigzag_any x w3 hx0 hx1).mono ?_
  rintro e w4 ⟨rfl, rfl⟩
  go_wp2_with fail
  go_ret
  exact ⟨rfl, hB3⟩

set_option maxHeartbeats 1000000 in
theorem tells_walk (w : World) (x n : Int) (wx : (Lit.int .u64 x).wf = true) (wn : (Lit.int .i64 n).wf = true) :
    Calls Try.prog 3 #[.int .u64 x, .int .i64 n] w fun e w' => e = .returned (.bool true) ∧ Below w.heap.size w w' := by
  obtain ⟨hx0, hx1⟩ := bounds_u64 wx
  obtain ⟨hn0, hn1⟩ := bounds_i64 wn
  clear wx wn
  go_enter Try.func3, Try.ntmps3
  go_wp2_with fail
  refine (tells_any w x n hx0 hx1 hn0 hn1).mono ?_
  rintro e w1 ⟨rfl, hB1⟩
  go_wp2_with fail
  refine (awake_any w1).mono ?_
  rintro e w2 ⟨rfl, hB2⟩
  have hB := hB1.trans (hB2.mono hB1.size)
  clear hB1 hB2
  go_wp2_with fail
  go_ret
  exact ⟨rfl, hB⟩
end Go.Proofs.Yteddbpcpllehoaa
