/-
  The walk of the law VarintZigzag: for every number and any two integers it returns true; nothing that was there is changed.
-/
import Derived.Test.YteddbpcpllehoaaAwake
namespace Go.Proofs.Yteddbpcpllehoaa
open Go.RowKit Go.Shelf

theorem zig_eqB (a b : Int) : (zig a == zig b) = (a == b) := by
  rw [Bool.eq_iff_iff]; simp; constructor
  · intro h; have := congrArg unz h; rwa [unz_zig, unz_zig] at this
  · intro h; rw [h]
theorem zig_odd (a : Int) : (zig a % 2 == 1) = decide (a < 0) := by
  rw [Bool.eq_iff_iff]; simp; unfold zig; split <;> omega

theorem zig_neg {a : Int} (h : a < 0) : zig a = -2 * a - 1 := by unfold zig; rw [if_neg (by omega)]
theorem zig_pos {a : Int} (h : 0 ≤ a) : zig a = 2 * a := by unfold zig; rw [if_pos h]

set_option maxHeartbeats 2000000 in
theorem zigzag_nn (w : World) (x a b : Int) (hx0 : 0 ≤ x) (hx1 : x ≤ 18446744073709551615) (ha0 : -9223372036854775808 ≤ a) (ha1 : a ≤ 9223372036854775807) (hb0 : -9223372036854775808 ≤ b) (hb1 : b ≤ 9223372036854775807) (ha : a < 0) (hb : b < 0) :
    Calls Try.prog 10 #[.int .u64 x, .int .i64 a, .int .i64 b] w fun e w' => e = .returned (.bool true) ∧ Below w.heap.size w w' := by
  have hp := zig_range a ha0 ha1
  have hq := zig_range b hb0 hb1
  have hu := unz_range x hx0 hx1
  have Z1 := Lib.hid (zig_unz x hx0)
  have Z2 := Lib.hid (unz_zig a)
  have e1 := zig_eqB a b
  have e2 : (zig a % 2 == 1) = true := by rw [zig_odd]; simp; omega
  have na : IntKind.u64.wrap (-IntKind.u64.wrap a) = -a := by simp only [IntKind.wrap_u64]; omega
  have nb : IntKind.u64.wrap (-IntKind.u64.wrap b) = -b := by simp only [IntKind.wrap_u64]; omega
  have e3 : (¬ a = b) → decide (b < a) = decide (zig a < zig b) := fun _ => by
    apply decide_eq_decide.2
    rw [zig_neg ha, zig_neg hb]
    omega
  have E3 := Lib.hid e3
  clear e3
  go_enter Try.func10, Try.ntmps10
  go_wp2_with fail
  refine (awake_any w).mono ?_
  rintro e w1 ⟨rfl, hB1⟩
  go_wp2_with fail
  refine (zigzag_any a _ ha0 ha1).mono ?_
  rintro e w2 ⟨rfl, rfl⟩
  go_wp2_with fail
  refine (zigzag_any b _ hb0 hb1).mono ?_
  rintro e w2 ⟨rfl, rfl⟩
  go_wp2_with fail
  refine (unzigzag_any x _ hx0 hx1).mono ?_
  rintro e w2 ⟨rfl, rfl⟩
  go_wp2_with fail
  refine (zigzag_any (unz x) _ hu.1 hu.2).mono ?_
  rintro e w2 ⟨rfl, rfl⟩
  rw [Z1.out]
  go_wp2_with fail
  refine (unzigzag_any (zig a) _ hp.1 hp.2).mono ?_
  rintro e w2 ⟨rfl, rfl⟩
  rw [Z2.out]
  go_wp2_with fail
  · go_ret
    exact ⟨rfl, hB1⟩
  · have h := E3.out (by assumption)
    go_ret
    refine ⟨ret_bool ?_, hB1⟩
    rw [h]
    simp

set_option maxHeartbeats 2000000 in
theorem zigzag_np (w : World) (x a b : Int) (hx0 : 0 ≤ x) (hx1 : x ≤ 18446744073709551615) (ha0 : -9223372036854775808 ≤ a) (ha1 : a ≤ 9223372036854775807) (hb0 : -9223372036854775808 ≤ b) (hb1 : b ≤ 9223372036854775807) (ha : a < 0) (hb : 0 ≤ b) :
    Calls Try.prog 10 #[.int .u64 x, .int .i64 a, .int .i64 b] w fun e w' => e = .returned (.bool true) ∧ Below w.heap.size w w' := by
  have hp := zig_range a ha0 ha1
  have hq := zig_range b hb0 hb1
  have hu := unz_range x hx0 hx1
  have Z1 := Lib.hid (zig_unz x hx0)
  have Z2 := Lib.hid (unz_zig a)
  have e1 := zig_eqB a b
  have e2 : (zig a % 2 == 1) = true := by rw [zig_odd]; simp; omega
  have na : IntKind.u64.wrap (-IntKind.u64.wrap a) = -a := by simp only [IntKind.wrap_u64]; omega
  have e3 : (¬ -a = b) → decide (-a < b) = decide (zig a < zig b) := fun _ => by
    apply decide_eq_decide.2
    rw [zig_neg ha, zig_pos hb]
    omega
  have E3 := Lib.hid e3
  clear e3
  go_enter Try.func10, Try.ntmps10
  go_wp2_with fail
  refine (awake_any w).mono ?_
  rintro e w1 ⟨rfl, hB1⟩
  go_wp2_with fail
  refine (zigzag_any a _ ha0 ha1).mono ?_
  rintro e w2 ⟨rfl, rfl⟩
  go_wp2_with fail
  refine (zigzag_any b _ hb0 hb1).mono ?_
  rintro e w2 ⟨rfl, rfl⟩
  go_wp2_with fail
  refine (unzigzag_any x _ hx0 hx1).mono ?_
  rintro e w2 ⟨rfl, rfl⟩
  go_wp2_with fail
  refine (zigzag_any (unz x) _ hu.1 hu.2).mono ?_
  rintro e w2 ⟨rfl, rfl⟩
  rw [Z1.out]
  go_wp2_with fail
  refine (unzigzag_any (zig a) _ hp.1 hp.2).mono ?_
  rintro e w2 ⟨rfl, rfl⟩
  rw [Z2.out]
  go_wp2_with fail
  · go_ret
    exact ⟨rfl, hB1⟩
  · have h := E3.out (by assumption)
    go_ret
    refine ⟨ret_bool ?_, hB1⟩
    rw [h]
    simp

set_option maxHeartbeats 2000000 in
theorem zigzag_pn (w : World) (x a b : Int) (hx0 : 0 ≤ x) (hx1 : x ≤ 18446744073709551615) (ha0 : -9223372036854775808 ≤ a) (ha1 : a ≤ 9223372036854775807) (hb0 : -9223372036854775808 ≤ b) (hb1 : b ≤ 9223372036854775807) (ha : 0 ≤ a) (hb : b < 0) :
    Calls Try.prog 10 #[.int .u64 x, .int .i64 a, .int .i64 b] w fun e w' => e = .returned (.bool true) ∧ Below w.heap.size w w' := by
  have hp := zig_range a ha0 ha1
  have hq := zig_range b hb0 hb1
  have hu := unz_range x hx0 hx1
  have Z1 := Lib.hid (zig_unz x hx0)
  have Z2 := Lib.hid (unz_zig a)
  have e1 := zig_eqB a b
  have e2 : (zig a % 2 == 1) = false := by rw [zig_odd]; simp; omega
  have nb : IntKind.u64.wrap (-IntKind.u64.wrap b) = -b := by simp only [IntKind.wrap_u64]; omega
  have e3 : (¬ a = -b) → decide (a < -b) = decide (zig a < zig b) := fun _ => by
    apply decide_eq_decide.2
    rw [zig_pos ha, zig_neg hb]
    omega
  have E3 := Lib.hid e3
  clear e3
  go_enter Try.func10, Try.ntmps10
  go_wp2_with fail
  refine (awake_any w).mono ?_
  rintro e w1 ⟨rfl, hB1⟩
  go_wp2_with fail
  refine (zigzag_any a _ ha0 ha1).mono ?_
  rintro e w2 ⟨rfl, rfl⟩
  go_wp2_with fail
  refine (zigzag_any b _ hb0 hb1).mono ?_
  rintro e w2 ⟨rfl, rfl⟩
  go_wp2_with fail
  refine (unzigzag_any x _ hx0 hx1).mono ?_
  rintro e w2 ⟨rfl, rfl⟩
  go_wp2_with fail
  refine (zigzag_any (unz x) _ hu.1 hu.2).mono ?_
  rintro e w2 ⟨rfl, rfl⟩
  rw [Z1.out]
  go_wp2_with fail
  refine (unzigzag_any (zig a) _ hp.1 hp.2).mono ?_
  rintro e w2 ⟨rfl, rfl⟩
  rw [Z2.out]
  go_wp2_with fail
  · go_ret
    exact ⟨rfl, hB1⟩
  · have h := E3.out (by assumption)
    go_ret
    refine ⟨ret_bool ?_, hB1⟩
    rw [h]
    simp

set_option maxHeartbeats 2000000 in
theorem zigzag_pp (w : World) (x a b : Int) (hx0 : 0 ≤ x) (hx1 : x ≤ 18446744073709551615) (ha0 : -9223372036854775808 ≤ a) (ha1 : a ≤ 9223372036854775807) (hb0 : -9223372036854775808 ≤ b) (hb1 : b ≤ 9223372036854775807) (ha : 0 ≤ a) (hb : 0 ≤ b) :
    Calls Try.prog 10 #[.int .u64 x, .int .i64 a, .int .i64 b] w fun e w' => e = .returned (.bool true) ∧ Below w.heap.size w w' := by
  have hp := zig_range a ha0 ha1
  have hq := zig_range b hb0 hb1
  have hu := unz_range x hx0 hx1
  have Z1 := Lib.hid (zig_unz x hx0)
  have Z2 := Lib.hid (unz_zig a)
  have e1 := zig_eqB a b
  have e2 : (zig a % 2 == 1) = false := by rw [zig_odd]; simp; omega
  have e3 : (¬ a = b) → decide (a < b) = decide (zig a < zig b) := fun _ => by
    apply decide_eq_decide.2
    rw [zig_pos ha, zig_pos hb]
    omega
  have E3 := Lib.hid e3
  clear e3
  go_enter Try.func10, Try.ntmps10
  go_wp2_with fail
  refine (awake_any w).mono ?_
  rintro e w1 ⟨rfl, hB1⟩
  go_wp2_with fail
  refine (zigzag_any a _ ha0 ha1).mono ?_
  rintro e w2 ⟨rfl, rfl⟩
  go_wp2_with fail
  refine (zigzag_any b _ hb0 hb1).mono ?_
  rintro e w2 ⟨rfl, rfl⟩
  go_wp2_with fail
  refine (unzigzag_any x _ hx0 hx1).mono ?_
  rintro e w2 ⟨rfl, rfl⟩
  go_wp2_with fail
  refine (zigzag_any (unz x) _ hu.1 hu.2).mono ?_
  rintro e w2 ⟨rfl, rfl⟩
  rw [Z1.out]
  go_wp2_with fail
  refine (unzigzag_any (zig a) _ hp.1 hp.2).mono ?_
  rintro e w2 ⟨rfl, rfl⟩
  rw [Z2.out]
  go_wp2_with fail
  · go_ret
    exact ⟨rfl, hB1⟩
  · have h := E3.out (by assumption)
    go_ret
    refine ⟨ret_bool ?_, hB1⟩
    rw [h]
    simp

theorem zigzag_walk (w : World) (x a b : Int) (wx : (Lit.int .u64 x).wf = true) (wa : (Lit.int .i64 a).wf = true) (wb : (Lit.int .i64 b).wf = true) :
    Calls Try.prog 10 #[.int .u64 x, .int .i64 a, .int .i64 b] w fun e w' => e = .returned (.bool true) ∧ Below w.heap.size w w' := by
  obtain ⟨hx0, hx1⟩ := bounds_u64 wx
  obtain ⟨ha0, ha1⟩ := bounds_i64 wa
  obtain ⟨hb0, hb1⟩ := bounds_i64 wb
  by_cases ha : a < 0
  · by_cases hb : b < 0
    · exact zigzag_nn w x a b hx0 hx1 ha0 ha1 hb0 hb1 ha hb
    · exact zigzag_np w x a b hx0 hx1 ha0 ha1 hb0 hb1 ha (by omega)
  · by_cases hb : b < 0
    · exact zigzag_pn w x a b hx0 hx1 ha0 ha1 hb0 hb1 (by omega) hb
    · exact zigzag_pp w x a b hx0 hx1 ha0 ha1 hb0 hb1 (by omega) (by omega)
end Go.Proofs.Yteddbpcpllehoaa
