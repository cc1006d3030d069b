/-
  The walk of the law that compares with the reference. No condition but those in each statement.
-/
import Derived.Test.YtjajojdlgpmpfaaDoorRfe
namespace Go.Proofs.YtjajojdlgpmpfaaDoor
open Go.RowKit Go.Shelf

/-- A call that hands back two numbers, whatever the world. -/
def Two (f : FuncId) (args : Array Value) (x e : Int) : Prop := ∀ w : World, Calls Tryd.prog f args w fun en w' => en = .returned (.tuple #[.int .u64 x, .int .i64 e]) ∧ Below w.heap.size w w'
def Three (f : FuncId) (args : Array Value) (x y e : Int) : Prop := ∀ w : World, Calls Tryd.prog f args w fun en w' => en = .returned (.tuple #[.int .u64 x, .int .u64 y, .int .i64 e]) ∧ Below w.heap.size w w'
theorem below_of_eq {f : FuncId} {args : Array Value} {v : Value} {w : World} (h : Calls Tryd.prog f args w fun en w' => en = .returned v ∧ w = w') : Calls Tryd.prog f args w fun en w' => en = .returned v ∧ Below w.heap.size w w' := by
  refine h.mono ?_
  rintro e w' ⟨rfl, rfl⟩
  exact ⟨rfl, Below.refl _ _⟩

theorem mul_pair (a b : Nat) (ha : a < 18446744073709551616) (hb : b < 18446744073709551616) : ∃ x e : Int, 0 ≤ e ∧ e ≤ 100 ∧ Two 20 #[.int .u64 (a : Int), .int .u64 (b : Int)] x e ∧ Two 29 #[.int .u64 (a : Int), .int .u64 (b : Int)] x e := by
  have hbc : bl a + bl b ≤ 65 ↔ bl (cm a b) ≤ 64 := by
    have ba := bl_64 ha
    have bb := bl_64 hb
    by_cases h1 : a = 0
    · subst h1; simp; omega
    · by_cases h2 : b = 0
      · subst h2; simp; omega
      · have := (bl_cm h1 h2).1; have := bl_pos h1; have := bl_pos h2; omega
  by_cases h : bl a + bl b ≤ 65
  · refine ⟨((cm a b : Nat) : Int), 0, by omega, by omega, fun w => mul_any a b a b w rfl rfl ha hb h, fun w => (rmul_any w a b ha hb).mono ?_⟩
    rintro e w' ⟨h1, h2⟩
    rw [if_pos (hbc.1 h)] at h1
    exact ⟨h1, h2⟩
  · refine ⟨0, 3, by omega, by omega, fun w => mul_long a b a b w rfl rfl ha hb (by omega), fun w => (rmul_any w a b ha hb).mono ?_⟩
    rintro e w' ⟨h1, h2⟩
    rw [if_neg (fun hh => h (hbc.2 hh))] at h1
    exact ⟨h1, h2⟩
theorem div_pair (a b : Nat) (ha : a < 18446744073709551616) (hb : b < 18446744073709551616) : ∃ x y e : Int, 0 ≤ e ∧ e ≤ 100 ∧ Three 22 #[.int .u64 (a : Int), .int .u64 (b : Int)] x y e ∧ Three 30 #[.int .u64 (a : Int), .int .u64 (b : Int)] x y e := by
  by_cases h : b = 0
  · subst h
    exact ⟨0, 0, 2, by omega, by omega, fun w => below_of_eq (div_zero _ _ w rfl), fun w => below_of_eq (rdiv_zero w _ _ rfl)⟩
  · exact ⟨_, _, 0, by omega, by omega, fun w => below_of_eq (div_any a a b w rfl ha hb h), fun w => rdiv_any w a b ha hb h⟩
theorem mulmod_pair (a b m : Nat) (ha : a < 18446744073709551616) (hb : b < 18446744073709551616) (hm : m < 18446744073709551616) : ∃ x e : Int, 0 ≤ e ∧ e ≤ 100 ∧ Two 21 #[.int .u64 (a : Int), .int .u64 (b : Int), .int .u64 (m : Int)] x e ∧ Two 33 #[.int .u64 (a : Int), .int .u64 (b : Int), .int .u64 (m : Int)] x e := by
  by_cases h : m = 0
  · subst h
    exact ⟨0, 2, by omega, by omega, fun w => below_of_eq (MulMod_zero _ _ _ w rfl), fun w => below_of_eq (rmulmod_zero w _ _ _ rfl)⟩
  · exact ⟨_, 0, by omega, by omega, fun w => below_of_eq (MulMod_any a b a b m w rfl rfl ha hb hm h), fun w => rmulmod_any w a b m ha hb hm h⟩
theorem power_pair (n : Int) (m : Nat) (hn : n ≤ 9223372036854775807) (hm : m < 18446744073709551616) : ∃ x e : Int, 0 ≤ e ∧ e ≤ 100 ∧ Two 25 #[.int .i64 n, .int .u64 (m : Int)] x e ∧ Two 34 #[.int .i64 n, .int .u64 (m : Int)] x e := by
  by_cases h : m = 0
  · subst h
    exact ⟨0, 2, by omega, by omega, fun w => below_of_eq (power_zero _ _ w rfl), fun w => below_of_eq (rpower_zero _ _ w rfl)⟩
  · have hz : ((m : Int) == 0) = false := by simpa using h
    by_cases h0 : n < 0
    · have hd : decide (n < 0) = true := by simpa using h0
      exact ⟨0, 2, by omega, by omega, fun w => below_of_eq (power_neg _ _ w hz hd), fun w => below_of_eq (rpower_neg _ _ w hz hd)⟩
    · obtain ⟨k, rfl⟩ := Int.eq_ofNat_of_zero_le (by omega : 0 ≤ n)
      refine ⟨((pm (2 ^ k) m : Nat) : Int), 0, by omega, by omega, fun w => (power_any k m w (by omega) hm h).mono ?_, fun w => (rpower_any w k m (by omega) hm h).mono ?_⟩
      · rintro e w' ⟨⟨r, rfl, rfl⟩, hB⟩
        exact ⟨rfl, hB⟩
      · rintro e w' ⟨⟨r, rfl, rfl⟩, hB⟩
        exact ⟨rfl, hB⟩
theorem reverse_pair (p : Nat) (n : Int) (hp : p < 18446744073709551616) : ∃ x e : Int, 0 ≤ e ∧ e ≤ 100 ∧ Two 28 #[.int .u64 (p : Int), .int .i64 n] x e ∧ Two 35 #[.int .u64 (p : Int), .int .i64 n] x e := by
  by_cases h0 : n < 0
  · have hd : decide (n < 0) = true := by simpa using h0
    exact ⟨0, 2, by omega, by omega, fun w => below_of_eq (reverse_neg _ _ w hd), fun w => below_of_eq (rreverse_neg _ _ w hd)⟩
  · have hd : decide (n < 0) = false := by simpa using h0
    by_cases h1 : 64 < n
    · have hd2 : decide (64 < n) = true := by simpa using h1
      exact ⟨0, 2, by omega, by omega, fun w => below_of_eq (reverse_big _ _ w hd hd2), fun w => below_of_eq (rreverse_big _ _ w hd hd2)⟩
    · obtain ⟨k, rfl⟩ := Int.eq_ofNat_of_zero_le (by omega : 0 ≤ n)
      exact ⟨_, 0, by omega, by omega, fun w => below_of_eq (reverse_any p k w hp (by omega)), fun w => below_of_eq (rreverse_any p k w (by omega))⟩

set_option maxRecDepth 100000 in
set_option maxHeartbeats 4000000 in
theorem tells_any (W : World) (a b m : Nat) (n : Int) (ha : a < 18446744073709551616) (hb : b < 18446744073709551616) (hm : m < 18446744073709551616) (hn1 : n ≤ 9223372036854775807) :
    Calls Tryd.prog 13 #[.int .u64 (a : Int), .int .u64 (b : Int), .int .u64 (m : Int), .int .i64 n] W fun e w' => e = .returned (.bool true) ∧ Below W.heap.size W w' := by
  obtain ⟨x1, e1, f1, g1, p1, r1⟩ := mul_pair a b ha hb
  obtain ⟨x2, y2, e2, f2, g2, p2, r2⟩ := div_pair a b ha hb
  obtain ⟨x3, e3, f3, g3, p3, r3⟩ := mulmod_pair a b m ha hb hm
  obtain ⟨x4, e4, f4, g4, p4, r4⟩ := power_pair n m hn1 hm
  obtain ⟨x5, e5, f5, g5, p5, r5⟩ := reverse_pair a n ha
  have ba := bl_64 ha
  unfold Two at p1 r1 p3 r3 p4 r4 p5 r5
  unfold Three at p2 r2
  have HB : Below W.heap.size W W := Below.refl _ _
  go_enter Tryd.func13, Tryd.ntmps13
  go_wp2_with fail
  (with_reducible refine (p1 _).mono ?_)
  rintro e w1 ⟨rfl, hB⟩
  have w1b := below_step HB hB
  clear hB HB
  go_wp2_with fail
  (with_reducible refine (r1 _).mono ?_)
  rintro e w2 ⟨rfl, hB⟩
  have w2b := below_step w1b hB
  clear hB w1b
  go_wp2_with fail
  (with_reducible refine (p2 _).mono ?_)
  rintro e w3 ⟨rfl, hB⟩
  have w3b := below_step w2b hB
  clear hB w2b
  go_wp2_with fail
  (with_reducible refine (r2 _).mono ?_)
  rintro e w4 ⟨rfl, hB⟩
  have w4b := below_step w3b hB
  clear hB w3b
  go_wp2_with fail
  (with_reducible refine (degree_any _ a _ rfl ha).mono ?_)
  rintro e w' ⟨rfl, rfl⟩
  go_wp2_with fail
  (with_reducible refine (of_any _ a ha).mono ?_)
  rintro e w5 ⟨a1, c1, rfl, hA, hB⟩
  have w5b := below_step w4b hB
  clear hB w4b hA
  go_wp2_with fail
  (with_reducible refine (gcd_any _ _ a b _ rfl rfl ha hb).mono ?_)
  rintro e w' ⟨rfl, rfl⟩
  go_wp2_with fail
  (with_reducible refine (rgcd_all _ _ a b (Nat.le_refl _) ha hb).mono ?_)
  rintro e w6 ⟨rfl, hB⟩
  have w6b := below_step w5b hB
  clear hB w5b
  go_wp2_with fail
  (with_reducible refine (p3 _).mono ?_)
  rintro e w7 ⟨rfl, hB⟩
  have w7b := below_step w6b hB
  clear hB w6b
  go_wp2_with fail
  (with_reducible refine (r3 _).mono ?_)
  rintro e w8 ⟨rfl, hB⟩
  have w8b := below_step w7b hB
  clear hB w7b
  go_wp2_with fail
  (with_reducible refine (p4 _).mono ?_)
  rintro e w9 ⟨rfl, hB⟩
  have w9b := below_step w8b hB
  clear hB w8b
  go_wp2_with fail
  (with_reducible refine (r4 _).mono ?_)
  rintro e wa ⟨rfl, hB⟩
  have wab := below_step w9b hB
  clear hB w9b
  go_wp2_with fail
  (with_reducible refine (p5 _).mono ?_)
  rintro e wb ⟨rfl, hB⟩
  have wbb := below_step wab hB
  clear hB wab
  go_wp2_with fail
  (with_reducible refine (r5 _).mono ?_)
  rintro e wc ⟨rfl, hB⟩
  have wcb := below_step wbb hB
  clear hB wbb
  go_wp2_with fail
  go_ret
  exact ⟨rfl, wcb⟩

set_option maxHeartbeats 1000000 in
theorem tells_walk (W : World) (a b m n : Int) (wa : (Lit.int .u64 a).wf = true) (wb : (Lit.int .u64 b).wf = true) (wm : (Lit.int .u64 m).wf = true) (wn : (Lit.int .i64 n).wf = true) :
    Calls Tryd.prog 3 #[.int .u64 a, .int .u64 b, .int .u64 m, .int .i64 n] W fun e w' => e = .returned (.bool true) ∧ Below W.heap.size W w' := by
  obtain ⟨a, rfl, ha⟩ := nat_u64 wa
  obtain ⟨b, rfl, hb⟩ := nat_u64 wb
  obtain ⟨m, rfl, hm⟩ := nat_u64 wm
  obtain ⟨n0, n1⟩ := bounds_i64 wn
  clear wa wb wm wn
  go_enter Tryd.func3, Tryd.ntmps3
  go_wp2_with fail
  (with_reducible refine (tells_any _ a b m n ha hb hm n1).mono ?_)
  rintro e w1 ⟨rfl, hB1⟩
  go_wp2_with fail
  (with_reducible refine (awake_any _).mono ?_)
  rintro e w2 ⟨rfl, hB2⟩
  have hb2 := below_step hB1 hB2
  go_wp2_with fail
  go_ret
  exact ⟨rfl, hb2⟩
end Go.Proofs.YtjajojdlgpmpfaaDoor
