/-
  The walk of the law on what is rejected. No condition but those in each statement.
-/
import Derived.Test.YtjajojdlgpmpfaaDoorPaw
namespace Go.Proofs.YtjajojdlgpmpfaaDoor
open Go.RowKit Go.Shelf

theorem wrong_cells (A : Nat) (W : World) (h : 22 ≤ bl A) (h64 : A < 18446744073709551616) : ∀ i, i < 4 → ∃ m : Nat, m < 18446744073709551616 ∧ (bl m ≤ 1 ∨ 22 ≤ bl m) ∧
    (W.alloc (.cells #[.int .u64 0, .int .u64 1, .int .u64 (A : Int), .int .u64 9223372036854775808] 22)).cell? ⟨W.heap.size, i, none⟩ = some (.int .u64 (m : Int)) := by
  intro i hi
  have hn := World.alloc_heap_new W (.cells #[.int .u64 0, .int .u64 1, .int .u64 (A : Int), .int .u64 9223372036854775808] 22)
  have e : i = 0 ∨ i = 1 ∨ i = 2 ∨ i = 3 := by omega
  rcases e with rfl | rfl | rfl | rfl
  · exact ⟨0, by omega, .inl (by simp), by simp only [World.cell?]; rw [hn]; rfl⟩
  · exact ⟨1, by omega, .inl (by simp), by simp only [World.cell?]; rw [hn]; rfl⟩
  · exact ⟨A, h64, .inr h, by simp only [World.cell?]; rw [hn]; rfl⟩
  · exact ⟨9223372036854775808, by omega, .inr (by decide +kernel), by simp only [World.cell?]; rw [hn]; rfl⟩

set_option maxRecDepth 100000 in
set_option maxHeartbeats 2000000 in
theorem wrong_walk (W : World) (a b n : Int) (wa : (Lit.int .u64 a).wf = true) (wb : (Lit.int .u64 b).wf = true) (wn : (Lit.int .i64 n).wf = true) :
    Calls Tryd.prog 12 #[.int .u64 a, .int .u64 b, .int .i64 n] W fun e w' => e = .returned (.bool true) ∧ Below W.heap.size W w' := by
  obtain ⟨a, rfl, ha⟩ := nat_u64 wa
  obtain ⟨b, rfl, hb⟩ := nat_u64 wb
  obtain ⟨hn0, hn1⟩ := bounds_i64 wn
  have hm1 : (max (a : Int) 1 == 0) = false := by simp; omega
  have hmin : decide (min n (-1) < 0) = true := by simp; omega
  have hor := or_u64 a 2097152 ha (by omega) _ 2097152 rfl rfl
  obtain ⟨A, hA⟩ : ∃ A, A = a ||| 2097152 := ⟨_, rfl⟩
  have hA22 : 22 ≤ bl A := by rw [hA]; exact lt_bl.2 (by have := Nat.right_le_or (n := a) (m := 2097152); omega)
  have hA64 : A < 18446744073709551616 := by rw [hA]; exact Nat.or_lt_two_pow (n := 64) ha (by omega)
  rw [← hA] at hor
  clear hA
  obtain ⟨E, hEq⟩ : ∃ E, E = 2 + a % 262144 * 2 := ⟨_, rfl⟩
  have hEe : E % 2 = 0 := by omega
  have hE2 : 2 ≤ bl E := bl_ge2.2 (by omega)
  have hE21 : bl E ≤ 21 := bl_le.2 (by omega)
  have hEi : 2 + (a : Int) % 262144 * 2 = (E : Int) := by omega
  have HEI := Lib.hid hEi
  have hom := or_u64 a 1099511627776 ha (by omega) _ 1099511627776 rfl rfl
  have hon := or_u64 b 16777216 hb (by omega) _ 16777216 rfl rfl
  obtain ⟨M, hM⟩ : ∃ M, M = a ||| 1099511627776 := ⟨_, rfl⟩
  obtain ⟨N, hN⟩ : ∃ N, N = b ||| 16777216 := ⟨_, rfl⟩
  have hM41 : 41 ≤ bl M := by rw [hM]; exact lt_bl.2 (by have := Nat.right_le_or (n := a) (m := 1099511627776); omega)
  have hN25 : 25 ≤ bl N := by rw [hN]; exact lt_bl.2 (by have := Nat.right_le_or (n := b) (m := 16777216); omega)
  have hM64 : M < 18446744073709551616 := by rw [hM]; exact Nat.or_lt_two_pow (n := 64) ha (by omega)
  have hN64 : N < 18446744073709551616 := by rw [hN]; exact Nat.or_lt_two_pow (n := 64) hb (by omega)
  have hMN : 65 < bl M + bl N := by omega
  rw [← hM] at hom
  rw [← hN] at hon
  have hx0 : decide (max n 65 < 0) = false := by simp; omega
  have hx64 : decide (64 < max n 65) = true := by simp; omega
  clear hM hN
  have HC := Lib.hid (wrong_cells A W hA22 hA64)
  clear hEq hEi
  clear wa wb wn
  go_enter Tryd.func12, Tryd.ntmps12
  go_wp2_with fail
  refine (div_zero _ 0 _ rfl).mono ?_
  rintro e w' ⟨rfl, rfl⟩
  go_wp2_with fail
  refine (MulMod_zero _ _ 0 _ rfl).mono ?_
  rintro e w' ⟨rfl, rfl⟩
  go_wp2_with fail
  refine (power_zero _ 0 _ rfl).mono ?_
  rintro e w' ⟨rfl, rfl⟩
  go_wp2_with fail
  refine (power_neg _ _ _ hm1 hmin).mono ?_
  rintro e w' ⟨rfl, rfl⟩
  go_wp2_with fail
  go_loop [87] (fun I => ∃ i : Nat, i ≤ 4 ∧ I = .int .i64 (i : Int)) (fun I => 4 - (intOf I).toNat)
  case atStart => exact ⟨0, by omega, rfl⟩
  case round =>
    obtain ⟨i, hi, rfl⟩ := hrel
    by_cases hlt : i < 4
    · have hd : decide ((i : Int) < 4) = true := by simp; omega
      obtain ⟨m, hm64, hmb, hcell⟩ := HC.out i hlt
      go_wp2_with fail
      refine (order_arg m _ hm64 hmb).mono ?_
      rintro e w' ⟨rfl, rfl⟩
      go_wp2_with fail
      go_round
      case rel => exact ⟨i + 1, by omega, by go_num⟩
      case measure => simp [intOf]; omega
    · have hd : decide ((i : Int) < 4) = false := by simp; omega
      have hi4 : i = 4 := by omega
      clear hlt hi
      go_wp2_with fail
      rw [HEI.out]
      refine (order_none E _ hE2 hE21 hEe).mono ?_
      rintro e w' ⟨rfl, rfl⟩
      go_wp2_with fail
      refine (mul_long _ _ M N _ rfl rfl hM64 hN64 hMN).mono ?_
      rintro e w2 ⟨rfl, hB⟩
      go_wp2_with fail
      refine (reverse_neg _ _ _ hmin).mono ?_
      rintro e w' ⟨rfl, rfl⟩
      go_wp2_with fail
      refine (reverse_big _ _ _ hx0 hx64).mono ?_
      rintro e w' ⟨rfl, rfl⟩
      go_wp2_with fail
      refine (awake_any _).mono ?_
      rintro e w3 ⟨rfl, hB3⟩
      have hb3 := below_step hB hB3
      go_wp2_with fail
      go_ret
      exact ⟨rfl, ((Below.refl _ W).alloc (Nat.le_refl _) _).trans (hb3.mono (by simp))⟩
end Go.Proofs.YtjajojdlgpmpfaaDoor
