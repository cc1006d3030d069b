/-
  The contracts of the reference's Mul, Div, Gcd, MulMod; for every number of 64 bits. No condition but those in each statement.
-/
import Derived.Test.YtjajojdlgpmpfaaDoorRfc
namespace Go.Proofs.YtjajojdlgpmpfaaDoor
open Go.RowKit Go.Shelf

set_option maxHeartbeats 1000000 in
theorem rmul_any (w : World) (a b : Nat) (ha : a < 18446744073709551616) (hb : b < 18446744073709551616) :
    Calls Tryd.prog 29 #[.int .u64 (a : Int), .int .u64 (b : Int)] w fun e w' => (e = if bl (cm a b) ≤ 64 then .returned (.tuple #[.int .u64 ((cm a b : Nat) : Int), .int .i64 0]) else .returned (.tuple #[.int .u64 0, .int .i64 3])) ∧ Below w.heap.size w w' := by
  have ba := bl_64 ha
  have bb := bl_64 hb
  have bc := bl_cm_le a b
  have HS : ∀ x : Ending, x = (if bl (cm a b) ≤ 64 then .returned (.tuple #[.int .u64 ((cm a b : Nat) : Int), .int .i64 0]) else .returned (.tuple #[.int .u64 0, .int .i64 3])) ↔ ((bl (cm a b) ≤ 64 → x = .returned (.tuple #[.int .u64 ((cm a b : Nat) : Int), .int .i64 0])) ∧ (¬ bl (cm a b) ≤ 64 → x = .returned (.tuple #[.int .u64 0, .int .i64 3]))) := by
    intro x; split <;> simp_all
  simp only [HS]
  clear HS
  go_enter Tryd.func29, Tryd.ntmps29
  go_wp2_with fail
  (with_reducible refine (of_any _ a ha).mono ?_)
  rintro e w1 ⟨a1, c1, rfl, hA, hB1⟩
  go_wp2_with fail
  (with_reducible refine (of_any _ b hb).mono ?_)
  rintro e w2 ⟨a2, c2, rfl, hBp, hB2⟩
  have hb2 := below_step hB1 hB2
  have hA2 := hA.below hB2
  clear hB1 hB2 hA
  go_wp2_with fail
  (with_reducible refine (product_any _ _ _ _ _ _ _ a b hA2 hBp (by omega) (by omega)).mono ?_)
  rintro e w3 ⟨a3, c3, rfl, hC, hB3⟩
  have hb3 := below_step hb2 hB3
  clear hb2 hB3 hA2 hBp
  go_wp2_with fail
  (with_reducible refine (Number_any _ _ _ _ hC (by omega)).mono ?_)
  rintro e w' ⟨⟨v, ok, h1, h2, rfl⟩, rfl⟩
  by_cases hl : bl (cm a b) ≤ 64
  · obtain ⟨rfl, rfl⟩ := h1 hl
    clear h1 h2
    have HL := Lib.hid hl
    clear hl
    go_wp2_with fail
    go_ret2
    exact ⟨⟨fun _ => rfl, fun h => absurd HL.out h⟩, hb3⟩
  · obtain ⟨rfl, rfl⟩ := h2 (by omega)
    clear h1 h2
    have HL := Lib.hid hl
    clear hl
    go_wp2_with fail
    go_ret2
    exact ⟨⟨fun h => absurd h HL.out, fun _ => rfl⟩, hb3⟩

set_option maxHeartbeats 1000000 in
theorem rdiv_any (w : World) (a b : Nat) (ha : a < 18446744073709551616) (hb : b < 18446744073709551616) (hb0 : b ≠ 0) :
    Calls Tryd.prog 30 #[.int .u64 (a : Int), .int .u64 (b : Int)] w fun e w' => e = .returned (.tuple #[.int .u64 ((pq a b : Nat) : Int), .int .u64 ((pm a b : Nat) : Int), .int .i64 0]) ∧ Below w.heap.size w w' := by
  have ba := bl_64 ha
  have bb := bl_64 hb
  have bq := pq_bl a hb0
  have bm := pm_bl a hb0
  have bp := bl_pos hb0
  have hz : ((b : Int) == 0) = false := by simpa using hb0
  go_enter Tryd.func30, Tryd.ntmps30
  go_wp2_with fail
  (with_reducible refine (of_any _ a ha).mono ?_)
  rintro e w1 ⟨a1, c1, rfl, hA, hB1⟩
  go_wp2_with fail
  (with_reducible refine (of_any _ b hb).mono ?_)
  rintro e w2 ⟨a2, c2, rfl, hBp, hB2⟩
  have hb2 := below_step hB1 hB2
  have hA2 := hA.below hB2
  clear hB1 hB2 hA
  go_wp2_with fail
  (with_reducible refine (divide_any _ _ _ _ _ a b hA2 hBp (by omega) hb0 (by omega)).mono ?_)
  rintro e w3 ⟨a3, c3, a4, c4, rfl, hQ, hR, hB3⟩
  have hb3 := below_step hb2 hB3
  clear hb2 hB3 hA2 hBp
  go_wp2_with fail
  (with_reducible refine (number_any _ _ _ _ hQ (by omega)).mono ?_)
  rintro e w' ⟨rfl, rfl⟩
  go_wp2_with fail
  (with_reducible refine (number_any _ _ _ _ hR (by omega)).mono ?_)
  rintro e w' ⟨rfl, rfl⟩
  go_wp2_with fail
  go_ret3
  exact ⟨rfl, hb3⟩

set_option maxHeartbeats 400000 in
theorem rdiv_zero (w : World) (a b : Int) (hz : (b == 0) = true) :
    Calls Tryd.prog 30 #[.int .u64 a, .int .u64 b] w fun e w' => e = .returned (.tuple #[.int .u64 0, .int .u64 0, .int .i64 2]) ∧ w = w' := by
  go_enter Tryd.func30, Tryd.ntmps30
  go_wp2_with fail
  go_ret3
  exact ⟨rfl, rfl⟩

set_option maxHeartbeats 1000000 in
theorem rgcd_all : ∀ (n : Nat) (w : World) (a b : Nat), bl b ≤ n → a < 18446744073709551616 → b < 18446744073709551616 →
    Calls Tryd.prog 32 #[.int .u64 (a : Int), .int .u64 (b : Int)] w fun e w' => e = .returned (.int .u64 ((pg a b : Nat) : Int)) ∧ Below w.heap.size w w' := by
  intro n
  induction n with
  | zero =>
    intro w a b hn ha hb
    have hb0 : b = 0 := bl_eq0.1 (by omega)
    subst hb0
    rw [pg_zero]
    have hz : (((0 : Nat) : Int) == 0) = true := rfl
    clear hn hb
    go_enter Tryd.func32, Tryd.ntmps32
    go_wp2_with fail
    go_ret
    exact ⟨rfl, Below.refl _ _⟩
  | succ n ih =>
    intro w a b hn ha hb
    by_cases hb0 : b = 0
    · subst hb0
      rw [pg_zero]
      have hz : (((0 : Nat) : Int) == 0) = true := rfl
      clear hn hb ih
      go_enter Tryd.func32, Tryd.ntmps32
      go_wp2_with fail
      go_ret
      exact ⟨rfl, Below.refl _ _⟩
    · have ba := bl_64 ha
      have bb := bl_64 hb
      have bm := pm_bl a hb0
      have hz : ((b : Int) == 0) = false := by simpa using hb0
      rw [pg_step a hb0]
      have hi := fun w => ih w b (pm a b) (by omega) hb (pm_lt (k := 64) hb0 hb)
      clear ih
      go_enter Tryd.func32, Tryd.ntmps32
      go_wp2_with fail
      (with_reducible refine (of_any _ a ha).mono ?_)
      rintro e w1 ⟨a1, c1, rfl, hA, hB1⟩
      go_wp2_with fail
      (with_reducible refine (of_any _ b hb).mono ?_)
      rintro e w2 ⟨a2, c2, rfl, hBp, hB2⟩
      have hb2 := below_step hB1 hB2
      have hA2 := hA.below hB2
      clear hB1 hB2 hA
      go_wp2_with fail
      (with_reducible refine (divide_any _ _ _ _ _ a b hA2 hBp (by omega) hb0 (by omega)).mono ?_)
      rintro e w3 ⟨a3, c3, a4, c4, rfl, hQ, hR, hB3⟩
      have hb3 := below_step hb2 hB3
      clear hb2 hB3 hA2 hBp hQ
      go_wp2_with fail
      (with_reducible refine (number_any _ _ _ _ hR (by omega)).mono ?_)
      rintro e w' ⟨rfl, rfl⟩
      go_wp2_with fail
      (with_reducible refine (hi _).mono ?_)
      rintro e w4 ⟨rfl, hB4⟩
      have hb4 := below_step hb3 hB4
      clear hb3 hB4 hR
      go_wp2_with fail
      go_ret
      exact ⟨rfl, hb4⟩

set_option maxHeartbeats 1000000 in
theorem rmulmod_any (w : World) (a b m : Nat) (ha : a < 18446744073709551616) (hb : b < 18446744073709551616) (hm : m < 18446744073709551616) (hm0 : m ≠ 0) :
    Calls Tryd.prog 33 #[.int .u64 (a : Int), .int .u64 (b : Int), .int .u64 (m : Int)] w fun e w' => e = .returned (.tuple #[.int .u64 ((pm (cm a b) m : Nat) : Int), .int .i64 0]) ∧ Below w.heap.size w w' := by
  have ba := bl_64 ha
  have bb := bl_64 hb
  have bmm := bl_64 hm
  have bc := bl_cm_le a b
  have br := pm_bl (cm a b) hm0
  have hz : ((m : Int) == 0) = false := by simpa using hm0
  go_enter Tryd.func33, Tryd.ntmps33
  go_wp2_with fail
  (with_reducible refine (of_any _ a ha).mono ?_)
  rintro e w1 ⟨a1, c1, rfl, hA, hB1⟩
  go_wp2_with fail
  (with_reducible refine (of_any _ b hb).mono ?_)
  rintro e w2 ⟨a2, c2, rfl, hBp, hB2⟩
  have hb2 := below_step hB1 hB2
  have hA2 := hA.below hB2
  clear hB1 hB2 hA
  go_wp2_with fail
  (with_reducible refine (product_any _ _ _ _ _ _ _ a b hA2 hBp (by omega) (by omega)).mono ?_)
  rintro e w3 ⟨a3, c3, rfl, hC, hB3⟩
  have hb3 := below_step hb2 hB3
  clear hb2 hB3 hA2 hBp
  go_wp2_with fail
  (with_reducible refine (of_any _ m hm).mono ?_)
  rintro e w4 ⟨a4, c4, rfl, hM, hB4⟩
  have hb4 := below_step hb3 hB4
  have hC2 := hC.below hB4
  clear hb3 hB4 hC
  go_wp2_with fail
  (with_reducible refine (divide_any _ _ _ _ _ (cm a b) m hC2 hM (by omega) hm0 (by omega)).mono ?_)
  rintro e w5 ⟨a5, c5, a6, c6, rfl, hQ, hR, hB5⟩
  have hb5 := below_step hb4 hB5
  clear hb4 hB5 hC2 hM hQ
  go_wp2_with fail
  (with_reducible refine (number_any _ _ _ _ hR (by omega)).mono ?_)
  rintro e w' ⟨rfl, rfl⟩
  go_wp2_with fail
  go_ret2
  exact ⟨rfl, hb5⟩

set_option maxHeartbeats 400000 in
theorem rmulmod_zero (w : World) (a b m : Int) (hz : (m == 0) = true) :
    Calls Tryd.prog 33 #[.int .u64 a, .int .u64 b, .int .u64 m] w fun e w' => e = .returned (.tuple #[.int .u64 0, .int .i64 2]) ∧ w = w' := by
  go_enter Tryd.func33, Tryd.ntmps33
  go_wp2_with fail
  go_ret2
  exact ⟨rfl, rfl⟩
end Go.Proofs.YtjajojdlgpmpfaaDoor
