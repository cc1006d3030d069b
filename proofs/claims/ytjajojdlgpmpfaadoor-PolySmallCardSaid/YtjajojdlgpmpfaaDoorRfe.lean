/-
  The contracts of the reference's Power and Reverse; for every number of 64 bits. No condition but those in each statement.
-/
import Derived.Test.YtjajojdlgpmpfaaDoorRfd
namespace Go.Proofs.YtjajojdlgpmpfaaDoor
open Go.RowKit Go.Shelf

theorem cfs_two {n : Nat} (w : World) (h : w.heap[n]? = some (.cells #[.int .i64 0, .int .i64 1] 3 (0, 0))) : Cfs w (some ⟨n, 0, none⟩) 2 2 2 := by
  refine ⟨by simp, Nat.le_refl _, by omega, .inr ⟨n, 0, rfl, (Array.getElem?_eq_some_iff.1 h).1, fun i hi => ?_⟩⟩
  have e : i = 0 ∨ i = 1 := by omega
  rcases e with rfl | rfl
  · simp only [World.cell?]; rw [h]; rfl
  · simp only [World.cell?]; rw [h]; rfl
theorem pow_sq {E t m : Nat} (hm0 : m ≠ 0) (hE : E = pm (2 ^ t) m) : pm (cm E E) m = pm (2 ^ (2 * t)) m := by
  subst hE; rw [pm_cm_left _ _ hm0, pm_cm_right _ _ hm0, pow_cm_pow, Nat.two_mul]
theorem pow_sq2 {E t m : Nat} (hm0 : m ≠ 0) (hE : E = pm (2 ^ t) m) : pm (cm (cm E E) 2) m = pm (2 ^ (2 * t + 1)) m := by
  rw [← pm_cm_left _ _ hm0, pow_sq hm0 hE, pm_cm_left _ _ hm0, cm_two, Nat.pow_succ, Nat.mul_comm]
theorem half_div (n k : Nat) : n / 2 ^ k = 2 * (n / 2 ^ (k + 1)) + n / 2 ^ k % 2 := by
  have : n / 2 ^ (k + 1) = n / 2 ^ k / 2 := by rw [Nat.pow_succ, Nat.div_div_eq_div_mul]
  omega
theorem bit_forms (n k : Nat) (b : Bool) (h : decide (n / 2 ^ k % 2 = 1) = b) : ((n : Int) / 2 ^ k % 2 == 1) = b ∧ (((n : Int) / 2 ^ k).tmod 2 == 1) = b := by
  have e : (n : Int) / 2 ^ k = ((n / 2 ^ k : Nat) : Int) := by rw [Int.natCast_ediv, Int.natCast_pow]; rfl
  have e2 : (n : Int) / 2 ^ k % 2 = ((n / 2 ^ k % 2 : Nat) : Int) := by rw [e]; omega
  have e3 : ((n : Int) / 2 ^ k).tmod 2 = ((n / 2 ^ k % 2 : Nat) : Int) := by rw [Int.tmod_eq_emod_of_nonneg (by rw [e]; exact Int.natCast_nonneg _), e2]
  have hb : ((((n / 2 ^ k % 2 : Nat) : Int)) == 1) = b := by
    rw [← h, Bool.eq_iff_iff]; simp; omega
  rw [e2, e3]
  exact ⟨hb, hb⟩

set_option maxRecDepth 100000 in
set_option maxHeartbeats 2000000 in
theorem rpower_any (w : World) (n m : Nat) (hn : n ≤ 9223372036854775807) (hm : m < 18446744073709551616) (hm0 : m ≠ 0) :
    Calls Tryd.prog 34 #[.int .i64 (n : Int), .int .u64 (m : Int)] w fun e w' => (∃ r : Nat, r = pm (2 ^ n) m ∧ e = .returned (.tuple #[.int .u64 (r : Int), .int .i64 0])) ∧ Below w.heap.size w w' := by
  have bmm := bl_64 hm
  have hz : ((m : Int) == 0) = false := by simpa using hm0
  have hd : decide ((n : Int) < 0) = false := by simp
  obtain ⟨R, hR⟩ : ∃ R, R = pm (2 ^ n) m := ⟨_, rfl⟩
  rw [← hR]
  have HR := Lib.hid hR
  have hB1w := (Below.refl w.heap.size w).alloc (Nat.le_refl _) (.cells #[.int .i64 1] 3)
  have hcone := cfs_one _ (World.alloc_heap_new w (.cells #[.int .i64 1] 3))
  clear hR
  go_enter Tryd.func34, Tryd.ntmps34
  go_wp2_with fail
  (with_reducible refine (of_any _ m hm).mono ?_)
  rintro e w1 ⟨a1, c1, rfl, hM, hB1⟩
  have hb1 : Below w.heap.size w w1 := hB1w.trans (hB1.mono (by simp))
  have hone := hcone.below hB1
  clear hB1 hB1w hcone
  have hdv := divide_any w1 (some ⟨w.heap.size, 0, none⟩) a1 1 c1 1 m (by simpa using hone) hM (by simp) hm0 (by omega)
  rw [bl_one] at hdv
  go_wp2_with fail
  (with_reducible refine hdv.mono ?_)
  rintro e w2 ⟨a2, c2, a3, c3, rfl, hQ, hO, hB2⟩
  have hb2 := below_step hb1 hB2
  clear hb1 hB2 hQ hone hdv hM
  go_wp2_with fail
  go_loopw [7, 8] (fun o i wr => ∃ (j : Nat) (I : Int) (a : Option Addr) (c : Nat), j ≤ 63 ∧ I = (j : Int) - 1 ∧ i = .int .i64 I ∧ o = .slice a (bl (pm (2 ^ (n / 2 ^ j)) m)) c ∧ Cfs wr a (bl (pm (2 ^ (n / 2 ^ j)) m)) c (pm (2 ^ (n / 2 ^ j)) m) ∧ Below w.heap.size w wr) (fun _ i _ => (intOf i + 1).toNat)
  case atStart =>
    have e : n / 2 ^ 63 = 0 := Nat.div_eq_of_lt (by omega)
    exact ⟨63, 62, a3, c3, Nat.le_refl _, rfl, rfl, by rw [e], by rw [e]; exact hO, hb2⟩
  case round =>
    clear hb2 hO
    obtain ⟨j, I, a, c, hj, hI, rfl, rfl, hO, hBl⟩ := hrel
    by_cases hj0 : j = 0
    · subst hj0
      have hI1 : I = -1 := by omega
      subst hI1
      have bO := pm_bl (2 ^ (n / 2 ^ 0)) hm0
      have hE : pm (2 ^ (n / 2 ^ 0)) m = R := by rw [HR.out, Nat.pow_zero, Nat.div_one]
      rw [hE] at hO bO ⊢
      clear hI hE
      go_wp2_with fail
      (with_reducible refine (number_any _ _ _ _ hO (by omega)).mono ?_)
      rintro e w' ⟨rfl, rfl⟩
      go_wp2_with fail
      go_ret2
      exact ⟨⟨R, rfl, rfl⟩, hBl⟩
    · obtain ⟨k, rfl⟩ : ∃ k, j = k + 1 := ⟨j - 1, by omega⟩
      have hIk : I = (k : Int) := by omega
      subst hIk
      obtain ⟨E, hE⟩ : ∃ E, E = pm (2 ^ (n / 2 ^ (k + 1))) m := ⟨_, rfl⟩
      have bE := pm_bl (2 ^ (n / 2 ^ (k + 1))) hm0
      rw [← hE] at bE hO ⊢
      have bEE := bl_cm_le E E
      have hp1 := product_any wr a a (bl E) c (bl E) c E E hO hO (by omega) (by omega)
      have hh := half_div n k
      have cO := hO.2.1
      have cO2 := hO.2.2.1
      by_cases hbit : n / 2 ^ k % 2 = 1
      · obtain ⟨f1, f2⟩ := bit_forms n k true (by simpa using hbit)
        have hst := pow_sq2 hm0 hE
        rw [show 2 * (n / 2 ^ (k + 1)) + 1 = n / 2 ^ k from by omega] at hst
        have bX := bl_cm_le (cm E E) 2
        rw [bl_two] at bX
        have HST := Lib.hid hst
        clear hst hh hbit hE hI
        go_wp2_with fail
        (with_reducible refine hp1.mono ?_)
        rintro e w3 ⟨a3, c3, rfl, hP, hB3⟩
        have hb3 := below_step hBl hB3
        clear hp1 hB3 hBl hO
        have hBx := (Below.refl w3.heap.size w3).alloc (Nat.le_refl _) (.cells #[.int .i64 0, .int .i64 1] 3)
        have hp2 := product_any (w3.alloc (.cells #[.int .i64 0, .int .i64 1] 3)) a3 (some ⟨w3.heap.size, 0, none⟩) (bl (cm E E)) c3 2 2 (cm E E) 2 (hP.below hBx) (cfs_two _ (World.alloc_heap_new w3 _)) (by omega) (by omega)
        go_wp2_with fail
        (with_reducible refine hp2.mono ?_)
        rintro e w4 ⟨a4, c4, rfl, hX, hB4⟩
        have hb4 := below_step hb3 (hBx.trans (hB4.mono (by simp)))
        clear hp2 hB4 hb3 hP hBx
        go_wp2_with fail
        (with_reducible refine (of_any _ m hm).mono ?_)
        rintro e w5 ⟨a5, c5, rfl, hM, hB5⟩
        have hb5 := below_step hb4 hB5
        have hX5 := hX.below hB5
        clear hb4 hB5 hX
        go_wp2_with fail
        (with_reducible refine (divide_any _ _ _ _ _ _ m hX5 hM (by omega) hm0 (by omega)).mono ?_)
        rintro e w6 ⟨a6, c6, a7, c7, rfl, hQ, hO6, hB6⟩
        have hb6 := below_step hb5 hB6
        clear hb5 hB6 hX5 hM hQ
        go_wp2_with fail
        go_roundw
        case rel => exact ⟨k, (k : Int) - 1, a7, c7, by omega, rfl, rfl, by rw [← HST.out], by rw [← HST.out]; exact hO6, hb6⟩
        case measure => simp [intOf]
      · obtain ⟨f1, f2⟩ := bit_forms n k false (by simpa using hbit)
        have hst := pow_sq hm0 hE
        rw [show 2 * (n / 2 ^ (k + 1)) = n / 2 ^ k from by omega] at hst
        have HST := Lib.hid hst
        clear hst hh hbit hE hI
        go_wp2_with fail
        (with_reducible refine hp1.mono ?_)
        rintro e w3 ⟨a3, c3, rfl, hP, hB3⟩
        have hb3 := below_step hBl hB3
        clear hp1 hB3 hBl hO
        go_wp2_with fail
        (with_reducible refine (of_any _ m hm).mono ?_)
        rintro e w5 ⟨a5, c5, rfl, hM, hB5⟩
        have hb5 := below_step hb3 hB5
        have hX5 := hP.below hB5
        clear hb3 hB5 hP
        go_wp2_with fail
        (with_reducible refine (divide_any _ _ _ _ _ _ m hX5 hM (by omega) hm0 (by omega)).mono ?_)
        rintro e w6 ⟨a6, c6, a7, c7, rfl, hQ, hO6, hB6⟩
        have hb6 := below_step hb5 hB6
        clear hb5 hB6 hX5 hM hQ
        go_wp2_with fail
        go_roundw
        case rel => exact ⟨k, (k : Int) - 1, a7, c7, by omega, rfl, rfl, by rw [← HST.out], by rw [← HST.out]; exact hO6, hb6⟩
        case measure => simp [intOf]

set_option maxHeartbeats 400000 in
theorem rpower_zero (n m : Int) (w : World) (hz : (m == 0) = true) :
    Calls Tryd.prog 34 #[.int .i64 n, .int .u64 m] w fun e w' => e = .returned (.tuple #[.int .u64 0, .int .i64 2]) ∧ w = w' := by
  go_enter Tryd.func34, Tryd.ntmps34
  go_wp2_with fail
  go_ret2
  exact ⟨rfl, rfl⟩
set_option maxHeartbeats 400000 in
theorem rpower_neg (n m : Int) (w : World) (hz : (m == 0) = false) (hd : decide (n < 0) = true) :
    Calls Tryd.prog 34 #[.int .i64 n, .int .u64 m] w fun e w' => e = .returned (.tuple #[.int .u64 0, .int .i64 2]) ∧ w = w' := by
  go_enter Tryd.func34, Tryd.ntmps34
  go_wp2_with fail
  go_ret2
  exact ⟨rfl, rfl⟩

set_option maxHeartbeats 1000000 in
theorem rreverse_any (p n : Nat) (w : World) (hn : n ≤ 64) :
    Calls Tryd.prog 35 #[.int .u64 (p : Int), .int .i64 (n : Int)] w fun e w' => e = .returned (.tuple #[.int .u64 ((rvn p n : Nat) : Int), .int .i64 0]) ∧ w = w' := by
  have hd1 : decide ((n : Int) < 0) = false := by simp
  have hd2 : decide (64 < (n : Int)) = false := by simp; omega
  obtain ⟨R, hR⟩ : ∃ R, R = rvn p n := ⟨_, rfl⟩
  have hRl : R < 2 ^ n := by rw [hR]; exact rvn_lt p n
  have HB := Lib.hid (fun k (hk : k < n) => (by rw [hR, rvn_bit]; simp [hk] : R.testBit k = p.testBit (n - 1 - k)))
  rw [← hR]
  clear hR
  go_enter Tryd.func35, Tryd.ntmps35
  go_wp2_with fail
  go_loop [6, 7] (fun o i => ∃ k : Nat, k ≤ n ∧ i = .int .i64 (k : Int) ∧ o = .int .u64 ((R % 2 ^ k : Nat) : Int)) (fun _ i => n - (intOf i).toNat)
  case atStart => exact ⟨0, by omega, rfl, by simp [Nat.mod_one]⟩
  case round =>
    obtain ⟨k, hk, rfl, rfl⟩ := hrel
    obtain ⟨m, hm⟩ : ∃ m, m = R % 2 ^ k := ⟨_, rfl⟩
    by_cases hlt : k < n
    · have hd : decide (k < n) = true := by simp; omega
      obtain ⟨j, hj⟩ : ∃ j : Nat, (n : Int) - 1 - (k : Int) = (j : Int) := Int.eq_ofNat_of_zero_le (by omega)
      have hjk : n - 1 - k = j := by omega
      have hbR := HB.out k hlt
      rw [hjk] at hbR
      have hml : m < 2 ^ k := by rw [hm]; exact Nat.mod_lt _ (Nat.two_pow_pos k)
      have hpk : 2 ^ k ≤ 2 ^ 63 := Nat.pow_le_pow_right (by omega) (by omega)
      rw [← hm]
      by_cases h1 : R.testBit k = true
      · have hst := num_add h1
        rw [← hm] at hst
        have hjb : p / 2 ^ j % 2 = 1 := by
          rw [h1, Nat.testBit_eq_decide_div_mod_eq] at hbR; simpa using hbR.symm
        obtain ⟨f1, f2⟩ := bit_forms p j true (by simpa using hjb)
        have l2 : 2 ^ k < 18446744073709551616 := by omega
        have w2 := wrapN _ l2 ((2 : Int) ^ k) (by push_cast; rfl)
        have HST := Lib.hid hst
        have W2 := Lib.hid w2
        have HSM := Lib.hid (by omega : m + 2 ^ k < 18446744073709551616)
        clear hst h1 hm hpk hml l2 w2 hbR hjb
        go_wp2_with fail
        go_round
        case rel => exact ⟨k + 1, hlt, by go_num, by rw [W2.out, HST.out, ← Int.natCast_add, wrapN _ HSM.out _ rfl]⟩
        case measure => simp [intOf]; omega
      · have h1f : R.testBit k = false := by simpa using h1
        have hst := num_same h1f
        rw [← hm] at hst
        have hjb : ¬ p / 2 ^ j % 2 = 1 := by
          rw [h1f, Nat.testBit_eq_decide_div_mod_eq] at hbR; simpa using hbR.symm
        obtain ⟨f1, f2⟩ := bit_forms p j false (by simpa using hjb)
        have HST := Lib.hid hst
        clear hst h1 h1f hm hpk hml hbR hjb
        go_wp2_with fail
        go_round
        case rel => exact ⟨k + 1, hlt, by go_num, by rw [HST.out]⟩
        case measure => simp [intOf]; omega
    · have hke : k = n := by omega
      have hd : decide (k < n) = false := by simp; omega
      have hmp : m = R := by rw [hm, hke]; exact Nat.mod_eq_of_lt hRl
      rw [← hm]
      have HMP := Lib.hid hmp
      clear hm hke hmp hRl
      go_wp2_with fail
      go_ret2
      exact ⟨by rw [← HMP.out]; rfl, rfl⟩

set_option maxHeartbeats 400000 in
theorem rreverse_neg (p n : Int) (w : World) (hd : decide (n < 0) = true) :
    Calls Tryd.prog 35 #[.int .u64 p, .int .i64 n] w fun e w' => e = .returned (.tuple #[.int .u64 0, .int .i64 2]) ∧ w = w' := by
  go_enter Tryd.func35, Tryd.ntmps35
  go_wp2_with fail
  go_ret2
  exact ⟨rfl, rfl⟩
set_option maxHeartbeats 400000 in
theorem rreverse_big (p n : Int) (w : World) (hd : decide (n < 0) = false) (hd2 : decide (64 < n) = true) :
    Calls Tryd.prog 35 #[.int .u64 p, .int .i64 n] w fun e w' => e = .returned (.tuple #[.int .u64 0, .int .i64 2]) ∧ w = w' := by
  go_enter Tryd.func35, Tryd.ntmps35
  go_wp2_with fail
  go_ret2
  exact ⟨rfl, rfl⟩
end Go.Proofs.YtjajojdlgpmpfaaDoor
