/-
  The walk of the law on powers and orders. No condition but those in each statement.
-/
import Derived.Test.YtjajojdlgpmpfaaDoorPw4
namespace Go.Proofs.YtjajojdlgpmpfaaDoor
open Go.RowKit Go.Shelf

theorem power_as (x z : Int) (n m : Nat) (r : Int) (hx : x = (n : Int)) (hz : z = (m : Int)) (hn : n ≤ 9223372036854775807) (hm : m < 18446744073709551616) (hm0 : m ≠ 0) (hr : ((pm (2 ^ n) m : Nat) : Int) = r) (w : World) :
    Calls Tryd.prog 25 #[.int .i64 x, .int .u64 z] w fun e w' => e = .returned (.tuple #[.int .u64 r, .int .i64 0]) ∧ Below w.heap.size w w' := by
  subst hx hz
  refine (power_any n m w hn hm hm0).mono ?_
  rintro e w' ⟨⟨b, hb, rfl⟩, hB⟩
  exact ⟨by rw [← hr, hb], hB⟩
theorem order_as (z : Int) (m k : Nat) (hz : z = (m : Int)) (h1 : 2 ≤ bl m) (h2 : bl m ≤ 21) (ho : m % 2 = 1) (hk : IsOrd m k) (hk2 : k ≤ 2 ^ (bl m - 1)) (w : World) :
    Calls Tryd.prog 26 #[.int .u64 z] w fun e w' => e = .returned (.tuple #[.int .i64 (k : Int), .int .i64 0]) ∧ w = w' := by
  subst hz; exact order_any m k w h1 h2 ho hk hk2

theorem bl_cases {n : Nat} (h : 2 ≤ n) (h2 : n ≤ 15) : n = 2 ∨ n = 3 ∨ n = 4 ∨ n = 5 ∨ n = 6 ∨ n = 7 ∨ n = 8 ∨ n = 9 ∨ n = 10 ∨ n = 11 ∨ n = 12 ∨ n = 13 ∨ n = 14 ∨ n = 15 := by omega
theorem dvd_emod {N q : Nat} (h : N ∣ q) : (((q : Nat) : Int) % (N : Int) == 0) = true := by rw [← Int.natCast_emod, Nat.mod_eq_zero_of_dvd h]; rfl
/-- What a divisor of the order gives. -/
theorem pow_round_facts {S N p : Nat} (hN : IsOrd S N) (hone : pm 1 S = 1) (hN14 : N ≤ 16384) (hp : 2 ≤ p) (hle : p ≤ N) :
    (0 ≤ (N : Int) / (p : Int) ∧ (N : Int) / (p : Int) ≤ 16384) ∧ (N : Int) / (p : Int) = ((N / p : Nat) : Int) ∧ N / p ≤ 9223372036854775807 ∧ pm (2 ^ (N / p)) S ≠ 1 := by
  have h1 := Nat.div_le_self N p
  refine ⟨⟨by rw [← Int.natCast_ediv]; exact Int.natCast_nonneg _, by rw [← Int.natCast_ediv]; exact Int.ofNat_le.2 (Nat.le_trans h1 hN14)⟩, by rw [Int.natCast_ediv], by omega, fun h => ?_⟩
  exact hN.2.2 _ (Nat.div_pos hle (by omega)) (Nat.div_lt_self (by omega) (by omega)) (by rw [h, hone])
theorem pow_mod0 {N p : Nat} (h : N % p = 0) : decide (0 < (N : Int) % (p : Int)) = false := by rw [← Int.natCast_emod, h]; rfl
theorem pow_mod1 {N p : Nat} (h : N % p ≠ 0) : decide (0 < (N : Int) % (p : Int)) = true := by rw [← Int.natCast_emod]; simp; omega
theorem pow_meas {N p : Nat} (h : p ≤ N) : N + 1 - (intOf (Value.int .i64 ((p : Int) + 1))).toNat < N + 1 - (intOf (Value.int .i64 (p : Int))).toNat := by simp [intOf]; omega
theorem dec_le {a b : Nat} (h : a ≤ b) : decide (a ≤ b) = true := by simpa using h
theorem dec_gt {a b : Nat} (h : ¬ a ≤ b) : decide (a ≤ b) = false := by simpa using h
theorem vne {V : Nat} (h : V ≠ 1) : ((V : Int) == 1) = false := by simp; omega

set_option maxRecDepth 100000 in
set_option maxHeartbeats 4000000 in
theorem powers_one (W : World) (m n k t : Nat) (hm : m < 18446744073709551616) (n1 : (n : Int) ≤ 4294967295) (k1 : (k : Int) ≤ 4294967295) (s1 : (t : Int) ≤ 65535) (h1 : t % 32768 ||| 1 = 1) :
    Calls Tryd.prog 9 #[.int .u64 (m : Int), .int .u32 (n : Int), .int .u32 (k : Int), .int .u16 (t : Int)] W fun e w' => e = .returned (.bool true) ∧ Below W.heap.size W w' := by
  obtain ⟨M, hM⟩ : ∃ M, M = max m 1 := ⟨_, rfl⟩
  have iM : max (m : Int) 1 = (M : Int) := by omega
  have lM : M < 18446744073709551616 := by omega
  have hM0 : M ≠ 0 := by omega
  have lA := pm_lt (a := 2 ^ n) (k := 64) hM0 lM
  have lB := pm_lt (a := 2 ^ k) (k := 64) hM0 lM
  have c1 := power_as (n : Int) (max (m : Int) 1) n M _ rfl iM (by omega) lM hM0 rfl
  have c2 := power_as (k : Int) (max (m : Int) 1) k M _ rfl iM (by omega) lM hM0 rfl
  have c3 := power_as ((n : Int) + (k : Int)) (max (m : Int) 1) (n + k) M _ (by omega) iM (by omega) lM hM0 rfl
  have c4 := MulMod_as _ _ (max (m : Int) 1) (pm (2 ^ n) M) (pm (2 ^ k) M) M (pm (2 ^ (n + k)) M) rfl rfl iM lA lB lM hM0 (by rw [pm_cm_left _ _ hM0, pm_cm_right _ _ hM0, pow_cm_pow])
  obtain ⟨A, eA⟩ : ∃ A, A = pm (2 ^ n) M := ⟨_, rfl⟩
  obtain ⟨B, eB⟩ : ∃ B, B = pm (2 ^ k) M := ⟨_, rfl⟩
  obtain ⟨C, eC⟩ : ∃ C, C = pm (2 ^ (n + k)) M := ⟨_, rfl⟩
  simp only [← eA] at c1 c4
  simp only [← eB] at c2 c4
  simp only [← eC] at c3 c4
  clear eA eB eC lA lB iM hM hM0 lM
  -- the small polynomial
  have hor := or_u64 (t % 32768) 1 (by omega) (by omega) ((t : Int) % 32768) 1 (by omega) rfl
  obtain ⟨S0, hS0⟩ : ∃ S0, S0 = t % 32768 ||| 1 := ⟨_, rfl⟩
  rw [← hS0] at hor
  have l15 : S0 < 2 ^ 15 := by rw [hS0]; exact Nat.or_lt_two_pow (by omega) (by omega)
  have odd0 : S0 % 2 = 1 := by rw [hS0]; exact Nat.or_mod_two_eq_one.2 (.inr rfl)
  rw [← hS0] at h1
  clear hS0
  obtain ⟨S, x, hx, hS, odd, lS15, hxx⟩ : ∃ (S : Nat) (x : Int), x = (S : Int) ∧ 3 ≤ S ∧ S % 2 = 1 ∧ S < 2 ^ 15 ∧ x = 3 := ⟨3, 3, rfl, by omega, by omega, by omega, rfl⟩
  have bS : bl S ≤ 15 := bl_le.2 lS15
  have bS2 : 2 ≤ bl S := bl_ge2.2 (by omega)
  have lS : S < 18446744073709551616 := by omega
  have hS0' : S ≠ 0 := by omega
  obtain ⟨N, hN, hNl⟩ := ord_some bS2 odd
  have hN1 := hN.1
  have hN14 : N ≤ 16384 := by
    have : 2 ^ (bl S - 1) ≤ 2 ^ 14 := Nat.pow_le_pow_right (by omega) (by omega)
    omega
  have hone := pm_one_big bS2
  have d1 := order_as x S N hx bS2 (by omega) odd hN hNl
  have d2 := power_as 0 x 0 S 1 rfl hx (by omega) lS hS0' (by rw [Nat.pow_zero, hone]; rfl)
  have d3 := power_as (N : Int) x N S 1 rfl hx (by omega) lS hS0' (by rw [hN.2.1, hone]; rfl)
  have d4 := fun w => degree_any x S w hx lS
  have HN := Lib.hid hN
  have HO := Lib.hid hone
  have HX := Lib.hid hx
  clear hN hone hNl hx lS15 odd0 l15 hS
  have hn1 : decide ((N : Int) < 1) = false := by simp; omega
  have hNz : ¬ ((N : Int) = 0) := by omega
  subst hxx
  subst h1
  have hor1 : bits .or .u64 ((t : Int) % 32768) 1 = 1 := hor
  clear hor
  have HB : Below W.heap.size W W := Below.refl _ _
  go_enter Tryd.func9, Tryd.ntmps9
  go_wp2_with fail
  (with_reducible refine (c1 _).mono ?_)
  rintro e w1 ⟨rfl, hB⟩
  have w1b := below_step HB hB
  clear hB HB
  go_wp2_with fail
  (with_reducible refine (c2 _).mono ?_)
  rintro e w2 ⟨rfl, hB⟩
  have w2b := below_step w1b hB
  clear hB w1b
  go_wp2_with fail
  (with_reducible refine (c3 _).mono ?_)
  rintro e w3 ⟨rfl, hB⟩
  have w3b := below_step w2b hB
  clear hB w2b
  go_wp2_with fail
  (with_reducible refine (c4 _).mono ?_)
  rintro e w' ⟨rfl, rfl⟩
  go_wp2_with fail
  (with_reducible refine (d1 _).mono ?_)
  rintro e w' ⟨rfl, rfl⟩
  go_wp2_with fail
  (with_reducible refine (d2 _).mono ?_)
  rintro e w4 ⟨rfl, hB⟩
  have w4b := below_step w3b hB
  clear hB w3b
  go_wp2_with fail
  (with_reducible refine (d3 _).mono ?_)
  rintro e w5 ⟨rfl, hB⟩
  have w5b := below_step w4b hB
  clear hB w4b
  go_wp2_with fail
  go_loopw [23] (fun P wr => ∃ p : Nat, 2 ≤ p ∧ p ≤ N + 1 ∧ P = .int .i64 (p : Int) ∧ Below W.heap.size W wr) (fun P _ => N + 1 - (intOf P).toNat)
  case atStart => exact ⟨2, Nat.le_refl _, by omega, rfl, w5b⟩
  case round =>
    obtain ⟨p, hp2, hpN, rfl, hBr⟩ := hrel
    by_cases hle : p ≤ N
    · have hd := dec_le hle
      have hpz : ¬ ((p : Int) = 0) := by omega
      by_cases hdv : N % p = 0
      · have hmd := pow_mod0 hdv
        obtain ⟨⟨hq0, hq9⟩, hqe, hql, hne⟩ := pow_round_facts HN.out HO.out hN14 hp2 hle
        have f1 := power_as ((N : Int) / (p : Int)) _ (N / p) S _ hqe HX.out hql lS hS0' rfl
        obtain ⟨V, eV⟩ : ∃ V, V = pm (2 ^ (N / p)) S := ⟨_, rfl⟩
        simp only [← eV] at f1 hne
        have hv1 := vne hne
        have HLE := Lib.hid hle
        clear eV hne hqe hql hdv hle
        go_wp2_with fail
        (with_reducible refine (f1 _).mono ?_)
        rintro e w6 ⟨rfl, hB⟩
        have w6b := below_step hBr hB
        clear hB hBr
        go_wp2_with fail
        go_roundw
        case rel => exact ⟨p + 1, Nat.le_succ_of_le hp2, Nat.succ_le_succ HLE.out, by go_num, w6b⟩
        case measure => exact pow_meas HLE.out
      · have hmd := pow_mod1 hdv
        have HLE := Lib.hid hle
        clear hdv hle
        go_wp2_with fail
        go_roundw
        case rel => exact ⟨p + 1, Nat.le_succ_of_le hp2, Nat.succ_le_succ HLE.out, by go_num, hBr⟩
        case measure => exact pow_meas HLE.out
    · have hd := dec_gt hle
      cases hirr : irB S with
      | false =>
        have j1 := irr_as _ S false HX.out lS hirr
        clear hirr hle
        go_wp2_with fail
        (with_reducible refine (j1 _).mono ?_)
        rintro e w6 ⟨rfl, hB⟩
        have w6b := below_step hBr hB
        clear hB hBr
        go_wp2_with fail
        (with_reducible refine (awake_any _).mono ?_)
        rintro e w8 ⟨rfl, hB⟩
        have w8b := below_step w6b hB
        go_wp2_with fail
        go_ret
        exact ⟨rfl, w8b⟩
      | true =>
        have j1 := irr_as _ S true HX.out lS hirr
        have hdv := ord_dvd (irr_of_irB hirr) odd HN.out
        have HD := Lib.hid hdv
        clear hirr hle hdv
        go_wp2_with fail
        (with_reducible refine (j1 _).mono ?_)
        rintro e w6 ⟨rfl, hB⟩
        have w6b := below_step hBr hB
        clear hB hBr j1
        go_wp2_with fail
        (with_reducible refine (d4 _).mono ?_)
        rintro e w' ⟨rfl, rfl⟩
        have hcs : bl S = 2 ∨ bl S = 3 ∨ bl S = 4 ∨ bl S = 5 ∨ bl S = 6 ∨ bl S = 7 ∨ bl S = 8 ∨ bl S = 9 ∨ bl S = 10 ∨ bl S = 11 ∨ bl S = 12 ∨ bl S = 13 ∨ bl S = 14 ∨ bl S = 15 := bl_cases bS2 bS
        have hd := HD.out
        clear HD d4 HX HO HN
        rcases hcs with hb | hb | hb | hb | hb | hb | hb | hb | hb | hb | hb | hb | hb | hb
        · rw [hb] at hd ⊢
          have hm : ((1 : Int) % (N : Int) == 0) = true := dvd_emod (q := 1) hd
          clear hb hd bS bS2
          go_wp2_with fail
          (with_reducible refine (awake_any _).mono ?_)
          rintro e w8 ⟨rfl, hB⟩
          have w8b := below_step w6b hB
          go_wp2_with fail
          go_ret
          exact ⟨rfl, w8b⟩
        · rw [hb] at hd ⊢
          have hm : ((3 : Int) % (N : Int) == 0) = true := dvd_emod (q := 3) hd
          clear hb hd bS bS2
          go_wp2_with fail
          (with_reducible refine (awake_any _).mono ?_)
          rintro e w8 ⟨rfl, hB⟩
          have w8b := below_step w6b hB
          go_wp2_with fail
          go_ret
          exact ⟨rfl, w8b⟩
        · rw [hb] at hd ⊢
          have hm : ((7 : Int) % (N : Int) == 0) = true := dvd_emod (q := 7) hd
          clear hb hd bS bS2
          go_wp2_with fail
          (with_reducible refine (awake_any _).mono ?_)
          rintro e w8 ⟨rfl, hB⟩
          have w8b := below_step w6b hB
          go_wp2_with fail
          go_ret
          exact ⟨rfl, w8b⟩
        · rw [hb] at hd ⊢
          have hm : ((15 : Int) % (N : Int) == 0) = true := dvd_emod (q := 15) hd
          clear hb hd bS bS2
          go_wp2_with fail
          (with_reducible refine (awake_any _).mono ?_)
          rintro e w8 ⟨rfl, hB⟩
          have w8b := below_step w6b hB
          go_wp2_with fail
          go_ret
          exact ⟨rfl, w8b⟩
        · rw [hb] at hd ⊢
          have hm : ((31 : Int) % (N : Int) == 0) = true := dvd_emod (q := 31) hd
          clear hb hd bS bS2
          go_wp2_with fail
          (with_reducible refine (awake_any _).mono ?_)
          rintro e w8 ⟨rfl, hB⟩
          have w8b := below_step w6b hB
          go_wp2_with fail
          go_ret
          exact ⟨rfl, w8b⟩
        · rw [hb] at hd ⊢
          have hm : ((63 : Int) % (N : Int) == 0) = true := dvd_emod (q := 63) hd
          clear hb hd bS bS2
          go_wp2_with fail
          (with_reducible refine (awake_any _).mono ?_)
          rintro e w8 ⟨rfl, hB⟩
          have w8b := below_step w6b hB
          go_wp2_with fail
          go_ret
          exact ⟨rfl, w8b⟩
        · rw [hb] at hd ⊢
          have hm : ((127 : Int) % (N : Int) == 0) = true := dvd_emod (q := 127) hd
          clear hb hd bS bS2
          go_wp2_with fail
          (with_reducible refine (awake_any _).mono ?_)
          rintro e w8 ⟨rfl, hB⟩
          have w8b := below_step w6b hB
          go_wp2_with fail
          go_ret
          exact ⟨rfl, w8b⟩
        · rw [hb] at hd ⊢
          have hm : ((255 : Int) % (N : Int) == 0) = true := dvd_emod (q := 255) hd
          clear hb hd bS bS2
          go_wp2_with fail
          (with_reducible refine (awake_any _).mono ?_)
          rintro e w8 ⟨rfl, hB⟩
          have w8b := below_step w6b hB
          go_wp2_with fail
          go_ret
          exact ⟨rfl, w8b⟩
        · rw [hb] at hd ⊢
          have hm : ((511 : Int) % (N : Int) == 0) = true := dvd_emod (q := 511) hd
          clear hb hd bS bS2
          go_wp2_with fail
          (with_reducible refine (awake_any _).mono ?_)
          rintro e w8 ⟨rfl, hB⟩
          have w8b := below_step w6b hB
          go_wp2_with fail
          go_ret
          exact ⟨rfl, w8b⟩
        · rw [hb] at hd ⊢
          have hm : ((1023 : Int) % (N : Int) == 0) = true := dvd_emod (q := 1023) hd
          clear hb hd bS bS2
          go_wp2_with fail
          (with_reducible refine (awake_any _).mono ?_)
          rintro e w8 ⟨rfl, hB⟩
          have w8b := below_step w6b hB
          go_wp2_with fail
          go_ret
          exact ⟨rfl, w8b⟩
        · rw [hb] at hd ⊢
          have hm : ((2047 : Int) % (N : Int) == 0) = true := dvd_emod (q := 2047) hd
          clear hb hd bS bS2
          go_wp2_with fail
          (with_reducible refine (awake_any _).mono ?_)
          rintro e w8 ⟨rfl, hB⟩
          have w8b := below_step w6b hB
          go_wp2_with fail
          go_ret
          exact ⟨rfl, w8b⟩
        · rw [hb] at hd ⊢
          have hm : ((4095 : Int) % (N : Int) == 0) = true := dvd_emod (q := 4095) hd
          clear hb hd bS bS2
          go_wp2_with fail
          (with_reducible refine (awake_any _).mono ?_)
          rintro e w8 ⟨rfl, hB⟩
          have w8b := below_step w6b hB
          go_wp2_with fail
          go_ret
          exact ⟨rfl, w8b⟩
        · rw [hb] at hd ⊢
          have hm : ((8191 : Int) % (N : Int) == 0) = true := dvd_emod (q := 8191) hd
          clear hb hd bS bS2
          go_wp2_with fail
          (with_reducible refine (awake_any _).mono ?_)
          rintro e w8 ⟨rfl, hB⟩
          have w8b := below_step w6b hB
          go_wp2_with fail
          go_ret
          exact ⟨rfl, w8b⟩
        · rw [hb] at hd ⊢
          have hm : ((16383 : Int) % (N : Int) == 0) = true := dvd_emod (q := 16383) hd
          clear hb hd bS bS2
          go_wp2_with fail
          (with_reducible refine (awake_any _).mono ?_)
          rintro e w8 ⟨rfl, hB⟩
          have w8b := below_step w6b hB
          go_wp2_with fail
          go_ret
          exact ⟨rfl, w8b⟩

set_option maxRecDepth 100000 in
set_option maxHeartbeats 4000000 in
theorem powers_else (W : World) (m n k t : Nat) (hm : m < 18446744073709551616) (n1 : (n : Int) ≤ 4294967295) (k1 : (k : Int) ≤ 4294967295) (s1 : (t : Int) ≤ 65535) (h1 : t % 32768 ||| 1 ≠ 1) :
    Calls Tryd.prog 9 #[.int .u64 (m : Int), .int .u32 (n : Int), .int .u32 (k : Int), .int .u16 (t : Int)] W fun e w' => e = .returned (.bool true) ∧ Below W.heap.size W w' := by
  obtain ⟨M, hM⟩ : ∃ M, M = max m 1 := ⟨_, rfl⟩
  have iM : max (m : Int) 1 = (M : Int) := by omega
  have lM : M < 18446744073709551616 := by omega
  have hM0 : M ≠ 0 := by omega
  have lA := pm_lt (a := 2 ^ n) (k := 64) hM0 lM
  have lB := pm_lt (a := 2 ^ k) (k := 64) hM0 lM
  have c1 := power_as (n : Int) (max (m : Int) 1) n M _ rfl iM (by omega) lM hM0 rfl
  have c2 := power_as (k : Int) (max (m : Int) 1) k M _ rfl iM (by omega) lM hM0 rfl
  have c3 := power_as ((n : Int) + (k : Int)) (max (m : Int) 1) (n + k) M _ (by omega) iM (by omega) lM hM0 rfl
  have c4 := MulMod_as _ _ (max (m : Int) 1) (pm (2 ^ n) M) (pm (2 ^ k) M) M (pm (2 ^ (n + k)) M) rfl rfl iM lA lB lM hM0 (by rw [pm_cm_left _ _ hM0, pm_cm_right _ _ hM0, pow_cm_pow])
  obtain ⟨A, eA⟩ : ∃ A, A = pm (2 ^ n) M := ⟨_, rfl⟩
  obtain ⟨B, eB⟩ : ∃ B, B = pm (2 ^ k) M := ⟨_, rfl⟩
  obtain ⟨C, eC⟩ : ∃ C, C = pm (2 ^ (n + k)) M := ⟨_, rfl⟩
  simp only [← eA] at c1 c4
  simp only [← eB] at c2 c4
  simp only [← eC] at c3 c4
  clear eA eB eC lA lB iM hM hM0 lM
  -- the small polynomial
  have hor := or_u64 (t % 32768) 1 (by omega) (by omega) ((t : Int) % 32768) 1 (by omega) rfl
  obtain ⟨S0, hS0⟩ : ∃ S0, S0 = t % 32768 ||| 1 := ⟨_, rfl⟩
  rw [← hS0] at hor
  have l15 : S0 < 2 ^ 15 := by rw [hS0]; exact Nat.or_lt_two_pow (by omega) (by omega)
  have odd0 : S0 % 2 = 1 := by rw [hS0]; exact Nat.or_mod_two_eq_one.2 (.inr rfl)
  rw [← hS0] at h1
  clear hS0
  obtain ⟨S, x, hx, hS, odd, lS15, hxx⟩ : ∃ (S : Nat) (x : Int), x = (S : Int) ∧ 3 ≤ S ∧ S % 2 = 1 ∧ S < 2 ^ 15 ∧ x = (S0 : Int) := ⟨S0, S0, rfl, by omega, odd0, l15, rfl⟩
  have bS : bl S ≤ 15 := bl_le.2 lS15
  have bS2 : 2 ≤ bl S := bl_ge2.2 (by omega)
  have lS : S < 18446744073709551616 := by omega
  have hS0' : S ≠ 0 := by omega
  obtain ⟨N, hN, hNl⟩ := ord_some bS2 odd
  have hN1 := hN.1
  have hN14 : N ≤ 16384 := by
    have : 2 ^ (bl S - 1) ≤ 2 ^ 14 := Nat.pow_le_pow_right (by omega) (by omega)
    omega
  have hone := pm_one_big bS2
  have d1 := order_as x S N hx bS2 (by omega) odd hN hNl
  have d2 := power_as 0 x 0 S 1 rfl hx (by omega) lS hS0' (by rw [Nat.pow_zero, hone]; rfl)
  have d3 := power_as (N : Int) x N S 1 rfl hx (by omega) lS hS0' (by rw [hN.2.1, hone]; rfl)
  have d4 := fun w => degree_any x S w hx lS
  have HN := Lib.hid hN
  have HO := Lib.hid hone
  have HX := Lib.hid hx
  clear hN hone hNl hx lS15 odd0 l15 hS
  have hn1 : decide ((N : Int) < 1) = false := by simp; omega
  have hNz : ¬ ((N : Int) = 0) := by omega
  subst hxx
  have hs1 : ((S0 : Int) == 1) = false := by simp; omega
  clear h1
  have HB : Below W.heap.size W W := Below.refl _ _
  go_enter Tryd.func9, Tryd.ntmps9
  go_wp2_with fail
  (with_reducible refine (c1 _).mono ?_)
  rintro e w1 ⟨rfl, hB⟩
  have w1b := below_step HB hB
  clear hB HB
  go_wp2_with fail
  (with_reducible refine (c2 _).mono ?_)
  rintro e w2 ⟨rfl, hB⟩
  have w2b := below_step w1b hB
  clear hB w1b
  go_wp2_with fail
  (with_reducible refine (c3 _).mono ?_)
  rintro e w3 ⟨rfl, hB⟩
  have w3b := below_step w2b hB
  clear hB w2b
  go_wp2_with fail
  (with_reducible refine (c4 _).mono ?_)
  rintro e w' ⟨rfl, rfl⟩
  go_wp2_with fail
  (with_reducible refine (d1 _).mono ?_)
  rintro e w' ⟨rfl, rfl⟩
  go_wp2_with fail
  (with_reducible refine (d2 _).mono ?_)
  rintro e w4 ⟨rfl, hB⟩
  have w4b := below_step w3b hB
  clear hB w3b
  go_wp2_with fail
  (with_reducible refine (d3 _).mono ?_)
  rintro e w5 ⟨rfl, hB⟩
  have w5b := below_step w4b hB
  clear hB w4b
  go_wp2_with fail
  go_loopw [23] (fun P wr => ∃ p : Nat, 2 ≤ p ∧ p ≤ N + 1 ∧ P = .int .i64 (p : Int) ∧ Below W.heap.size W wr) (fun P _ => N + 1 - (intOf P).toNat)
  case atStart => exact ⟨2, Nat.le_refl _, by omega, rfl, w5b⟩
  case round =>
    obtain ⟨p, hp2, hpN, rfl, hBr⟩ := hrel
    by_cases hle : p ≤ N
    · have hd := dec_le hle
      have hpz : ¬ ((p : Int) = 0) := by omega
      by_cases hdv : N % p = 0
      · have hmd := pow_mod0 hdv
        obtain ⟨⟨hq0, hq9⟩, hqe, hql, hne⟩ := pow_round_facts HN.out HO.out hN14 hp2 hle
        have f1 := power_as ((N : Int) / (p : Int)) _ (N / p) S _ hqe HX.out hql lS hS0' rfl
        obtain ⟨V, eV⟩ : ∃ V, V = pm (2 ^ (N / p)) S := ⟨_, rfl⟩
        simp only [← eV] at f1 hne
        have hv1 := vne hne
        have HLE := Lib.hid hle
        clear eV hne hqe hql hdv hle
        go_wp2_with fail
        (with_reducible refine (f1 _).mono ?_)
        rintro e w6 ⟨rfl, hB⟩
        have w6b := below_step hBr hB
        clear hB hBr
        go_wp2_with fail
        go_roundw
        case rel => exact ⟨p + 1, Nat.le_succ_of_le hp2, Nat.succ_le_succ HLE.out, by go_num, w6b⟩
        case measure => exact pow_meas HLE.out
      · have hmd := pow_mod1 hdv
        have HLE := Lib.hid hle
        clear hdv hle
        go_wp2_with fail
        go_roundw
        case rel => exact ⟨p + 1, Nat.le_succ_of_le hp2, Nat.succ_le_succ HLE.out, by go_num, hBr⟩
        case measure => exact pow_meas HLE.out
    · have hd := dec_gt hle
      cases hirr : irB S with
      | false =>
        have j1 := irr_as _ S false HX.out lS hirr
        clear hirr hle
        go_wp2_with fail
        (with_reducible refine (j1 _).mono ?_)
        rintro e w6 ⟨rfl, hB⟩
        have w6b := below_step hBr hB
        clear hB hBr
        go_wp2_with fail
        (with_reducible refine (awake_any _).mono ?_)
        rintro e w8 ⟨rfl, hB⟩
        have w8b := below_step w6b hB
        go_wp2_with fail
        go_ret
        exact ⟨rfl, w8b⟩
      | true =>
        have j1 := irr_as _ S true HX.out lS hirr
        have hdv := ord_dvd (irr_of_irB hirr) odd HN.out
        have HD := Lib.hid hdv
        clear hirr hle hdv
        go_wp2_with fail
        (with_reducible refine (j1 _).mono ?_)
        rintro e w6 ⟨rfl, hB⟩
        have w6b := below_step hBr hB
        clear hB hBr j1
        go_wp2_with fail
        (with_reducible refine (d4 _).mono ?_)
        rintro e w' ⟨rfl, rfl⟩
        have hcs : bl S = 2 ∨ bl S = 3 ∨ bl S = 4 ∨ bl S = 5 ∨ bl S = 6 ∨ bl S = 7 ∨ bl S = 8 ∨ bl S = 9 ∨ bl S = 10 ∨ bl S = 11 ∨ bl S = 12 ∨ bl S = 13 ∨ bl S = 14 ∨ bl S = 15 := bl_cases bS2 bS
        have hd := HD.out
        clear HD d4 HX HO HN
        rcases hcs with hb | hb | hb | hb | hb | hb | hb | hb | hb | hb | hb | hb | hb | hb
        · rw [hb] at hd ⊢
          have hm : ((1 : Int) % (N : Int) == 0) = true := dvd_emod (q := 1) hd
          clear hb hd bS bS2
          go_wp2_with fail
          (with_reducible refine (awake_any _).mono ?_)
          rintro e w8 ⟨rfl, hB⟩
          have w8b := below_step w6b hB
          go_wp2_with fail
          go_ret
          exact ⟨rfl, w8b⟩
        · rw [hb] at hd ⊢
          have hm : ((3 : Int) % (N : Int) == 0) = true := dvd_emod (q := 3) hd
          clear hb hd bS bS2
          go_wp2_with fail
          (with_reducible refine (awake_any _).mono ?_)
          rintro e w8 ⟨rfl, hB⟩
          have w8b := below_step w6b hB
          go_wp2_with fail
          go_ret
          exact ⟨rfl, w8b⟩
        · rw [hb] at hd ⊢
          have hm : ((7 : Int) % (N : Int) == 0) = true := dvd_emod (q := 7) hd
          clear hb hd bS bS2
          go_wp2_with fail
          (with_reducible refine (awake_any _).mono ?_)
          rintro e w8 ⟨rfl, hB⟩
          have w8b := below_step w6b hB
          go_wp2_with fail
          go_ret
          exact ⟨rfl, w8b⟩
        · rw [hb] at hd ⊢
          have hm : ((15 : Int) % (N : Int) == 0) = true := dvd_emod (q := 15) hd
          clear hb hd bS bS2
          go_wp2_with fail
          (with_reducible refine (awake_any _).mono ?_)
          rintro e w8 ⟨rfl, hB⟩
          have w8b := below_step w6b hB
          go_wp2_with fail
          go_ret
          exact ⟨rfl, w8b⟩
        · rw [hb] at hd ⊢
          have hm : ((31 : Int) % (N : Int) == 0) = true := dvd_emod (q := 31) hd
          clear hb hd bS bS2
          go_wp2_with fail
          (with_reducible refine (awake_any _).mono ?_)
          rintro e w8 ⟨rfl, hB⟩
          have w8b := below_step w6b hB
          go_wp2_with fail
          go_ret
          exact ⟨rfl, w8b⟩
        · rw [hb] at hd ⊢
          have hm : ((63 : Int) % (N : Int) == 0) = true := dvd_emod (q := 63) hd
          clear hb hd bS bS2
          go_wp2_with fail
          (with_reducible refine (awake_any _).mono ?_)
          rintro e w8 ⟨rfl, hB⟩
          have w8b := below_step w6b hB
          go_wp2_with fail
          go_ret
          exact ⟨rfl, w8b⟩
        · rw [hb] at hd ⊢
          have hm : ((127 : Int) % (N : Int) == 0) = true := dvd_emod (q := 127) hd
          clear hb hd bS bS2
          go_wp2_with fail
          (with_reducible refine (awake_any _).mono ?_)
          rintro e w8 ⟨rfl, hB⟩
          have w8b := below_step w6b hB
          go_wp2_with fail
          go_ret
          exact ⟨rfl, w8b⟩
        · rw [hb] at hd ⊢
          have hm : ((255 : Int) % (N : Int) == 0) = true := dvd_emod (q := 255) hd
          clear hb hd bS bS2
          go_wp2_with fail
          (with_reducible refine (awake_any _).mono ?_)
          rintro e w8 ⟨rfl, hB⟩
          have w8b := below_step w6b hB
          go_wp2_with fail
          go_ret
          exact ⟨rfl, w8b⟩
        · rw [hb] at hd ⊢
          have hm : ((511 : Int) % (N : Int) == 0) = true := dvd_emod (q := 511) hd
          clear hb hd bS bS2
          go_wp2_with fail
          (with_reducible refine (awake_any _).mono ?_)
          rintro e w8 ⟨rfl, hB⟩
          have w8b := below_step w6b hB
          go_wp2_with fail
          go_ret
          exact ⟨rfl, w8b⟩
        · rw [hb] at hd ⊢
          have hm : ((1023 : Int) % (N : Int) == 0) = true := dvd_emod (q := 1023) hd
          clear hb hd bS bS2
          go_wp2_with fail
          (with_reducible refine (awake_any _).mono ?_)
          rintro e w8 ⟨rfl, hB⟩
          have w8b := below_step w6b hB
          go_wp2_with fail
          go_ret
          exact ⟨rfl, w8b⟩
        · rw [hb] at hd ⊢
          have hm : ((2047 : Int) % (N : Int) == 0) = true := dvd_emod (q := 2047) hd
          clear hb hd bS bS2
          go_wp2_with fail
          (with_reducible refine (awake_any _).mono ?_)
          rintro e w8 ⟨rfl, hB⟩
          have w8b := below_step w6b hB
          go_wp2_with fail
          go_ret
          exact ⟨rfl, w8b⟩
        · rw [hb] at hd ⊢
          have hm : ((4095 : Int) % (N : Int) == 0) = true := dvd_emod (q := 4095) hd
          clear hb hd bS bS2
          go_wp2_with fail
          (with_reducible refine (awake_any _).mono ?_)
          rintro e w8 ⟨rfl, hB⟩
          have w8b := below_step w6b hB
          go_wp2_with fail
          go_ret
          exact ⟨rfl, w8b⟩
        · rw [hb] at hd ⊢
          have hm : ((8191 : Int) % (N : Int) == 0) = true := dvd_emod (q := 8191) hd
          clear hb hd bS bS2
          go_wp2_with fail
          (with_reducible refine (awake_any _).mono ?_)
          rintro e w8 ⟨rfl, hB⟩
          have w8b := below_step w6b hB
          go_wp2_with fail
          go_ret
          exact ⟨rfl, w8b⟩
        · rw [hb] at hd ⊢
          have hm : ((16383 : Int) % (N : Int) == 0) = true := dvd_emod (q := 16383) hd
          clear hb hd bS bS2
          go_wp2_with fail
          (with_reducible refine (awake_any _).mono ?_)
          rintro e w8 ⟨rfl, hB⟩
          have w8b := below_step w6b hB
          go_wp2_with fail
          go_ret
          exact ⟨rfl, w8b⟩

theorem powers_walk (W : World) (m n k small : Int) (wm : (Lit.int .u64 m).wf = true) (wn : (Lit.int .u32 n).wf = true) (wk : (Lit.int .u32 k).wf = true) (ws : (Lit.int .u16 small).wf = true) :
    Calls Tryd.prog 9 #[.int .u64 m, .int .u32 n, .int .u32 k, .int .u16 small] W fun e w' => e = .returned (.bool true) ∧ Below W.heap.size W w' := by
  obtain ⟨m, rfl, hm⟩ := nat_u64 wm
  obtain ⟨n0, n1⟩ := bounds_u32 wn
  obtain ⟨k0, k1⟩ := bounds_u32 wk
  obtain ⟨s0, s1⟩ := bounds_u16 ws
  obtain ⟨n, rfl⟩ := Int.eq_ofNat_of_zero_le n0
  obtain ⟨k, rfl⟩ := Int.eq_ofNat_of_zero_le k0
  obtain ⟨t, rfl⟩ := Int.eq_ofNat_of_zero_le s0
  by_cases h1 : t % 32768 ||| 1 = 1
  · exact powers_one W m n k t hm n1 k1 s1 h1
  · exact powers_else W m n k t hm n1 k1 s1 h1
end Go.Proofs.YtjajojdlgpmpfaaDoor
