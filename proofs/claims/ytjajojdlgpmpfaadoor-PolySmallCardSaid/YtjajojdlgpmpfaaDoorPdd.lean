/-
  The contracts of poly's Order and Irreducible; for every number of 64 bits.
-/
import Derived.Test.YtjajojdlgpmpfaaDoorPdc
namespace Go.Proofs.YtjajojdlgpmpfaaDoor
open Go.RowKit Go.Shelf

set_option maxHeartbeats 1000000 in
theorem order_any (m k : Nat) (w : World) (h1 : 2 ≤ bl m) (h2 : bl m ≤ 21) (ho : m % 2 = 1) (hk : IsOrd m k) (hk2 : k ≤ 2 ^ (bl m - 1)) :
    Calls Tryd.prog 26 #[.int .u64 (m : Int)] w fun e w' => e = .returned (.tuple #[.int .i64 (k : Int), .int .i64 0]) ∧ w = w' := by
  have hm : m < 18446744073709551616 := (bl_le (k := 64)).1 (by omega)
  have hm0 : m ≠ 0 := by omega
  have hkb : k ≤ 1048576 := by
    have : 2 ^ (bl m - 1) ≤ 2 ^ 20 := Nat.pow_le_pow_right (by omega) (by omega)
    omega
  have ha := and1_nat m hm
  have hq : (((m % 2 : Nat) : Int) == 0) = false := by rw [ho]; rfl
  have hd1 : decide ((bl m : Int) - 1 < 1) = false := by simp; omega
  have hd2 : decide (20 < (bl m : Int) - 1) = false := by simp; omega
  have hone := pm_one_big h1
  have HK := Lib.hid hk
  have HO := Lib.hid hone
  clear hk hone ho hk2
  go_enter Tryd.func26, Tryd.ntmps26
  go_wp2_with fail
  refine (degree_any _ m _ rfl hm).mono ?_
  rintro e w' ⟨rfl, rfl⟩
  go_wp2_with fail
  refine (modulo_any _ 2 m _ rfl (by omega) hm hm0).mono ?_
  rintro e w' ⟨rfl, rfl⟩
  go_wp2_with fail
  go_loop [5, 6] (fun N P => ∃ n p : Nat, 1 ≤ n ∧ n ≤ k ∧ p < 18446744073709551616 ∧ N = .int .i64 (n : Int) ∧ P = .int .u64 (p : Int) ∧ p = pm (2 ^ n) m) (fun N _ => k - (intOf N).toNat)
  case atStart => exact ⟨1, pm 2 m, Nat.le_refl _, HK.out.1, pm_lt (k := 64) hm0 hm, rfl, rfl, rfl⟩
  case round =>
    obtain ⟨n, p, hn, hnk, hp, rfl, rfl, hpe⟩ := hrel
    by_cases h0 : n = k
    · subst h0
      have hp1 : p = 1 := by rw [hpe, HK.out.2.1, HO.out]
      have hb : (!(p : Int) == 1) = false := by rw [hp1]; rfl
      have hb2 : ((p : Int) != 1) = false := by rw [hp1]; rfl
      clear hpe hp1
      go_wp2_with fail
      go_ret2
      exact ⟨rfl, rfl⟩
    · have hp1 : p ≠ 1 := fun hh => HK.out.2.2 n hn (by omega) (by rw [← hpe, HO.out, hh])
      have hb : (!(p : Int) == 1) = true := by simp; omega
      have hb2 : ((p : Int) != 1) = true := by simp; omega
      have hpb : bl p < bl m := by rw [hpe]; exact pm_bl _ hm0
      have HN := Lib.hid (show pm (2 * p) m = pm (2 ^ (n + 1)) m by rw [hpe]; exact pw_next hm0)
      clear hpe hp1
      go_wp2_with fail
      refine (timesX_any _ p m _ rfl hpb hm).mono ?_
      rintro e w' ⟨rfl, rfl⟩
      go_wp2_with fail
      go_round
      case rel => exact ⟨n + 1, pm (2 * p) m, by omega, by omega, pm_lt (k := 64) hm0 hm, by go_num, rfl, HN.out⟩
      case measure => simp [intOf]; omega

set_option maxHeartbeats 400000 in
theorem order_arg (m : Nat) (w : World) (hm : m < 18446744073709551616) (h : bl m ≤ 1 ∨ 22 ≤ bl m) :
    Calls Tryd.prog 26 #[.int .u64 (m : Int)] w fun e w' => e = .returned (.tuple #[.int .i64 0, .int .i64 2]) ∧ w = w' := by
  by_cases h1 : bl m ≤ 1
  · have hd1 : decide ((bl m : Int) - 1 < 1) = true := by simp; omega
    clear h
    go_enter Tryd.func26, Tryd.ntmps26
    go_wp2_with fail
    refine (degree_any _ m _ rfl hm).mono ?_
    rintro e w' ⟨rfl, rfl⟩
    go_wp2_with fail
    go_ret2
    exact ⟨rfl, rfl⟩
  · have hd1 : decide ((bl m : Int) - 1 < 1) = false := by simp; omega
    have hb := bl_64 hm
    have hd2 : decide (20 < (bl m : Int) - 1) = true := by simp; omega
    clear h h1
    go_enter Tryd.func26, Tryd.ntmps26
    go_wp2_with fail
    refine (degree_any _ m _ rfl hm).mono ?_
    rintro e w' ⟨rfl, rfl⟩
    go_wp2_with fail
    go_ret2
    exact ⟨rfl, rfl⟩

set_option maxHeartbeats 400000 in
theorem order_none (m : Nat) (w : World) (h1 : 2 ≤ bl m) (h2 : bl m ≤ 21) (ho : m % 2 = 0) :
    Calls Tryd.prog 26 #[.int .u64 (m : Int)] w fun e w' => e = .returned (.tuple #[.int .i64 0, .int .i64 6]) ∧ w = w' := by
  have hm : m < 18446744073709551616 := (bl_le (k := 64)).1 (by omega)
  have ha := and1_nat m hm
  have hq : (((m % 2 : Nat) : Int) == 0) = true := by rw [ho]; rfl
  have hd1 : decide ((bl m : Int) - 1 < 1) = false := by simp; omega
  have hd2 : decide (20 < (bl m : Int) - 1) = false := by simp; omega
  clear ho
  go_enter Tryd.func26, Tryd.ntmps26
  go_wp2_with fail
  refine (degree_any _ m _ rfl hm).mono ?_
  rintro e w' ⟨rfl, rfl⟩
  go_wp2_with fail
  go_ret2
  exact ⟨rfl, rfl⟩

set_option maxHeartbeats 400000 in
theorem irr_low (p : Nat) (w : World) (h : bl p ≤ 1) :
    Calls Tryd.prog 27 #[.int .u64 (p : Int)] w fun e w' => e = .returned (.bool false) ∧ Below w.heap.size w w' := by
  have hm : p < 18446744073709551616 := (bl_le (k := 64)).1 (by omega)
  have hd1 : decide ((bl p : Int) - 1 < 1) = true := by simp; omega
  go_enter Tryd.func27, Tryd.ntmps27
  go_wp2_with fail
  refine (degree_any _ p _ rfl hm).mono ?_
  rintro e w' ⟨rfl, rfl⟩
  go_wp2_with fail
  go_ret
  exact ⟨rfl, Below.refl _ _⟩

set_option maxHeartbeats 1000000 in
theorem irr_any (p : Nat) (w : World) (hp : p < 18446744073709551616) :
    Calls Tryd.prog 27 #[.int .u64 (p : Int)] w fun e w' => (∃ b : Bool, b = irB p ∧ e = .returned (.bool b)) ∧ Below w.heap.size w w' := by
  by_cases hlow : bl p ≤ 1
  · refine (irr_low p w hlow).mono ?_
    rintro e w' ⟨rfl, hB⟩
    refine ⟨⟨false, ?_, rfl⟩, hB⟩
    unfold irB
    rw [decide_eq_false (by omega)]; rfl
  have hp0 : p ≠ 0 := fun hh => by subst hh; simp at hlow
  have hbp := bl_64 hp
  have hd1 : decide ((bl p : Int) - 1 < 1) = false := by simp; omega
  obtain ⟨R, hR⟩ : ∃ R, R = irB p := ⟨_, rfl⟩
  rw [← hR]
  have hRt : (∀ i, i < (bl p - 1) / 2 → pg (fr p (i + 1) ^^^ 2) p = 1) → true = R := fun h => by rw [hR]; exact (irB_iff.2 ⟨by omega, h⟩).symm
  have hRf : ∀ i, i < (bl p - 1) / 2 → pg (fr p (i + 1) ^^^ 2) p ≠ 1 → false = R := fun i hi h => by
    rw [hR]
    refine (Bool.eq_false_iff.2 fun hh => ?_).symm
    exact h ((irB_iff.1 hh).2 i hi)
  have HT := Lib.hid hRt
  have HF := Lib.hid hRf
  have hn2 : ((bl p : Int) - 1) / 2 = (((bl p - 1) / 2 : Nat) : Int) := by omega
  obtain ⟨N, hN⟩ : ∃ N, N = (bl p - 1) / 2 := ⟨_, rfl⟩
  rw [← hN] at HT HF hn2
  have hN31 : N ≤ 31 := by omega
  have HN2 := Lib.hid hn2
  clear hRt hRf hR hN hn2
  go_enter Tryd.func27, Tryd.ntmps27
  go_wp2_with fail
  refine (degree_any _ p _ rfl hp).mono ?_
  rintro e w' ⟨rfl, rfl⟩
  go_wp2_with fail
  refine (squares_any _ 2 p _ rfl (by omega) hp hp0).mono ?_
  rintro e w1 ⟨rfl, hS, hB⟩
  go_wp2_with fail
  refine (sq1_any _ (pm 2 p) p _ hS (pm_lt (k := 64) hp0 hp) hp hp0 w (Nat.le_refl _) hB).mono ?_
  rintro e w2 ⟨rfl, hS2, hB2⟩
  clear hS hB
  go_wp2_with fail
  go_loopw [15] (fun I wr => ∃ i : Nat, i ≤ N ∧ I = .int .i64 (i : Int) ∧ (∀ j, j < i → pg (fr p (j + 1) ^^^ 2) p = 1) ∧ Sqs wr w.heap.size (fr p (i + 1)) p ∧ Below w.heap.size w wr) (fun I _ => N - (intOf I).toNat)
  case atStart => exact ⟨0, by omega, rfl, fun j hj => absurd hj (by omega), hS2, hB2⟩
  case round =>
    obtain ⟨i, hi, rfl, hall, hS, hB⟩ := hrel
    have hfl : fr p (i + 1) < 18446744073709551616 := (bl_le (k := 64)).1 (by have := fr_bl hp0 (i + 1); omega)
    by_cases h0 : i = N
    · subst h0
      have H := Lib.hid (HT.out hall)
      clear hall
      have hbx : decide ((i : Int) < ((bl p : Int) - 1) / 2) = false := by rw [HN2.out]; simp
      go_wp2_with fail
      go_ret
      exact ⟨⟨R, rfl, by rw [← H.out]; rfl⟩, hB⟩
    · have hlt : i < N := by omega
      have hbx : decide ((i : Int) < ((bl p : Int) - 1) / 2) = true := by rw [HN2.out]; simp; omega
      have hx2 := xor_u64 (fr p (i + 1)) 2 hfl (by omega) _ 2 rfl rfl
      have hg64 : fr p (i + 1) ^^^ 2 < 18446744073709551616 := Nat.xor_lt_two_pow (n := 64) hfl (by omega)
      have HX := Lib.hid hx2
      clear hx2
      by_cases h1 : pg (fr p (i + 1) ^^^ 2) p = 1
      · have hb : (!((pg (fr p (i + 1) ^^^ 2) p : Nat) : Int) == 1) = false := by rw [h1]; rfl
        have hb2 : (((pg (fr p (i + 1) ^^^ 2) p : Nat) : Int) != 1) = false := by rw [h1]; rfl
        have H1 := Lib.hid (show ∀ j, j < i + 1 → pg (fr p (j + 1) ^^^ 2) p = 1 from fun j hj => by
          by_cases e : j = i
          · rw [e]; exact h1
          · exact hall j (by omega))
        clear hall h1
        go_wp2_with fail
        refine (sq1_any _ (fr p (i + 1)) p _ hS hfl hp hp0 w (Nat.le_refl _) hB).mono ?_
        rintro e w2 ⟨rfl, hS2, hB2⟩
        clear hS hB
        go_wp2_with fail
        refine (gcd_any _ _ (fr p (i + 1) ^^^ 2) p _ HX.out rfl hg64 hp).mono ?_
        rintro e w' ⟨rfl, rfl⟩
        go_wp2_with fail
        go_roundw
        case rel => exact ⟨i + 1, by omega, by go_num, H1.out, hS2, hB2⟩
        case measure => simp [intOf]; omega
      · have hb : (!((pg (fr p (i + 1) ^^^ 2) p : Nat) : Int) == 1) = true := by simp; omega
        have hb2 : (((pg (fr p (i + 1) ^^^ 2) p : Nat) : Int) != 1) = true := by simp; omega
        have H := Lib.hid (HF.out i hlt h1)
        clear hall h1
        go_wp2_with fail
        refine (sq1_any _ (fr p (i + 1)) p _ hS hfl hp hp0 w (Nat.le_refl _) hB).mono ?_
        rintro e w2 ⟨rfl, hS2, hB2⟩
        clear hS hB
        go_wp2_with fail
        refine (gcd_any _ _ (fr p (i + 1) ^^^ 2) p _ HX.out rfl hg64 hp).mono ?_
        rintro e w' ⟨rfl, rfl⟩
        go_wp2_with fail
        go_ret
        exact ⟨⟨R, rfl, by rw [← H.out]; rfl⟩, hB2⟩
end Go.Proofs.YtjajojdlgpmpfaaDoor
