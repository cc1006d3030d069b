/-
  The contracts of poly's functions on plain numbers: Degree, timesX, Div, modulo, mulMod, MulMod, Gcd; for every number of 64 bits.
-/
import Derived.Test.YtdaijbplbnkpeaaDoorRows
import Derived.Test.YtdaijbplbnkpeaaDoorPol
import Derived.Test.YtdaijbplbnkpeaaDoorGcd
import Derived.Test.YtdaijbplbnkpeaaDoorSh
import Derived.Lib.ItoaNum
import Derived.Laws.Bits64
import Derived.Laws.Bits64b
import Derived.WalkKit
import Derived.Lib.Hide
import Derived.WalkSpells
import Derived.WalkLawsBesides
namespace Go.Proofs.YtdaijbplbnkpeaaDoor
open Go.RowKit

theorem retN {k : IntKind} {a b : Int} (h : a = b) : Ending.returned (.int k a) = .returned (.int k b) := by rw [h]

theorem bitLen_bl (x : Nat) (h : x < 18446744073709551616) : Lib.bitLen x = bl x := by
  by_cases h0 : x = 0
  · subst h0; decide
  · obtain ⟨a, b, c⟩ := Lib.bitLenAux_bounds 64 x (by simpa using h) h0
    have h1 := bl_le.2 c
    have h2 := lt_bl.2 b
    unfold Lib.bitLen; omega
theorem bl_64 {x : Nat} (h : x < 18446744073709551616) : bl x ≤ 64 := bl_le.2 (by simpa using h)

set_option maxHeartbeats 400000 in
theorem degree_any (x : Int) (a : Nat) (w : World) (hx : x = (a : Int)) (h : a < 18446744073709551616) :
    Calls Tryd.prog 92 #[.int .u64 x] w fun e w' => e = .returned (.int .i64 ((bl a : Int) - 1)) ∧ w = w' := by
  subst hx
  have hb := bl_64 h
  go_enter Tryd.func92, Tryd.ntmps92
  go_wp2_with (go_at_call 73; refine (Tryd.bits_Len64 _ _ (by omega) (by omega)).mono ?_; rw [Int.toNat_natCast, bitLen_bl a h]; rintro e w' ⟨rfl, rfl⟩)
  go_ret
  exact ⟨rfl, rfl⟩

/-- The step 'times x' on what is short enough. -/
theorem pm_dbl {a m : Nat} (h : bl a < bl m) (h0 : m ≠ 0) : pm (2 * a) m = if bl (2 * a) = bl m then (2 * a) ^^^ m else 2 * a := by
  by_cases ha : a = 0
  · subst ha
    rw [if_neg (by have := bl_pos h0; simp; omega), pm_lt0 (by simpa using bl_pos h0)]
  · have hd := bl_dbl ha
    split
    · rename_i he
      rw [pm_step h0 (by omega), he, Nat.sub_self, Nat.pow_zero, Nat.mul_one]
      exact pm_lt0 (bl_xor_eq he h0)
    · exact pm_lt0 (by omega)

theorem xor_u64 (a b : Nat) (ha : a < 18446744073709551616) (hb : b < 18446744073709551616) (x y : Int) (hx : x = a) (hy : y = b) :
    bits .xor .u64 x y = ((a ^^^ b : Nat) : Int) := by subst hx hy; exact bits_xor_u64_nat a b ha hb

set_option maxHeartbeats 400000 in
theorem timesX_any (x : Int) (a m : Nat) (w : World) (hx : x = (a : Int)) (h : bl a < bl m) (hm : m < 18446744073709551616) :
    Calls Tryd.prog 89 #[.int .u64 x, .int .u64 (m : Int)] w fun e w' => e = .returned (.int .u64 ((pm (2 * a) m : Nat) : Int)) ∧ w = w' := by
  subst hx
  have hb := bl_64 hm
  have h0 : m ≠ 0 := fun hh => by subst hh; simp at h
  have ha2 : a < 9223372036854775808 := by have := bl_le (x := a) (k := 63); simp at this; omega
  have hp := pm_dbl h h0
  clear h
  by_cases hq : bl (2 * a) = bl m
  all_goals
    first | rw [if_pos hq] at hp | rw [if_neg hq] at hp
    have hq2 := hq
    first
      | (have hqb : ((bl (2 * a) : Int) - 1 == (bl m : Int) - 1) = true := by simp; omega)
      | (have hqb : ((bl (2 * a) : Int) - 1 == (bl m : Int) - 1) = false := by simp; omega)
    rw [hp]
    clear hq hq2 hp
    go_enter Tryd.func89, Tryd.ntmps89
    go_wp2_with fail
    refine (degree_any _ (2 * a) _ (by omega) (by omega)).mono ?_
    rintro e w' ⟨rfl, rfl⟩
    go_wp2_with fail
    refine (degree_any _ m _ rfl hm).mono ?_
    rintro e w' ⟨rfl, rfl⟩
    go_wp2_with fail
    go_ret
    exact ⟨retN (by first | omega | exact xor_u64 (2 * a) m (by omega) hm _ _ (by omega) rfl), rfl⟩

theorem or_u64 (a b : Nat) (ha : a < 18446744073709551616) (hb : b < 18446744073709551616) (x y : Int) (hx : x = a) (hy : y = b) :
    bits .or .u64 x y = ((a ||| b : Nat) : Int) := by subst hx hy; exact bits_or_u64_nat a b ha hb
theorem wrapN (n : Nat) (h : n < 18446744073709551616) (x : Int) (hx : x = (n : Int)) : IntKind.u64.wrap x = (n : Int) := by
  subst hx; rw [IntKind.wrap_u64]; omega
theorem or_xor {q i : Nat} (h : q % 2 ^ (i + 1) = 0) : q ||| 2 ^ i = q ^^^ 2 ^ i := by
  have hb : q.testBit i = false := by
    have := Nat.testBit_mod_two_pow q (i + 1) i
    rw [h] at this; simpa using this.symm
  refine Nat.eq_of_testBit_eq fun j => ?_
  rw [Nat.testBit_or, Nat.testBit_xor, Nat.testBit_two_pow]
  by_cases hj : i = j
  · subst hj; simp [hb]
  · simp [hj]
theorem mod_pow_le {q j k : Nat} (h : q % 2 ^ k = 0) (hj : j ≤ k) : q % 2 ^ j = 0 :=
  Nat.mod_eq_zero_of_dvd (Nat.dvd_trans (Nat.pow_dvd_pow 2 hj) (Nat.dvd_of_mod_eq_zero h))

/-- What one round of a division does. -/
theorem div_round {x q m a Q : Nat} (hm0 : m ≠ 0) (hge : bl m ≤ bl x) (hx : x < 18446744073709551616) (hq : q < 18446744073709551616) (hd : q % 2 ^ (bl x + 1 - bl m) = 0) (h1 : pm x m = a) (h2 : q ^^^ pq x m = Q) :
    bl (x ^^^ m * 2 ^ (bl x - bl m)) < bl x ∧ m * 2 ^ (bl x - bl m) < 18446744073709551616 ∧ 2 ^ (bl x - bl m) < 18446744073709551616 ∧ x ^^^ m * 2 ^ (bl x - bl m) < 18446744073709551616 ∧ (q ||| 2 ^ (bl x - bl m)) < 18446744073709551616 ∧
    (q ||| 2 ^ (bl x - bl m)) % 2 ^ (bl (x ^^^ m * 2 ^ (bl x - bl m)) + 1 - bl m) = 0 ∧ pm (x ^^^ m * 2 ^ (bl x - bl m)) m = a ∧ (q ||| 2 ^ (bl x - bl m)) ^^^ pq (x ^^^ m * 2 ^ (bl x - bl m)) m = Q := by
  have hs := step_lt hm0 hge
  have hbx := bl_64 hx
  have hpm := bl_pos hm0
  have e1 : bl (m * 2 ^ (bl x - bl m)) = bl x := by
    have := (bl_cm hm0 (Nat.ne_of_gt (Nat.two_pow_pos (bl x - bl m)))).1
    rw [cm_pow, bl_two_pow] at this; omega
  have l1 : m * 2 ^ (bl x - bl m) < 18446744073709551616 := (bl_le (k := 64)).1 (by omega)
  have l2 : 2 ^ (bl x - bl m) < 18446744073709551616 := (bl_le (k := 64)).1 (by rw [bl_two_pow]; omega)
  have hd1 : q % 2 ^ ((bl x - bl m) + 1) = 0 := by rw [show bl x - bl m + 1 = bl x + 1 - bl m from by omega]; exact hd
  refine ⟨hs, l1, l2, Nat.xor_lt_two_pow (n := 64) hx l1, Nat.or_lt_two_pow (n := 64) hq l2, ?_, ?_, ?_⟩
  · rw [or_xor hd1]
    refine mod_pow_le (k := bl x - bl m) ?_ (by omega)
    rw [Nat.xor_mod_two_pow, mod_pow_le hd1 (by omega), Nat.mod_self]; rfl
  · rw [← pm_step hm0 hge, h1]
  · rw [or_xor hd1, Nat.xor_assoc, ← pq_step hm0 hge, h2]

set_option maxHeartbeats 400000 in
theorem div_any (x : Int) (a m : Nat) (w : World) (hx : x = (a : Int)) (h : a < 18446744073709551616) (hm : m < 18446744073709551616) (hm0 : m ≠ 0) :
    Calls Tryd.prog 87 #[.int .u64 x, .int .u64 (m : Int)] w fun e w' => e = .returned (.tuple #[.int .u64 ((pq a m : Nat) : Int), .int .u64 ((pm a m : Nat) : Int), .int .i64 0]) ∧ w = w' := by
  subst hx
  have hb := bl_64 hm
  have hz : ((m : Int) == 0) = false := by simpa using hm0
  go_enter Tryd.func87, Tryd.ntmps87
  go_wp2_with fail
  go_loop [0, 7, 8] (fun A Q I => ∃ x q : Nat, x < 18446744073709551616 ∧ q < 18446744073709551616 ∧ A = .int .u64 (x : Int) ∧ Q = .int .u64 (q : Int) ∧ q % 2 ^ (bl x + 1 - bl m) = 0 ∧ pm x m = pm a m ∧ q ^^^ pq x m = pq a m) (fun A Q I => bl (intOf A).toNat)
  case atStart => exact ⟨a, 0, h, by omega, rfl, rfl, by simp, rfl, by simp⟩
  case round =>
    obtain ⟨x, q, hx, hq, rfl, rfl, hd, h1, h2⟩ := hrel
    have hbx := bl_64 hx
    by_cases hge : bl m ≤ bl x
    · have hgb : decide ((bl m : Int) - 1 ≤ (bl x : Int) - 1) = true := by simp; omega
      have HR := Lib.hid (div_round hm0 hge hx hq hd h1 h2)
      clear hd h1 h2
      go_wp2_with fail
      refine (degree_any _ x _ rfl hx).mono ?_
      rintro e w' ⟨rfl, rfl⟩
      go_wp2_with fail
      refine (degree_any _ m _ rfl hm).mono ?_
      rintro e w' ⟨rfl, rfl⟩
      go_wp2_with fail
      refine (degree_any _ x _ rfl hx).mono ?_
      rintro e w' ⟨rfl, rfl⟩
      go_wp2_with fail
      refine (degree_any _ m _ rfl hm).mono ?_
      rintro e w' ⟨rfl, rfl⟩
      go_wp2_with fail
      obtain ⟨hs, l1, l2, l3, l4, g1, g2, g3⟩ := HR.out
      have en : ((bl x : Int) - 1 - ((bl m : Int) - 1)).toNat = bl x - bl m := by omega
      have e1 := wrapN _ l1 ((m : Int) * 2 ^ (bl x - bl m)) (by push_cast; rfl)
      have e2 := wrapN _ l2 ((2 : Int) ^ (bl x - bl m)) (by push_cast; rfl)
      have e3 := xor_u64 _ _ hx l1 _ _ rfl rfl
      have e4 := or_u64 _ _ hq l2 _ _ rfl rfl
      go_round
      case rel =>
        rw [en, e1, e2, e3, e4]
        exact ⟨_, _, l3, l4, rfl, rfl, g1, g2, g3⟩
      case measure =>
        rw [en, e1, e3]
        simpa [intOf] using hs
    · have hgb : decide ((bl m : Int) - 1 ≤ (bl x : Int) - 1) = false := by simp; omega
      rw [pm_lt0 (by omega)] at h1
      rw [pq_lt0 (by omega), Nat.xor_zero] at h2
      have H1 := Lib.hid h1
      have H2 := Lib.hid h2
      clear hd h1 h2
      go_wp2_with fail
      refine (degree_any _ x _ rfl hx).mono ?_
      rintro e w' ⟨rfl, rfl⟩
      go_wp2_with fail
      refine (degree_any _ m _ rfl hm).mono ?_
      rintro e w' ⟨rfl, rfl⟩
      go_wp2_with fail
      go_ret3
      exact ⟨by rw [← H1.out, ← H2.out]; rfl, rfl⟩

set_option maxHeartbeats 400000 in
theorem div_zero (x m : Int) (w : World) (hz : (m == 0) = true) :
    Calls Tryd.prog 87 #[.int .u64 x, .int .u64 m] w fun e w' => e = .returned (.tuple #[.int .u64 0, .int .u64 0, .int .i64 2]) ∧ w = w' := by
  go_enter Tryd.func87, Tryd.ntmps87
  go_wp2_with fail
  go_ret3
  exact ⟨rfl, rfl⟩

set_option maxHeartbeats 400000 in
theorem modulo_any (x : Int) (a m : Nat) (w : World) (hx : x = (a : Int)) (h : a < 18446744073709551616) (hm : m < 18446744073709551616) (hm0 : m ≠ 0) :
    Calls Tryd.prog 78 #[.int .u64 x, .int .u64 (m : Int)] w fun e w' => e = .returned (.int .u64 ((pm a m : Nat) : Int)) ∧ w = w' := by
  subst hx
  go_enter Tryd.func78, Tryd.ntmps78
  go_wp2_with fail
  refine (div_any _ a m _ rfl h hm hm0).mono ?_
  rintro e w' ⟨rfl, rfl⟩
  go_wp2_with fail
  go_ret
  exact ⟨rfl, rfl⟩

/-- What the loop of a product modulo m keeps. -/
theorem mulMod_step {b s : Nat} : cm s b = (if b % 2 = 1 then s else 0) ^^^ cm (2 * s) (b / 2) := by
  by_cases h : b % 2 = 1
  · rw [if_pos h]
    conv => lhs; rw [show b = 2 * (b / 2) + 1 from by omega]
    rw [cm_odd, even_cm]
  · rw [if_neg h]
    conv => lhs; rw [show b = 2 * (b / 2) from by omega]
    rw [cm_even, even_cm, Nat.zero_xor]

theorem and1_nat (b : Nat) (h : b < 18446744073709551616) : bits .and .u64 (b : Int) 1 = ((b % 2 : Nat) : Int) := by
  have := bits_and_u64_nat b 1 h (by omega)
  rw [Nat.and_one_is_mod] at this
  simpa using this

/-- One round. -/
theorem mulMod_round {p s b m R : Nat} (hm0 : m ≠ 0) (hm : m < 18446744073709551616) (hs : bl s < bl m) (hp : bl p < bl m) (hR : p ^^^ pm (cm s b) m = R) :
    bl (pm (2 * s) m) < bl m ∧ (b % 2 = 1 → bl (p ^^^ s) < bl m ∧ p ^^^ s < 18446744073709551616 ∧ (p ^^^ s) ^^^ pm (cm (pm (2 * s) m) (b / 2)) m = R) ∧ (b % 2 = 0 → p ^^^ pm (cm (pm (2 * s) m) (b / 2)) m = R) := by
  have e : pm (cm s b) m = (if b % 2 = 1 then s else 0) ^^^ pm (cm (pm (2 * s) m) (b / 2)) m := by
    rw [mulMod_step, pm_xor _ _ hm0, pm_cm_left _ _ hm0]
    split
    · rw [pm_lt0 hs]
    · rw [pm_lt0 (by simpa using bl_pos hm0)]
  refine ⟨pm_bl _ hm0, fun h => ?_, fun h => ?_⟩
  · have h1 : bl (p ^^^ s) < bl m := by have := bl_xor_le p s; omega
    refine ⟨h1, (bl_le (k := 64)).1 (by have := bl_64 hm; omega), ?_⟩
    rw [← hR, e, if_pos h, Nat.xor_assoc]
  · rw [← hR, e, if_neg (by omega), Nat.zero_xor]

set_option maxHeartbeats 400000 in
theorem mulMod_any (x y : Int) (a b m : Nat) (w : World) (hx : x = (a : Int)) (hy : y = (b : Int)) (ha : a < 18446744073709551616) (hb : b < 18446744073709551616) (hm : m < 18446744073709551616) (hm0 : m ≠ 0) :
    Calls Tryd.prog 80 #[.int .u64 x, .int .u64 y, .int .u64 (m : Int)] w fun e w' => e = .returned (.int .u64 ((pm (cm a b) m : Nat) : Int)) ∧ w = w' := by
  subst hx hy
  have hbm := bl_64 hm
  have hA := pm_bl a hm0
  have hcm := pm_cm_left a b hm0
  obtain ⟨R, hR⟩ : ∃ R, R = pm (cm a b) m := ⟨_, rfl⟩
  have HC := Lib.hid (hcm.trans hR.symm)
  have HRR := Lib.hid hR
  clear hcm hR
  go_enter Tryd.func80, Tryd.ntmps80
  go_wp2_with fail
  refine (modulo_any _ a m _ rfl ha hm hm0).mono ?_
  rintro e w' ⟨rfl, rfl⟩
  go_wp2_with fail
  go_loop [1, 7, 8] (fun B P S => ∃ b p s : Nat, b < 18446744073709551616 ∧ p < 18446744073709551616 ∧ s < 18446744073709551616 ∧ B = .int .u64 (b : Int) ∧ P = .int .u64 (p : Int) ∧ S = .int .u64 (s : Int) ∧ bl s < bl m ∧ bl p < bl m ∧ p ^^^ pm (cm s b) m = R) (fun B P S => (intOf B).toNat)
  case atStart => exact ⟨b, 0, pm a m, hb, by omega, pm_lt (k := 64) hm0 hm, rfl, rfl, rfl, hA, by simpa using bl_pos hm0, by rw [Nat.zero_xor]; exact HC.out⟩
  case round =>
    obtain ⟨b, p, s, hb, hp, hs, rfl, rfl, rfl, hsm, hpm, hR⟩ := hrel
    have hs63 : s < 9223372036854775808 := (bl_le (k := 63)).1 (by omega)
    by_cases h0 : b = 0
    · subst h0
      have HE := Lib.hid hR
      clear hR
      go_wp2_with fail
      go_ret
      exact ⟨retN (by have := HE.out; rw [cm_zero, pm_lt0 (by simpa using bl_pos hm0), Nat.xor_zero] at this; rw [this, HRR.out]), rfl⟩
    · have hn0 : (!(b : Int) == 0) = true := by simpa using h0
      have hn1 : ((b : Int) != 0) = true := by simpa using h0
      have ha1 := and1_nat b hb
      obtain ⟨g1, g2, g3⟩ := mulMod_round hm0 hm hsm hpm hR
      have G2 := Lib.hid g2
      have G3 := Lib.hid g3
      clear g2 g3 hR
      by_cases h1 : b % 2 = 1
      · have hq : (((b % 2 : Nat) : Int) == 1) = true := by rw [h1]; rfl
        have H1 := Lib.hid h1
        clear h1
        go_wp2_with fail
        refine (timesX_any _ s m _ rfl hsm hm).mono ?_
        rintro e w' ⟨rfl, rfl⟩
        go_wp2_with fail
        go_round
        case rel =>
          obtain ⟨k1, k2, k3⟩ := G2.out H1.out
          exact ⟨b / 2, p ^^^ s, pm (2 * s) m, by omega, k2, pm_lt (k := 64) hm0 hm, by push_cast; rfl, by rw [xor_u64 _ _ hp hs _ _ rfl rfl], rfl, g1, k1, k3⟩
        case measure => simp [intOf]; omega
      · have h2 : b % 2 = 0 := by omega
        have hq : (((b % 2 : Nat) : Int) == 1) = false := by rw [h2]; rfl
        have H1 := Lib.hid h2
        clear h1 h2
        go_wp2_with fail
        refine (timesX_any _ s m _ rfl hsm hm).mono ?_
        rintro e w' ⟨rfl, rfl⟩
        go_wp2_with fail
        go_round
        case rel =>
          exact ⟨b / 2, p, pm (2 * s) m, by omega, hp, pm_lt (k := 64) hm0 hm, by push_cast; rfl, rfl, rfl, g1, hpm, G3.out H1.out⟩
        case measure => simp [intOf]; omega

set_option maxHeartbeats 400000 in
theorem MulMod_any (x y : Int) (a b m : Nat) (w : World) (hx : x = (a : Int)) (hy : y = (b : Int)) (ha : a < 18446744073709551616) (hb : b < 18446744073709551616) (hm : m < 18446744073709551616) (hm0 : m ≠ 0) :
    Calls Tryd.prog 63 #[.int .u64 x, .int .u64 y, .int .u64 (m : Int)] w fun e w' => e = .returned (.tuple #[.int .u64 ((pm (cm a b) m : Nat) : Int), .int .i64 0]) ∧ w = w' := by
  subst hx hy
  have hz : ((m : Int) == 0) = false := by simpa using hm0
  go_enter Tryd.func63, Tryd.ntmps63
  go_wp2_with fail
  refine (mulMod_any _ _ a b m _ rfl rfl ha hb hm hm0).mono ?_
  rintro e w' ⟨rfl, rfl⟩
  go_wp2_with fail
  go_ret2
  exact ⟨rfl, rfl⟩

set_option maxHeartbeats 400000 in
theorem MulMod_zero (x y m : Int) (w : World) (hz : (m == 0) = true) :
    Calls Tryd.prog 63 #[.int .u64 x, .int .u64 y, .int .u64 m] w fun e w' => e = .returned (.tuple #[.int .u64 0, .int .i64 2]) ∧ w = w' := by
  go_enter Tryd.func63, Tryd.ntmps63
  go_wp2_with fail
  go_ret2
  exact ⟨rfl, rfl⟩

end Go.Proofs.YtdaijbplbnkpeaaDoor
