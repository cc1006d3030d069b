/-
  The walk of the law on quotients and divisors. No condition but those in each statement.
-/
import Derived.Test.YtjajojdlgpmpfaaDoorPw2
namespace Go.Proofs.YtjajojdlgpmpfaaDoor
open Go.RowKit Go.Shelf

theorem div_as (x z : Int) (a m : Nat) (q r : Int) (hx : x = (a : Int)) (hz : z = (m : Int)) (ha : a < 18446744073709551616) (hm : m < 18446744073709551616) (hm0 : m ≠ 0) (hq : ((pq a m : Nat) : Int) = q) (hr : ((pm a m : Nat) : Int) = r) (w : World) :
    Calls Tryd.prog 22 #[.int .u64 x, .int .u64 z] w fun e w' => e = .returned (.tuple #[.int .u64 q, .int .u64 r, .int .i64 0]) ∧ w = w' := by
  subst hz hq hr; exact div_any x a m w hx ha hm hm0
theorem gcd_as (x y : Int) (a b G : Nat) (hx : x = (a : Int)) (hy : y = (b : Int)) (ha : a < 18446744073709551616) (hb : b < 18446744073709551616) (hG : pg a b = G) (w : World) :
    Calls Tryd.prog 24 #[.int .u64 x, .int .u64 y] w fun e w' => e = .returned (.int .u64 (G : Int)) ∧ w = w' := by
  subst hG; exact gcd_any x y a b w hx hy ha hb

/-- The last part: a common factor of both divides their greatest common divisor. -/
theorem both_dv (a b C : Nat) (hC : C ≠ 0) : ((pm (pg (cm a C) (cm b C)) C : Nat) : Int) = 0 := by
  rw [(pm_eq0 hC).2 (pg_great (Dv.self_left C a) (Dv.self_left C b))]; rfl

set_option maxRecDepth 100000 in
set_option maxHeartbeats 8000000 in
theorem divides_walk (W : World) (a b c : Int) (wa : (Lit.int .u64 a).wf = true) (wb : (Lit.int .u64 b).wf = true) (wc : (Lit.int .u64 c).wf = true) :
    Calls Tryd.prog 8 #[.int .u64 a, .int .u64 b, .int .u64 c] W fun e w' => e = .returned (.bool true) ∧ Below W.heap.size W w' := by
  obtain ⟨a, rfl, ha⟩ := nat_u64 wa
  obtain ⟨b, rfl, hb⟩ := nat_u64 wb
  obtain ⟨c, rfl, hc⟩ := nat_u64 wc
  clear wa wb wc
  have ba := bl_64 ha
  have bb := bl_64 hb
  -- the common factor
  have hor := or_u64 (c % 4096) 1 (by omega) (by omega) ((c : Int) % 4096) 1 (by omega) rfl
  obtain ⟨C, hCe⟩ : ∃ C, C = c % 4096 ||| 1 := ⟨_, rfl⟩
  rw [← hCe] at hor
  have lC12 : C < 2 ^ 12 := by rw [hCe]; exact Nat.or_lt_two_pow (by omega) (by omega)
  have lC : C < 18446744073709551616 := by omega
  have hC0 : C ≠ 0 := by have := Nat.right_le_or (n := c % 4096) (m := 1); omega
  have bC : bl C ≤ 12 := bl_le.2 lC12
  obtain ⟨A, hA⟩ : ∃ A, A = a % 1099511627776 := ⟨_, rfl⟩
  obtain ⟨B, hB⟩ : ∃ B, B = b % 1099511627776 := ⟨_, rfl⟩
  have bA : bl A ≤ 40 := by rw [hA]; exact bl_mod a 40
  have bB : bl B ≤ 40 := by rw [hB]; exact bl_mod b 40
  have lA : A < 18446744073709551616 := by omega
  have lB : B < 18446744073709551616 := by omega
  have bX := bl_cm_le A C
  have bY := bl_cm_le B C
  have lX := lt_of_bl (k := 52) (a := cm A C) (by omega) (by omega)
  have lY := lt_of_bl (k := 52) (a := cm B C) (by omega) (by omega)
  have e1 := mul_as ((a : Int) % 1099511627776) (C : Int) A C (cm A C) (by omega) rfl lA lC (by omega) rfl
  have e2 := mul_as ((b : Int) % 1099511627776) (C : Int) B C (cm B C) (by omega) rfl lB lC (by omega) rfl
  have e3 := gcd_as _ _ (cm A C) (cm B C) _ rfl rfl lX lY rfl
  have lG : pg (cm A C) (cm B C) < 18446744073709551616 := lt_of_bl (k := 52) (by have := pg_bl (cm A C) (cm B C); omega) (by omega)
  have e4 := div_as _ (C : Int) (pg (cm A C) (cm B C)) C _ 0 rfl rfl lG lC hC0 rfl (both_dv A B C hC0)
  obtain ⟨X, eX⟩ : ∃ P, P = cm A C := ⟨_, rfl⟩
  obtain ⟨Y, eY⟩ : ∃ P, P = cm B C := ⟨_, rfl⟩
  rw [← eX] at e1 e3
  rw [← eY] at e2 e3
  simp only [← eX, ← eY] at e4
  obtain ⟨H, eH⟩ : ∃ P, P = pg X Y := ⟨_, rfl⟩
  simp only [← eH] at e3 e4
  obtain ⟨U, eU⟩ : ∃ P, P = pq H C := ⟨_, rfl⟩
  simp only [← eU] at e4
  clear eX eY eH eU lG lX lY bX bY bA bB hA hB hCe lC12 bC
  have HOR := Lib.hid hor
  clear hor
  -- the divisor
  have g1 := gcd_as (a : Int) (b : Int) a b (pg a b) rfl rfl ha hb rfl
  have g2 := gcd_as (b : Int) (a : Int) b a (pg a b) rfl rfl hb ha (pg_comm b a)
  have lG : pg a b < 18446744073709551616 := lt_of_bl (k := 64) (by have := pg_bl a b; omega) (by omega)
  have hGz : pg a b = 0 ↔ a = 0 ∧ b = 0 := pg_eq0
  have hGl : ∀ h : pg a b ≠ 0, ((pm a (pg a b) : Nat) : Int) = 0 := fun h => by rw [(pm_eq0 h).2 (pg_left a b)]; rfl
  have hGr : ∀ h : pg a b ≠ 0, ((pm b (pg a b) : Nat) : Int) = 0 := fun h => by rw [(pm_eq0 h).2 (pg_right a b)]; rfl
  have d1 := fun h : pg a b ≠ 0 => div_as (a : Int) ((pg a b : Nat) : Int) a (pg a b) _ 0 rfl rfl ha lG h rfl (hGl h)
  have d2 := fun h : pg a b ≠ 0 => div_as (b : Int) ((pg a b : Nat) : Int) b (pg a b) _ 0 rfl rfl hb lG h rfl (hGr h)
  clear hGl hGr
  obtain ⟨G, eG⟩ : ∃ P, P = pg a b := ⟨_, rfl⟩
  simp only [← eG] at g1 g2 d1 d2 lG hGz
  obtain ⟨q1, eq1⟩ : ∃ P, P = pq a G := ⟨_, rfl⟩
  obtain ⟨q2, eq2⟩ : ∃ P, P = pq b G := ⟨_, rfl⟩
  simp only [← eq1] at d1
  simp only [← eq2] at d2
  clear eG eq1 eq2
  by_cases hb0 : b = 0
  · subst hb0
    by_cases ha0 : a = 0
    · subst ha0
      have hG0 : G = 0 := hGz.2 ⟨rfl, rfl⟩
      subst hG0
      clear d1 d2 hGz
      (try simp only [Int.natCast_zero] at g1)
      (try simp only [Int.natCast_zero] at g2)
      (try simp only [Int.natCast_zero, Int.zero_emod] at e1)
      (try simp only [Int.natCast_zero, Int.zero_emod] at e2)
      simp only [Int.natCast_zero]
      have HB : Below W.heap.size W W := Below.refl _ _
      go_enter Tryd.func8, Tryd.ntmps8
      go_wp2_with fail
      (with_reducible refine (g1 _).mono ?_)
      rintro e w' ⟨rfl, rfl⟩
      go_wp2_with fail
      (with_reducible refine (g2 _).mono ?_)
      rintro e w' ⟨rfl, rfl⟩
      go_wp2_with fail
      rw [HOR.out]
      (with_reducible refine (e1 _).mono ?_)
      rintro e w1 ⟨rfl, hB1⟩
      have hb1 := HB.trans (hB1.mono HB.size)
      go_wp2_with fail
      (try rw [HOR.out])
      (with_reducible refine (e2 _).mono ?_)
      rintro e w2 ⟨rfl, hB2⟩
      have hb2 := below_step hb1 hB2
      clear hB1 hB2 hb1 HB
      go_wp2_with fail
      (with_reducible refine (e3 _).mono ?_)
      rintro e w' ⟨rfl, rfl⟩
      go_wp2_with fail
      (with_reducible refine (e4 _).mono ?_)
      rintro e w' ⟨rfl, rfl⟩
      go_wp2_with fail
      (with_reducible refine (awake_any _).mono ?_)
      rintro e w9 ⟨rfl, hB9⟩
      have hb9 := below_step hb2 hB9
      go_wp2_with fail
      go_ret
      exact ⟨rfl, hb9⟩
    · have hG0 : G ≠ 0 := fun h => ha0 (hGz.1 h).1
      have k1 := d1 hG0
      have k2 := d2 hG0
      have hga : ((G : Int) == 0) = false := by simpa using hG0
      have haz : ((a : Int) == 0) = false := by simpa using ha0
      have hgp : decide (0 < G) = true := by simp; omega
      clear d1 d2 hGz ha0 hG0
      (try simp only [Int.natCast_zero] at g1)
      (try simp only [Int.natCast_zero] at g2)
      (try simp only [Int.natCast_zero, Int.zero_emod] at e1)
      (try simp only [Int.natCast_zero, Int.zero_emod] at e2)
      (try simp only [Int.natCast_zero] at k1)
      (try simp only [Int.natCast_zero] at k2)
      simp only [Int.natCast_zero]
      have HB : Below W.heap.size W W := Below.refl _ _
      go_enter Tryd.func8, Tryd.ntmps8
      go_wp2_with fail
      (with_reducible refine (g1 _).mono ?_)
      rintro e w' ⟨rfl, rfl⟩
      go_wp2_with fail
      (with_reducible refine (g2 _).mono ?_)
      rintro e w' ⟨rfl, rfl⟩
      go_wp2_with fail
      (with_reducible refine (k1 _).mono ?_)
      rintro e w' ⟨rfl, rfl⟩
      go_wp2_with fail
      (with_reducible refine (k2 _).mono ?_)
      rintro e w' ⟨rfl, rfl⟩
      go_wp2_with fail
      rw [HOR.out]
      (with_reducible refine (e1 _).mono ?_)
      rintro e w1 ⟨rfl, hB1⟩
      have hb1 := HB.trans (hB1.mono HB.size)
      go_wp2_with fail
      (try rw [HOR.out])
      (with_reducible refine (e2 _).mono ?_)
      rintro e w2 ⟨rfl, hB2⟩
      have hb2 := below_step hb1 hB2
      clear hB1 hB2 hb1 HB
      go_wp2_with fail
      (with_reducible refine (e3 _).mono ?_)
      rintro e w' ⟨rfl, rfl⟩
      go_wp2_with fail
      (with_reducible refine (e4 _).mono ?_)
      rintro e w' ⟨rfl, rfl⟩
      go_wp2_with fail
      (with_reducible refine (awake_any _).mono ?_)
      rintro e w9 ⟨rfl, hB9⟩
      have hb9 := below_step hb2 hB9
      go_wp2_with fail
      go_ret
      exact ⟨rfl, hb9⟩
  · have hG0 : G ≠ 0 := fun h => hb0 (hGz.1 h).2
    have k1 := d1 hG0
    have k2 := d2 hG0
    have hga : ((G : Int) == 0) = false := by simpa using hG0
    have hbz : ((b : Int) == 0) = false := by simpa using hb0
    have hgp : decide (0 < G) = true := by simp; omega
    have hbp : decide (0 < b) = true := by simp; omega
    have hdv := div_eq a hb0
    have hpb := pq_bl a hb0
    have hrb := pm_bl a hb0
    have lr := pm_lt (a := a) (k := 64) hb0 hb
    have lq : pq a b < 18446744073709551616 := lt_of_bl (k := 64) (by have := bl_pos hb0; omega) (by omega)
    have lk : cm (pq a b) b < 18446744073709551616 := by
      have h : cm (pq a b) b = a ^^^ pm a b := by
        have := congrArg (fun x => x ^^^ pm a b) hdv
        simpa [xor_cr] using this
      rw [h]; exact Nat.xor_lt_two_pow (n := 64) ha lr
    have xk := xor_u64 (cm (pq a b) b) (pm a b) lk lr _ _ rfl rfl
    rw [hdv] at xk
    have j1 := div_as (a : Int) (b : Int) a b _ _ rfl rfl ha hb hb0 rfl rfl
    have j2 := mul_as _ (b : Int) (pq a b) b _ rfl rfl lq hb (by omega) rfl
    obtain ⟨r, er⟩ : ∃ P, P = pm a b := ⟨_, rfl⟩
    simp only [← er] at j1 xk lr hrb
    obtain ⟨q, eq⟩ : ∃ P, P = pq a b := ⟨_, rfl⟩
    simp only [← eq] at j1 j2 xk
    obtain ⟨K, eK⟩ : ∃ P, P = cm q b := ⟨_, rfl⟩
    simp only [← eK] at j2 xk
    have hge : decide ((bl b : Int) - 1 ≤ (bl r : Int) - 1) = false := by simp; omega
    have hge2 : decide (bl b ≤ bl r) = false := by simp; omega
    have brr := bl_64 lr
    clear d1 d2 hGz hb0 hG0 hdv hpb lk lq er eq eK hrb
    by_cases ha0 : a = 0
    · subst ha0
      (try simp only [Int.natCast_zero] at g1)
      (try simp only [Int.natCast_zero] at g2)
      (try simp only [Int.natCast_zero, Int.zero_emod] at e1)
      (try simp only [Int.natCast_zero, Int.zero_emod] at e2)
      (try simp only [Int.natCast_zero] at k1)
      (try simp only [Int.natCast_zero] at k2)
      (try simp only [Int.natCast_zero] at j1)
      (try simp only [Int.natCast_zero] at j2)
      (try simp only [Int.natCast_zero] at xk)
      simp only [Int.natCast_zero]
      go_enter Tryd.func8, Tryd.ntmps8
      go_wp2_with fail
      (with_reducible refine (j1 _).mono ?_)
      rintro e w' ⟨rfl, rfl⟩
      go_wp2_with fail
      (with_reducible refine (j2 _).mono ?_)
      rintro e w0 ⟨rfl, HB⟩
      clear j1 j2
      go_wp2_with fail
      (with_reducible refine (degree_any _ r _ rfl lr).mono ?_)
      rintro e w' ⟨rfl, rfl⟩
      go_wp2_with fail
      (with_reducible refine (degree_any _ b _ rfl hb).mono ?_)
      rintro e w' ⟨rfl, rfl⟩
      go_wp2_with fail
      (with_reducible refine (g1 _).mono ?_)
      rintro e w' ⟨rfl, rfl⟩
      go_wp2_with fail
      (with_reducible refine (g2 _).mono ?_)
      rintro e w' ⟨rfl, rfl⟩
      go_wp2_with fail
      (with_reducible refine (k1 _).mono ?_)
      rintro e w' ⟨rfl, rfl⟩
      go_wp2_with fail
      (with_reducible refine (k2 _).mono ?_)
      rintro e w' ⟨rfl, rfl⟩
      go_wp2_with fail
      rw [HOR.out]
      (with_reducible refine (e1 _).mono ?_)
      rintro e w1 ⟨rfl, hB1⟩
      have hb1 := HB.trans (hB1.mono HB.size)
      go_wp2_with fail
      (try rw [HOR.out])
      (with_reducible refine (e2 _).mono ?_)
      rintro e w2 ⟨rfl, hB2⟩
      have hb2 := below_step hb1 hB2
      clear hB1 hB2 hb1 HB
      go_wp2_with fail
      (with_reducible refine (e3 _).mono ?_)
      rintro e w' ⟨rfl, rfl⟩
      go_wp2_with fail
      (with_reducible refine (e4 _).mono ?_)
      rintro e w' ⟨rfl, rfl⟩
      go_wp2_with fail
      (with_reducible refine (awake_any _).mono ?_)
      rintro e w9 ⟨rfl, hB9⟩
      have hb9 := below_step hb2 hB9
      go_wp2_with fail
      go_ret
      exact ⟨rfl, hb9⟩
    · have haz : ((a : Int) == 0) = false := by simpa using ha0
      clear ha0
      go_enter Tryd.func8, Tryd.ntmps8
      go_wp2_with fail
      (with_reducible refine (j1 _).mono ?_)
      rintro e w' ⟨rfl, rfl⟩
      go_wp2_with fail
      (with_reducible refine (j2 _).mono ?_)
      rintro e w0 ⟨rfl, HB⟩
      clear j1 j2
      go_wp2_with fail
      (with_reducible refine (degree_any _ r _ rfl lr).mono ?_)
      rintro e w' ⟨rfl, rfl⟩
      go_wp2_with fail
      (with_reducible refine (degree_any _ b _ rfl hb).mono ?_)
      rintro e w' ⟨rfl, rfl⟩
      go_wp2_with fail
      (with_reducible refine (g1 _).mono ?_)
      rintro e w' ⟨rfl, rfl⟩
      go_wp2_with fail
      (with_reducible refine (g2 _).mono ?_)
      rintro e w' ⟨rfl, rfl⟩
      go_wp2_with fail
      (with_reducible refine (k1 _).mono ?_)
      rintro e w' ⟨rfl, rfl⟩
      go_wp2_with fail
      (with_reducible refine (k2 _).mono ?_)
      rintro e w' ⟨rfl, rfl⟩
      go_wp2_with fail
      rw [HOR.out]
      (with_reducible refine (e1 _).mono ?_)
      rintro e w1 ⟨rfl, hB1⟩
      have hb1 := HB.trans (hB1.mono HB.size)
      go_wp2_with fail
      (try rw [HOR.out])
      (with_reducible refine (e2 _).mono ?_)
      rintro e w2 ⟨rfl, hB2⟩
      have hb2 := below_step hb1 hB2
      clear hB1 hB2 hb1 HB
      go_wp2_with fail
      (with_reducible refine (e3 _).mono ?_)
      rintro e w' ⟨rfl, rfl⟩
      go_wp2_with fail
      (with_reducible refine (e4 _).mono ?_)
      rintro e w' ⟨rfl, rfl⟩
      go_wp2_with fail
      (with_reducible refine (awake_any _).mono ?_)
      rintro e w9 ⟨rfl, hB9⟩
      have hb9 := below_step hb2 hB9
      go_wp2_with fail
      go_ret
      exact ⟨rfl, hb9⟩
end Go.Proofs.YtjajojdlgpmpfaaDoor
