/-
  The walk of the law on products and irreducible polynomials. No condition but those in each statement.
-/
import Derived.Test.YtjajojdlgpmpfaaDoorPw3
import Derived.Test.YtjajojdlgpmpfaaDoorFer
namespace Go.Proofs.YtjajojdlgpmpfaaDoor
open Go.RowKit Go.Shelf

theorem irr_as (x : Int) (p : Nat) (b : Bool) (hx : x = (p : Int)) (hp : p < 18446744073709551616) (hb : irB p = b) (w : World) :
    Calls Tryd.prog 27 #[.int .u64 x] w fun e w' => e = .returned (.bool b) ∧ Below w.heap.size w w' := by
  subst hx
  refine (irr_any p w hp).mono ?_
  rintro e w' ⟨⟨b', hb', rfl⟩, hB⟩
  exact ⟨by rw [hb', hb], hB⟩
theorem irB_prod {X Y : Nat} (hX : 2 ≤ bl X) (hY : 2 ≤ bl Y) : irB (cm X Y) = false := by
  refine Bool.eq_false_iff.2 fun h => ?_
  rcases (irr_of_irB h).2 X Y rfl with h1 | h1
  · subst h1; simp at hX
  · subst h1; simp at hY
theorem irB_gcd {p q : Nat} (h : irB p = true) (hr : pm q p ≠ 0) : pg p (pm q p) = 1 := by
  have hi := irr_of_irB h
  rw [pg_comm]
  exact hi.pg fun hd => hr (hd.zero_of_lt (pm_bl q hi.ne0))
theorem x_i2 : irB 2 = true := by decide +kernel
theorem x_i3 : irB 3 = true := by decide +kernel
theorem x_i0 : irB 0 = false := by decide +kernel
theorem x_i1 : irB 1 = false := by decide +kernel

set_option maxRecDepth 100000 in
set_option maxHeartbeats 4000000 in
theorem products_walk (W : World) (a b p q : Int) (wa : (Lit.int .u32 a).wf = true) (wb : (Lit.int .u32 b).wf = true) (wp : (Lit.int .u64 p).wf = true) (wq : (Lit.int .u64 q).wf = true) :
    Calls Tryd.prog 10 #[.int .u32 a, .int .u32 b, .int .u64 p, .int .u64 q] W fun e w' => e = .returned (.bool true) ∧ Below W.heap.size W w' := by
  obtain ⟨p, rfl, hp⟩ := nat_u64 wp
  obtain ⟨q, rfl, hq⟩ := nat_u64 wq
  obtain ⟨a0, a1⟩ := bounds_u32 wa
  obtain ⟨b0, b1⟩ := bounds_u32 wb
  clear wa wb wp wq
  obtain ⟨X, iX⟩ : ∃ X : Nat, max a 2 = (X : Int) := Int.eq_ofNat_of_zero_le (by omega)
  obtain ⟨Y, iY⟩ : ∃ Y : Nat, max b 2 = (Y : Int) := Int.eq_ofNat_of_zero_le (by omega)
  have bX : bl X ≤ 32 := bl_le.2 (by omega)
  have bY : bl Y ≤ 32 := bl_le.2 (by omega)
  have cX : 2 ≤ bl X := bl_ge2.2 (by omega)
  have cY : 2 ≤ bl Y := bl_ge2.2 (by omega)
  have lX : X < 18446744073709551616 := by omega
  have lY : Y < 18446744073709551616 := by omega
  have bZ := (bl_cm (a := X) (b := Y) (by omega) (by omega)).1
  have lZ := lt_of_bl (k := 64) (a := cm X Y) (by omega) (by omega)
  have c1 := mul_as (max a 2) (max b 2) X Y (cm X Y) iX iY lX lY (by omega) rfl
  have c2 := irr_as _ (cm X Y) false rfl lZ (irB_prod cX cY)
  have c3 := fun w => degree_any _ (cm X Y) w rfl lZ
  have c4 := fun w => degree_any (max a 2) X w iX lX
  have c5 := fun w => degree_any (max b 2) Y w iY lY
  obtain ⟨Z, eZ⟩ : ∃ Z, Z = cm X Y := ⟨_, rfl⟩
  rw [← eZ] at bZ lZ
  simp only [← eZ] at c1 c2 c3
  have hdg : ((bl Z : Int) - 1 != (bl X : Int) - 1 + ((bl Y : Int) - 1)) = false := by simp; omega
  have hdg2 : ((bl Z : Int) - 1 == (bl X : Int) - 1 + ((bl Y : Int) - 1)) = true := by simp; omega
  have bZ64 := bl_64 lZ
  clear eZ bZ iX iY cX cY lX lY
  have k2 := irr_as 2 2 true rfl (by omega) x_i2
  have k3 := irr_as 3 3 true rfl (by omega) x_i3
  have k0 := irr_as 0 0 false rfl (by omega) x_i0
  have k1 := irr_as 1 1 false rfl (by omega) x_i1
  cases hirr : irB p with
  | false =>
    have j1 := irr_as (p : Int) p false rfl hp hirr
    clear hirr
    have HB : Below W.heap.size W W := Below.refl _ _
    go_enter Tryd.func10, Tryd.ntmps10
    go_wp2_with fail
    (with_reducible refine (c1 _).mono ?_)
    rintro e w1 ⟨rfl, hB⟩
    have w1b := below_step HB hB
    clear hB HB
    go_wp2_with fail
    (with_reducible refine (c2 _).mono ?_)
    rintro e w2 ⟨rfl, hB⟩
    have w2b := below_step w1b hB
    clear hB w1b
    go_wp2_with fail
    (with_reducible refine (c3 _).mono ?_)
    rintro e w' ⟨rfl, rfl⟩
    go_wp2_with fail
    (with_reducible refine (c4 _).mono ?_)
    rintro e w' ⟨rfl, rfl⟩
    go_wp2_with fail
    (with_reducible refine (c5 _).mono ?_)
    rintro e w' ⟨rfl, rfl⟩
    go_wp2_with fail
    (with_reducible refine (j1 _).mono ?_)
    rintro e w3 ⟨rfl, hB⟩
    have w3b := below_step w2b hB
    clear hB w2b
    go_wp2_with fail
    (with_reducible refine (k2 _).mono ?_)
    rintro e w4 ⟨rfl, hB⟩
    have w4b := below_step w3b hB
    clear hB w3b
    go_wp2_with fail
    (with_reducible refine (k3 _).mono ?_)
    rintro e w5 ⟨rfl, hB⟩
    have w5b := below_step w4b hB
    clear hB w4b
    go_wp2_with fail
    (with_reducible refine (k0 _).mono ?_)
    rintro e w6 ⟨rfl, hB⟩
    have w6b := below_step w5b hB
    clear hB w5b
    go_wp2_with fail
    (with_reducible refine (k1 _).mono ?_)
    rintro e w7 ⟨rfl, hB⟩
    have w7b := below_step w6b hB
    clear hB w6b
    go_wp2_with fail
    (with_reducible refine (awake_any _).mono ?_)
    rintro e w8 ⟨rfl, hB⟩
    have w8b := below_step w7b hB
    go_wp2_with fail
    go_ret
    exact ⟨rfl, w8b⟩
  | true =>
    have j1 := irr_as (p : Int) p true rfl hp hirr
    have hp0 := (irr_of_irB hirr).ne0
    have lr := pm_lt (a := q) (k := 64) hp0 hp
    by_cases hr : pm q p = 0
    · have j2 := div_as (q : Int) (p : Int) q p _ 0 rfl rfl hq hp hp0 rfl (by rw [hr]; rfl)
      obtain ⟨u, eu⟩ : ∃ u, u = pq q p := ⟨_, rfl⟩
      simp only [← eu] at j2
      clear hirr hr lr eu hp0
      have HB : Below W.heap.size W W := Below.refl _ _
      go_enter Tryd.func10, Tryd.ntmps10
      go_wp2_with fail
      (with_reducible refine (c1 _).mono ?_)
      rintro e w1 ⟨rfl, hB⟩
      have w1b := below_step HB hB
      clear hB HB
      go_wp2_with fail
      (with_reducible refine (c2 _).mono ?_)
      rintro e w2 ⟨rfl, hB⟩
      have w2b := below_step w1b hB
      clear hB w1b
      go_wp2_with fail
      (with_reducible refine (c3 _).mono ?_)
      rintro e w' ⟨rfl, rfl⟩
      go_wp2_with fail
      (with_reducible refine (c4 _).mono ?_)
      rintro e w' ⟨rfl, rfl⟩
      go_wp2_with fail
      (with_reducible refine (c5 _).mono ?_)
      rintro e w' ⟨rfl, rfl⟩
      go_wp2_with fail
      (with_reducible refine (j1 _).mono ?_)
      rintro e w3 ⟨rfl, hB⟩
      have w3b := below_step w2b hB
      clear hB w2b
      go_wp2_with fail
      (with_reducible refine (j2 _).mono ?_)
      rintro e w' ⟨rfl, rfl⟩
      go_wp2_with fail
      (with_reducible refine (k2 _).mono ?_)
      rintro e w4 ⟨rfl, hB⟩
      have w4b := below_step w3b hB
      clear hB w3b
      go_wp2_with fail
      (with_reducible refine (k3 _).mono ?_)
      rintro e w5 ⟨rfl, hB⟩
      have w5b := below_step w4b hB
      clear hB w4b
      go_wp2_with fail
      (with_reducible refine (k0 _).mono ?_)
      rintro e w6 ⟨rfl, hB⟩
      have w6b := below_step w5b hB
      clear hB w5b
      go_wp2_with fail
      (with_reducible refine (k1 _).mono ?_)
      rintro e w7 ⟨rfl, hB⟩
      have w7b := below_step w6b hB
      clear hB w6b
      go_wp2_with fail
      (with_reducible refine (awake_any _).mono ?_)
      rintro e w8 ⟨rfl, hB⟩
      have w8b := below_step w7b hB
      go_wp2_with fail
      go_ret
      exact ⟨rfl, w8b⟩
    · have j2 := div_as (q : Int) (p : Int) q p _ _ rfl rfl hq hp hp0 rfl rfl
      have j3 := gcd_as (p : Int) _ p (pm q p) 1 rfl rfl hp lr (irB_gcd hirr hr)
      obtain ⟨u, eu⟩ : ∃ u, u = pq q p := ⟨_, rfl⟩
      obtain ⟨r, er⟩ : ∃ r, r = pm q p := ⟨_, rfl⟩
      simp only [← eu, ← er] at j2
      simp only [← er] at j3 hr
      have hgt : decide (0 < r) = true := by simp; omega
      clear hirr hr lr eu er hp0
      have HB : Below W.heap.size W W := Below.refl _ _
      go_enter Tryd.func10, Tryd.ntmps10
      go_wp2_with fail
      (with_reducible refine (c1 _).mono ?_)
      rintro e w1 ⟨rfl, hB⟩
      have w1b := below_step HB hB
      clear hB HB
      go_wp2_with fail
      (with_reducible refine (c2 _).mono ?_)
      rintro e w2 ⟨rfl, hB⟩
      have w2b := below_step w1b hB
      clear hB w1b
      go_wp2_with fail
      (with_reducible refine (c3 _).mono ?_)
      rintro e w' ⟨rfl, rfl⟩
      go_wp2_with fail
      (with_reducible refine (c4 _).mono ?_)
      rintro e w' ⟨rfl, rfl⟩
      go_wp2_with fail
      (with_reducible refine (c5 _).mono ?_)
      rintro e w' ⟨rfl, rfl⟩
      go_wp2_with fail
      (with_reducible refine (j1 _).mono ?_)
      rintro e w3 ⟨rfl, hB⟩
      have w3b := below_step w2b hB
      clear hB w2b
      go_wp2_with fail
      (with_reducible refine (j2 _).mono ?_)
      rintro e w' ⟨rfl, rfl⟩
      go_wp2_with fail
      (with_reducible refine (j3 _).mono ?_)
      rintro e w' ⟨rfl, rfl⟩
      go_wp2_with fail
      (with_reducible refine (k2 _).mono ?_)
      rintro e w4 ⟨rfl, hB⟩
      have w4b := below_step w3b hB
      clear hB w3b
      go_wp2_with fail
      (with_reducible refine (k3 _).mono ?_)
      rintro e w5 ⟨rfl, hB⟩
      have w5b := below_step w4b hB
      clear hB w4b
      go_wp2_with fail
      (with_reducible refine (k0 _).mono ?_)
      rintro e w6 ⟨rfl, hB⟩
      have w6b := below_step w5b hB
      clear hB w5b
      go_wp2_with fail
      (with_reducible refine (k1 _).mono ?_)
      rintro e w7 ⟨rfl, hB⟩
      have w7b := below_step w6b hB
      clear hB w6b
      go_wp2_with fail
      (with_reducible refine (awake_any _).mono ?_)
      rintro e w8 ⟨rfl, hB⟩
      have w8b := below_step w7b hB
      go_wp2_with fail
      go_ret
      exact ⟨rfl, w8b⟩
end Go.Proofs.YtjajojdlgpmpfaaDoor
