/-
  The walk of the law on products and sums. No condition but those in each statement.
-/
import Derived.Test.YtjajojdlgpmpfaaDoorPaw
namespace Go.Proofs.YtjajojdlgpmpfaaDoor
open Go.RowKit Go.Shelf

theorem mul_as (x y : Int) (a b P : Nat) (hx : x = (a : Int)) (hy : y = (b : Int)) (ha : a < 18446744073709551616) (hb : b < 18446744073709551616) (hs : bl a + bl b ≤ 65) (hP : cm a b = P) (w : World) :
    Calls Tryd.prog 20 #[.int .u64 x, .int .u64 y] w fun e w' => e = .returned (.tuple #[.int .u64 (P : Int), .int .i64 0]) ∧ Below w.heap.size w w' := by
  subst hP; exact mul_any x y a b w hx hy ha hb hs
theorem MulMod_as (x y z : Int) (a b m P : Nat) (hx : x = (a : Int)) (hy : y = (b : Int)) (hz : z = (m : Int)) (ha : a < 18446744073709551616) (hb : b < 18446744073709551616) (hm : m < 18446744073709551616) (hm0 : m ≠ 0) (hP : pm (cm a b) m = P) (w : World) :
    Calls Tryd.prog 21 #[.int .u64 x, .int .u64 y, .int .u64 z] w fun e w' => e = .returned (.tuple #[.int .u64 (P : Int), .int .i64 0]) ∧ w = w' := by
  subst hP hz; exact MulMod_any x y a b m w hx hy ha hb hm hm0
theorem bl_mod (a k : Nat) : bl (a % 2 ^ k) ≤ k := bl_le.2 (Nat.mod_lt _ (Nat.two_pow_pos k))
theorem lt_of_bl {a k : Nat} (h : bl a ≤ k) (hk : k ≤ 64) : a < 18446744073709551616 := (bl_le (k := 64)).1 (by omega)

set_option maxRecDepth 100000 in
set_option maxHeartbeats 4000000 in
theorem ring_walk (W : World) (a b c m : Int) (wa : (Lit.int .u64 a).wf = true) (wb : (Lit.int .u64 b).wf = true) (wc : (Lit.int .u64 c).wf = true) (wm : (Lit.int .u64 m).wf = true) :
    Calls Tryd.prog 7 #[.int .u64 a, .int .u64 b, .int .u64 c, .int .u64 m] W fun e w' => e = .returned (.bool true) ∧ Below W.heap.size W w' := by
  obtain ⟨a, rfl, ha⟩ := nat_u64 wa
  obtain ⟨b, rfl, hb⟩ := nat_u64 wb
  obtain ⟨c, rfl, hc⟩ := nat_u64 wc
  obtain ⟨m, rfl, hm⟩ := nat_u64 wm
  clear wa wb wc wm
  obtain ⟨X, hX⟩ : ∃ X, X = a % 1048576 := ⟨_, rfl⟩
  obtain ⟨Y, hY⟩ : ∃ Y, Y = b % 1048576 := ⟨_, rfl⟩
  obtain ⟨Z, hZ⟩ : ∃ Z, Z = c % 1048576 := ⟨_, rfl⟩
  have iX : (a : Int) % 1048576 = (X : Int) := by omega
  have iY : (b : Int) % 1048576 = (Y : Int) := by omega
  have iZ : (c : Int) % 1048576 = (Z : Int) := by omega
  have bX : bl X ≤ 20 := by rw [hX]; exact bl_mod a 20
  have bY : bl Y ≤ 20 := by rw [hY]; exact bl_mod b 20
  have bZ : bl Z ≤ 20 := by rw [hZ]; exact bl_mod c 20
  have lX : X < 18446744073709551616 := by omega
  have lY : Y < 18446744073709551616 := by omega
  have lZ : Z < 18446744073709551616 := by omega
  have ba := bl_64 ha
  have bXY := bl_cm_le X Y
  have bYZ := bl_cm_le Y Z
  have bXZ := bl_cm_le X Z
  have bYxZ := bl_xor_le Y Z
  have lXY := lt_of_bl (k := 40) (a := cm X Y) (by omega) (by omega)
  have lYZ := lt_of_bl (k := 40) (a := cm Y Z) (by omega) (by omega)
  have lXZ := lt_of_bl (k := 40) (a := cm X Z) (by omega) (by omega)
  have lYxZ := lt_of_bl (k := 20) (a := Y ^^^ Z) (by omega) (by omega)
  have xYZ := xor_u64 Y Z lY lZ _ _ rfl rfl
  have xS := xor_u64 (cm X Y) (cm X Z) lXY lXZ _ _ rfl rfl
  have c1 := mul_as (X : Int) (Y : Int) X Y (cm X Y) rfl rfl lX lY (by omega) rfl
  have c2 := mul_as (Y : Int) (X : Int) Y X (cm X Y) rfl rfl lY lX (by omega) (cm_comm _ _)
  have c3 := mul_as (Y : Int) (Z : Int) Y Z (cm Y Z) rfl rfl lY lZ (by omega) rfl
  have c4 := mul_as _ _ (cm X Y) Z (cm X (cm Y Z)) rfl rfl lXY lZ (by omega) (cm_assoc _ _ _)
  have c5 := mul_as _ _ X (cm Y Z) (cm X (cm Y Z)) rfl rfl lX lYZ (by omega) rfl
  have c6 := mul_as (X : Int) (Z : Int) X Z (cm X Z) rfl rfl lX lZ (by omega) rfl
  have c7 := mul_as _ _ X (Y ^^^ Z) (cm X Y ^^^ cm X Z) rfl xYZ lX lYxZ (by omega) (cm_xor_right _ _ _)
  have c8 := mul_as (a : Int) 1 a 1 a rfl rfl ha (by omega) (by simp; omega) (cm_one _)
  obtain ⟨XY, eXY⟩ : ∃ P, P = cm X Y := ⟨_, rfl⟩
  obtain ⟨YZ, eYZ⟩ : ∃ P, P = cm Y Z := ⟨_, rfl⟩
  rw [← eYZ] at c3 c4 c5
  rw [← eXY] at c1 c2 c4 c7 xS
  obtain ⟨XYZ, eXYZ⟩ : ∃ P, P = cm X YZ := ⟨_, rfl⟩
  obtain ⟨XZ, eXZ⟩ : ∃ P, P = cm X Z := ⟨_, rfl⟩
  rw [← eXYZ] at c4 c5
  rw [← eXZ] at c6 c7 xS
  rw [← xS] at c7
  clear eXY eYZ eXYZ eXZ hX hY hZ bXY bYZ bXZ bYxZ lXY lYZ lXZ lYxZ xYZ xS bX bY bZ
  -- modulo m
  obtain ⟨M, hM⟩ : ∃ M, M = max m 1 := ⟨_, rfl⟩
  have iM : max (m : Int) 1 = (M : Int) := by omega
  have lM : M < 18446744073709551616 := by omega
  have hM0 : M ≠ 0 := by omega
  have lbc : b ^^^ c < 18446744073709551616 := Nat.xor_lt_two_pow (n := 64) hb hc
  have xbc := xor_u64 b c hb hc _ _ rfl rfl
  have lP := pm_lt (a := cm a b) (k := 64) hM0 lM
  have lQ := pm_lt (a := cm b c) (k := 64) hM0 lM
  have lT := pm_lt (a := cm a c) (k := 64) hM0 lM
  have xPT := xor_u64 _ _ lP lT _ _ rfl rfl
  have d1 := MulMod_as (a : Int) (b : Int) M a b M (pm (cm a b) M) rfl rfl rfl ha hb lM hM0 rfl
  have d2 := MulMod_as (b : Int) (c : Int) M b c M (pm (cm b c) M) rfl rfl rfl hb hc lM hM0 rfl
  have d3 := MulMod_as _ (c : Int) M (pm (cm a b) M) c M (pm (cm a (cm b c)) M) rfl rfl rfl lP hc lM hM0 (by rw [pm_cm_left _ _ hM0, cm_assoc])
  have d4 := MulMod_as (a : Int) _ M a (pm (cm b c) M) M (pm (cm a (cm b c)) M) rfl rfl rfl ha lQ lM hM0 (pm_cm_right _ _ hM0)
  have d5 := MulMod_as (a : Int) (c : Int) M a c M (pm (cm a c) M) rfl rfl rfl ha hc lM hM0 rfl
  have d6 := MulMod_as (a : Int) _ M a (b ^^^ c) M (pm (cm a b) M ^^^ pm (cm a c) M) rfl xbc rfl ha lbc lM hM0 (by rw [cm_xor_right, pm_xor _ _ hM0])
  have d7 := fun w => div_any (a : Int) a M w rfl ha lM hM0
  have d8 := MulMod_as (a : Int) 1 M a 1 M (pm a M) rfl rfl rfl ha (by omega) lM hM0 (by rw [cm_one])
  have bP := pm_bl (cm a b) hM0
  have bM := bl_64 lM
  obtain ⟨P, eP⟩ : ∃ P, P = pm (cm a b) M := ⟨_, rfl⟩
  obtain ⟨Q, eQ⟩ : ∃ P, P = pm (cm b c) M := ⟨_, rfl⟩
  obtain ⟨R, eR⟩ : ∃ P, P = pm (cm a (cm b c)) M := ⟨_, rfl⟩
  obtain ⟨T, eT⟩ : ∃ P, P = pm (cm a c) M := ⟨_, rfl⟩
  obtain ⟨V, eV⟩ : ∃ P, P = pm a M := ⟨_, rfl⟩
  rw [← eP] at d1 d3 d6 bP lP xPT
  rw [← eQ] at d2 d4
  rw [← eR] at d3 d4
  rw [← eT] at d5 d6 xPT
  rw [← xPT] at d6
  rw [← eV] at d8
  simp only [← eV] at d7
  have hlt : decide ((bl P : Int) - 1 < max ((bl M : Int) - 1) 1) = true := by simp; omega
  clear eP eQ eR eT eV lQ lT xPT hM xbc lbc bP
  have IM := Lib.hid iM
  clear iM
  go_enter Tryd.func7, Tryd.ntmps7
  go_wp2_with fail
  refine (c1 _).mono ?_
  rintro e w1 ⟨rfl, hB1⟩
  go_wp2_with fail
  refine (c2 _).mono ?_
  rintro e w2 ⟨rfl, hB2⟩
  have hb2 := below_step hB1 hB2
  clear hB1 hB2
  go_wp2_with fail
  refine (c3 _).mono ?_
  rintro e w3 ⟨rfl, hB3⟩
  have hb3 := below_step hb2 hB3
  clear hb2 hB3
  go_wp2_with fail
  refine (c4 _).mono ?_
  rintro e w4 ⟨rfl, hB4⟩
  have hb4 := below_step hb3 hB4
  clear hb3 hB4
  go_wp2_with fail
  refine (c5 _).mono ?_
  rintro e w5 ⟨rfl, hB5⟩
  have hb5 := below_step hb4 hB5
  clear hb4 hB5
  go_wp2_with fail
  refine (c6 _).mono ?_
  rintro e w6 ⟨rfl, hB6⟩
  have hb6 := below_step hb5 hB6
  clear hb5 hB6
  go_wp2_with fail
  refine (c7 _).mono ?_
  rintro e w7 ⟨rfl, hB7⟩
  have hb7 := below_step hb6 hB7
  clear hb6 hB7
  go_wp2_with fail
  refine (c8 _).mono ?_
  rintro e w8 ⟨rfl, hB8⟩
  have hb8 := below_step hb7 hB8
  clear hb7 hB8 c1 c2 c3 c4 c5 c6 c7 c8
  go_wp2_with fail
  rw [IM.out]
  clear IM
  refine (d1 _).mono ?_
  rintro e w' ⟨rfl, rfl⟩
  clear d1
  go_wp2_with fail
  refine (d2 _).mono ?_
  rintro e w' ⟨rfl, rfl⟩
  clear d2
  go_wp2_with fail
  refine (d3 _).mono ?_
  rintro e w' ⟨rfl, rfl⟩
  clear d3
  go_wp2_with fail
  refine (d4 _).mono ?_
  rintro e w' ⟨rfl, rfl⟩
  clear d4
  go_wp2_with fail
  refine (d5 _).mono ?_
  rintro e w' ⟨rfl, rfl⟩
  clear d5
  go_wp2_with fail
  refine (d6 _).mono ?_
  rintro e w' ⟨rfl, rfl⟩
  clear d6
  go_wp2_with fail
  refine (d7 _).mono ?_
  rintro e w' ⟨rfl, rfl⟩
  clear d7
  go_wp2_with fail
  refine (d8 _).mono ?_
  rintro e w' ⟨rfl, rfl⟩
  clear d8
  go_wp2_with fail
  refine (degree_any _ P _ rfl lP).mono ?_
  rintro e w' ⟨rfl, rfl⟩
  go_wp2_with fail
  refine (degree_any _ M _ rfl lM).mono ?_
  rintro e w' ⟨rfl, rfl⟩
  go_wp2_with fail
  refine (awake_any _).mono ?_
  rintro e w9 ⟨rfl, hB9⟩
  have hb9 := below_step hb8 hB9
  clear hb8 hB9
  go_wp2_with fail
  go_ret
  exact ⟨rfl, hb9⟩
end Go.Proofs.YtjajojdlgpmpfaaDoor
