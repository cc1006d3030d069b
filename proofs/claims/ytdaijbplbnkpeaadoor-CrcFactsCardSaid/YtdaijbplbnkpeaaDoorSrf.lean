/-
  The library's sort at uint32: partitionOrdered.
-/
import Derived.Test.YtdaijbplbnkpeaaDoorSre
namespace Go.Proofs.YtdaijbplbnkpeaaDoor
open Go.RowKit Go.Shelf

set_option maxRecDepth 100000 in
set_option maxHeartbeats 16000000 in
theorem part_any' (base g n c : Nat) (a b p : Nat) (M : List Int) (w : World) (hA : Rw base g n c w M) (hap : a ≤ p) (hpb : p < b) (hbn : b ≤ n) (hn' : n ≤ 4294967296) :
    Calls Tryd.prog 71 #[.slice (some ⟨g, 0, none⟩) n c, .int .i64 (a : Int), .int .i64 (b : Int), .int .i64 (p : Int)] w fun e w' => ∃ (m : Nat) (q : Bool) (M' : List Int), e = .returned (.tuple #[.int .i64 (m : Int), .bool q]) ∧ a ≤ m ∧ m < b ∧ M'.Perm M ∧ Rw base g n c w' M' ∧ Below base w w' := by
  have i1 : (a : Int) < (n : Int) := by omega
  have i2 : (p : Int) < (n : Int) := by omega
  have hB0 : Below base w w := Below.refl _ _
  have hP0 : M.Perm M := List.Perm.refl _
  obtain ⟨y, hy⟩ : ∃ y : Nat, b - 1 = y := ⟨_, rfl⟩
  have ey : (b : Int) - 1 = (y : Int) := by omega
  have hya : a ≤ y := by omega
  have hyb : y < b := by omega
  clear hy
  go_enter Tryd.func71, Tryd.ntmps71
  obtain ⟨A, B, M1, hPs, cA, cB, r1, r2, b1, b2⟩ := hA.swp (i := a) (j := p) (by omega) (by omega)
  have f1 := hA.frz a
  have f2 := hA.frz p
  have m1 := (hA.set a B).at (j := p) (by omega)
  obtain ⟨V1, hV1⟩ : ∃ v, v = (M.set a B)[p]?.getD 0 := ⟨_, rfl⟩
  rw [← hV1] at m1
  obtain ⟨w0, hw3⟩ : ∃ wz, wz = ((w.setCell ⟨g, a, none⟩ (.int .u32 B)).setCell ⟨g, p, none⟩ (.int .u32 A)).drew := ⟨_, rfl⟩
  have hR := r1.drew
  have hB := (hB0.trans b1).drew
  rw [← hw3] at hR hB
  have HW3 := Lib.hid hw3
  have hP := hPs.trans hP0
  clear hV1 r1 r2 b1 b2 hw3 hA hB0 hP0 hPs
  go_wp2_with fail
  go_region
  rw [← HW3.out]
  clear f1 f2 cA cB m1 HW3
  go_wp2_with fail
  go_loopw [10] (fun I wr => ∃ (i : Nat), a < i ∧ i ≤ b ∧ I = .int .i64 (i : Int) ∧ Rw base g n c wr M1 ∧ Below base w wr) (fun I _ => b - (intOf I).toNat)
  case atStart => exact ⟨a + 1, by omega, by omega, by go_num, hR, hB⟩
  case round =>
    obtain ⟨ri3, hai, hib, rfl, hR, hB⟩ := hrel
    obtain ⟨zzu1, hwv⟩ : ∃ wz, wz = wr := ⟨_, rfl⟩
    subst hwv
    by_cases hle : ri3 ≤ y
    · have hd : decide ((ri3 : Int) ≤ (y : Int)) = true := by simp; omega
      have hdn : decide (ri3 ≤ y) = true := by simp; omega
      have i3 : (ri3 : Int) < (n : Int) := by omega
      have cX := hR.at (j := ri3) (by omega)
      have cY := hR.at (j := a) (by omega)
      obtain ⟨VX, hVX⟩ : ∃ v, v = M1[ri3]?.getD 0 := ⟨_, rfl⟩
      obtain ⟨VY, hVY⟩ : ∃ v, v = M1[a]?.getD 0 := ⟨_, rfl⟩
      rw [← hVX] at cX
      rw [← hVY] at cY
      have ql := fun w => less_q VX VY w
      obtain ⟨bb, hbb⟩ : ∃ bb, bb = decide (VX < VY) := ⟨_, rfl⟩
      simp only [← hbb] at ql
      clear hVX hVY hbb
      go_wp2_with fail
      go_quiet ((go_at_call 53; exact Calls.quiet_of_same (ql _)))
      have hR := hR.drewN nq
      have hB := below_drewN hB nq
      obtain ⟨zzv2, hwn⟩ : ∃ wz, wz = zzu1.drewN nq := ⟨_, rfl⟩
      rw [← hwn] at hR hB ⊢
      clear hwn cX cY ql
      cases bb with
      | true =>
        go_wp2_with fail
        go_roundw
        case rel => exact ⟨ri3 + 1, by omega, by omega, by go_num, hR, hB⟩
        case measure => simp [intOf]; omega
      | false =>
        go_wp2_with fail
        clear hd hdn
        go_loopw [11] (fun J wr => ∃ (j : Nat), a ≤ j ∧ j ≤ y ∧ J = .int .i64 (j : Int) ∧ Rw base g n c wr M1 ∧ Below base w wr) (fun J _ => (intOf J).toNat)
        case atStart => exact ⟨y, by omega, by omega, rfl, hR, hB⟩
        case round =>
          obtain ⟨rj6, haj, hjb, rfl, hR, hB⟩ := hrel
          obtain ⟨zzu4, hwv⟩ : ∃ wz, wz = wr := ⟨_, rfl⟩
          subst hwv
          by_cases hle : ri3 ≤ rj6
          · have hd : decide ((ri3 : Int) ≤ (rj6 : Int)) = true := by simp; omega
            have hdn : decide (ri3 ≤ rj6) = true := by simp; omega
            have i4 : (rj6 : Int) < (n : Int) := by omega
            have i5 : (ri3 : Int) < (n : Int) := by omega
            have cX := hR.at (j := rj6) (by omega)
            have cY := hR.at (j := a) (by omega)
            obtain ⟨VX, hVX⟩ : ∃ v, v = M1[rj6]?.getD 0 := ⟨_, rfl⟩
            obtain ⟨VY, hVY⟩ : ∃ v, v = M1[a]?.getD 0 := ⟨_, rfl⟩
            rw [← hVX] at cX
            rw [← hVY] at cY
            have ql := fun w => less_q VX VY w
            obtain ⟨bb, hbb⟩ : ∃ bb, bb = decide (VX < VY) := ⟨_, rfl⟩
            simp only [← hbb] at ql
            clear hVX hVY hbb
            go_wp2_with fail
            go_quiet ((go_at_call 53; exact Calls.quiet_of_same (ql _)))
            have hR := hR.drewN nq
            have hB := below_drewN hB nq
            obtain ⟨zzv5, hwn⟩ : ∃ wz, wz = zzu4.drewN nq := ⟨_, rfl⟩
            rw [← hwn] at hR hB ⊢
            clear hwn cX cY ql
            cases bb with
            | false =>
              go_wp2_with fail
              go_roundw
              case rel => exact ⟨rj6 - 1, by omega, by omega, by go_num, hR, hB⟩
              case measure => simp [intOf]; omega
            | true =>
              have hd3 : decide ((rj6 : Int) < (ri3 : Int)) = false := by simp; omega
              have hd3b : decide (rj6 < ri3) = false := by simp; omega
              obtain ⟨A, B, M2, hPs, cA, cB, r1, r2, b1, b2⟩ := hR.swp (i := ri3) (j := rj6) (by omega) (by omega)
              have f1 := hR.frz ri3
              have f2 := hR.frz rj6
              have m1 := (hR.set ri3 B).at (j := rj6) (by omega)
              obtain ⟨V1, hV1⟩ : ∃ v, v = (M1.set ri3 B)[rj6]?.getD 0 := ⟨_, rfl⟩
              rw [← hV1] at m1
              obtain ⟨zzs7, hw3⟩ : ∃ wz, wz = ((zzv5.setCell ⟨g, ri3, none⟩ (.int .u32 B)).setCell ⟨g, rj6, none⟩ (.int .u32 A)).drew := ⟨_, rfl⟩
              have hR6 := r1.drew
              have hB6 := (hB.trans b1).drew
              rw [← hw3] at hR6 hB6
              have HW3 := Lib.hid hw3
              have hP6 := hPs.trans hP
              clear hV1 r1 r2 b1 b2 hw3 hR hB hP hPs
              go_wp2_with fail
              go_region
              all_goals
                rw [← HW3.out]
                clear f1 f2 cA cB m1 HW3
                clear hd hdn hd3 hd3b
                go_wp2_with fail
                go_loopw [10, 11] (fun I J wr => ∃ (i j : Nat) (M' : List Int), a < i ∧ i ≤ b ∧ a ≤ j ∧ j < b ∧ I = .int .i64 (i : Int) ∧ J = .int .i64 (j : Int) ∧ M'.Perm M ∧ Rw base g n c wr M' ∧ Below base w wr) (fun I J _ => (intOf J).toNat)
                case atStart => exact ⟨ri3 + 1, rj6 - 1, M2, by omega, by omega, by omega, by omega, by go_num, by go_num, hP6, hR6, hB6⟩
                case round =>
                  obtain ⟨ri9, rj10, M1, hai2, hib2, haj2, hjb2, rfl, rfl, hP, hR, hB⟩ := hrel
                  obtain ⟨zzl8, hwv⟩ : ∃ wz, wz = wr := ⟨_, rfl⟩
                  subst hwv
                  clear hP6 hR6 hB6
                  go_wp2_with fail
                  go_loopw [10] (fun I wr => ∃ (i : Nat), a < i ∧ i ≤ b ∧ I = .int .i64 (i : Int) ∧ Rw base g n c wr M1 ∧ Below base w wr) (fun I _ => b - (intOf I).toNat)
                  case atStart => exact ⟨ri9, by omega, by omega, by go_num, hR, hB⟩
                  case round =>
                    obtain ⟨ri13, hai, hib, rfl, hR, hB⟩ := hrel
                    obtain ⟨zzu11, hwv⟩ : ∃ wz, wz = wr := ⟨_, rfl⟩
                    subst hwv
                    by_cases hle : ri13 ≤ rj10
                    · have hd : decide ((ri13 : Int) ≤ (rj10 : Int)) = true := by simp; omega
                      have hdn : decide (ri13 ≤ rj10) = true := by simp; omega
                      have i3 : (ri13 : Int) < (n : Int) := by omega
                      have cX := hR.at (j := ri13) (by omega)
                      have cY := hR.at (j := a) (by omega)
                      obtain ⟨VX, hVX⟩ : ∃ v, v = M1[ri13]?.getD 0 := ⟨_, rfl⟩
                      obtain ⟨VY, hVY⟩ : ∃ v, v = M1[a]?.getD 0 := ⟨_, rfl⟩
                      rw [← hVX] at cX
                      rw [← hVY] at cY
                      have ql := fun w => less_q VX VY w
                      obtain ⟨bb, hbb⟩ : ∃ bb, bb = decide (VX < VY) := ⟨_, rfl⟩
                      simp only [← hbb] at ql
                      clear hVX hVY hbb
                      go_wp2_with fail
                      go_quiet ((go_at_call 53; exact Calls.quiet_of_same (ql _)))
                      have hR := hR.drewN nq
                      have hB := below_drewN hB nq
                      obtain ⟨zzv12, hwn⟩ : ∃ wz, wz = zzu11.drewN nq := ⟨_, rfl⟩
                      rw [← hwn] at hR hB ⊢
                      clear hwn cX cY ql
                      cases bb with
                      | true =>
                        go_wp2_with fail
                        go_roundw
                        case rel => exact ⟨ri13 + 1, by omega, by omega, by go_num, hR, hB⟩
                        case measure => simp [intOf]; omega
                      | false =>
                        go_wp2_with fail
                        clear hd hdn
                        go_loopw [11] (fun J wr => ∃ (j : Nat), a ≤ j ∧ j ≤ rj10 ∧ J = .int .i64 (j : Int) ∧ Rw base g n c wr M1 ∧ Below base w wr) (fun J _ => (intOf J).toNat)
                        case atStart => exact ⟨rj10, by omega, by omega, rfl, hR, hB⟩
                        case round =>
                          obtain ⟨rj16, haj, hjb, rfl, hR, hB⟩ := hrel
                          obtain ⟨zzu14, hwv⟩ : ∃ wz, wz = wr := ⟨_, rfl⟩
                          subst hwv
                          by_cases hle : ri13 ≤ rj16
                          · have hd : decide ((ri13 : Int) ≤ (rj16 : Int)) = true := by simp; omega
                            have hdn : decide (ri13 ≤ rj16) = true := by simp; omega
                            have i4 : (rj16 : Int) < (n : Int) := by omega
                            have i5 : (ri13 : Int) < (n : Int) := by omega
                            have cX := hR.at (j := rj16) (by omega)
                            have cY := hR.at (j := a) (by omega)
                            obtain ⟨VX, hVX⟩ : ∃ v, v = M1[rj16]?.getD 0 := ⟨_, rfl⟩
                            obtain ⟨VY, hVY⟩ : ∃ v, v = M1[a]?.getD 0 := ⟨_, rfl⟩
                            rw [← hVX] at cX
                            rw [← hVY] at cY
                            have ql := fun w => less_q VX VY w
                            obtain ⟨bb, hbb⟩ : ∃ bb, bb = decide (VX < VY) := ⟨_, rfl⟩
                            simp only [← hbb] at ql
                            clear hVX hVY hbb
                            go_wp2_with fail
                            go_quiet ((go_at_call 53; exact Calls.quiet_of_same (ql _)))
                            have hR := hR.drewN nq
                            have hB := below_drewN hB nq
                            obtain ⟨zzv15, hwn⟩ : ∃ wz, wz = zzu14.drewN nq := ⟨_, rfl⟩
                            rw [← hwn] at hR hB ⊢
                            clear hwn cX cY ql
                            cases bb with
                            | false =>
                              go_wp2_with fail
                              go_roundw
                              case rel => exact ⟨rj16 - 1, by omega, by omega, by go_num, hR, hB⟩
                              case measure => simp [intOf]; omega
                            | true =>
                              have hd3 : decide ((rj16 : Int) < (ri13 : Int)) = false := by simp; omega
                              have hd3b : decide (rj16 < ri13) = false := by simp; omega
                              obtain ⟨A, B, M2, hPs, cA, cB, r1, r2, b1, b2⟩ := hR.swp (i := ri13) (j := rj16) (by omega) (by omega)
                              have f1 := hR.frz ri13
                              have f2 := hR.frz rj16
                              have m1 := (hR.set ri13 B).at (j := rj16) (by omega)
                              obtain ⟨V1, hV1⟩ : ∃ v, v = (M1.set ri13 B)[rj16]?.getD 0 := ⟨_, rfl⟩
                              rw [← hV1] at m1
                              obtain ⟨zzs17, hw3⟩ : ∃ wz, wz = ((zzv15.setCell ⟨g, ri13, none⟩ (.int .u32 B)).setCell ⟨g, rj16, none⟩ (.int .u32 A)).drew := ⟨_, rfl⟩
                              have hR6 := r1.drew
                              have hB6 := (hB.trans b1).drew
                              rw [← hw3] at hR6 hB6
                              have HW3 := Lib.hid hw3
                              have hP6 := hPs.trans hP
                              clear hV1 r1 r2 b1 b2 hw3 hR hB hP hPs
                              go_wp2_with fail
                              go_region
                              all_goals
                                rw [← HW3.out]
                                clear f1 f2 cA cB m1 HW3
                                go_wp2_with fail
                                go_roundw
                                case rel => exact ⟨ri13 + 1, rj16 - 1, M2, by omega, by omega, by omega, by omega, by go_num, by go_num, hP6, hR6, hB6⟩
                                case measure => simp [intOf]; omega
                          · have hd : decide ((ri13 : Int) ≤ (rj16 : Int)) = false := by simp; omega
                            have hdn : decide (ri13 ≤ rj16) = false := by simp; omega
                            have hd3 : decide ((rj16 : Int) < (ri13 : Int)) = true := by simp; omega
                            have hd3b : decide (rj16 < ri13) = true := by simp; omega
                            have i4 : (rj16 : Int) < (n : Int) := by omega
                            go_wp2_with fail
                            go_quiet (fail)
                            have hR := hR.drewN nq
                            have hB := below_drewN hB nq
                            obtain ⟨zzx18, hwn⟩ : ∃ wz, wz = zzu14.drewN nq := ⟨_, rfl⟩
                            rw [← hwn] at hR hB ⊢
                            clear hwn
                            obtain ⟨A, B, M2, hPs, cA, cB, r1, r2, b1, b2⟩ := hR.swp (i := rj16) (j := a) (by omega) (by omega)
                            have f1 := hR.frz rj16
                            have f2 := hR.frz a
                            have m1 := (hR.set rj16 B).at (j := a) (by omega)
                            obtain ⟨V1, hV1⟩ : ∃ v, v = (M1.set rj16 B)[a]?.getD 0 := ⟨_, rfl⟩
                            rw [← hV1] at m1
                            obtain ⟨zzs19, hw3⟩ : ∃ wz, wz = ((zzx18.setCell ⟨g, rj16, none⟩ (.int .u32 B)).setCell ⟨g, a, none⟩ (.int .u32 A)).drew := ⟨_, rfl⟩
                            have hR6 := r1.drew
                            have hB6 := (hB.trans b1).drew
                            rw [← hw3] at hR6 hB6
                            have HW3 := Lib.hid hw3
                            have hP6 := hPs.trans hP
                            clear hV1 r1 r2 b1 b2 hw3 hR hB hP hPs
                            go_wp2_with fail
                            go_region
                            all_goals
                              rw [← HW3.out]
                              clear f1 f2 cA cB m1 HW3
                              go_wp2_with fail
                              go_ret2
                              exact ⟨rj16, _, M2, rfl, by omega, by omega, hP6, hR6, hB6⟩
                    · have hd : decide ((ri13 : Int) ≤ (rj10 : Int)) = false := by simp; omega
                      have hdn : decide (ri13 ≤ rj10) = false := by simp; omega
                      go_wp2_with fail
                      go_quiet (fail)
                      have hR := hR.drewN nq
                      have hB := below_drewN hB nq
                      obtain ⟨zzx20, hwn⟩ : ∃ wz, wz = zzu11.drewN nq := ⟨_, rfl⟩
                      rw [← hwn] at hR hB ⊢
                      clear hwn
                      go_wp2_with fail
                      clear hd hdn
                      go_loopw [11] (fun J wr => ∃ (j : Nat), a ≤ j ∧ j ≤ rj10 ∧ J = .int .i64 (j : Int) ∧ Rw base g n c wr M1 ∧ Below base w wr) (fun J _ => (intOf J).toNat)
                      case atStart => exact ⟨rj10, by omega, by omega, rfl, hR, hB⟩
                      case round =>
                        obtain ⟨rj23, haj, hjb, rfl, hR, hB⟩ := hrel
                        obtain ⟨zzu21, hwv⟩ : ∃ wz, wz = wr := ⟨_, rfl⟩
                        subst hwv
                        by_cases hle : ri13 ≤ rj23
                        · exact absurd hle (by omega)
                        · have hd : decide ((ri13 : Int) ≤ (rj23 : Int)) = false := by simp; omega
                          have hdn : decide (ri13 ≤ rj23) = false := by simp; omega
                          have hd3 : decide ((rj23 : Int) < (ri13 : Int)) = true := by simp; omega
                          have hd3b : decide (rj23 < ri13) = true := by simp; omega
                          have i4 : (rj23 : Int) < (n : Int) := by omega
                          go_wp2_with fail
                          go_quiet (fail)
                          have hR := hR.drewN nq
                          have hB := below_drewN hB nq
                          obtain ⟨zzx24, hwn⟩ : ∃ wz, wz = zzu21.drewN nq := ⟨_, rfl⟩
                          rw [← hwn] at hR hB ⊢
                          clear hwn
                          obtain ⟨A, B, M2, hPs, cA, cB, r1, r2, b1, b2⟩ := hR.swp (i := rj23) (j := a) (by omega) (by omega)
                          have f1 := hR.frz rj23
                          have f2 := hR.frz a
                          have m1 := (hR.set rj23 B).at (j := a) (by omega)
                          obtain ⟨V1, hV1⟩ : ∃ v, v = (M1.set rj23 B)[a]?.getD 0 := ⟨_, rfl⟩
                          rw [← hV1] at m1
                          obtain ⟨zzs25, hw3⟩ : ∃ wz, wz = ((zzx24.setCell ⟨g, rj23, none⟩ (.int .u32 B)).setCell ⟨g, a, none⟩ (.int .u32 A)).drew := ⟨_, rfl⟩
                          have hR6 := r1.drew
                          have hB6 := (hB.trans b1).drew
                          rw [← hw3] at hR6 hB6
                          have HW3 := Lib.hid hw3
                          have hP6 := hPs.trans hP
                          clear hV1 r1 r2 b1 b2 hw3 hR hB hP hPs
                          go_wp2_with fail
                          go_region
                          all_goals
                            rw [← HW3.out]
                            clear f1 f2 cA cB m1 HW3
                            go_wp2_with fail
                            go_ret2
                            exact ⟨rj23, _, M2, rfl, by omega, by omega, hP6, hR6, hB6⟩
          · have hd : decide ((ri3 : Int) ≤ (rj6 : Int)) = false := by simp; omega
            have hdn : decide (ri3 ≤ rj6) = false := by simp; omega
            have hd3 : decide ((rj6 : Int) < (ri3 : Int)) = true := by simp; omega
            have hd3b : decide (rj6 < ri3) = true := by simp; omega
            have i4 : (rj6 : Int) < (n : Int) := by omega
            go_wp2_with fail
            go_quiet (fail)
            have hR := hR.drewN nq
            have hB := below_drewN hB nq
            obtain ⟨zzx26, hwn⟩ : ∃ wz, wz = zzu4.drewN nq := ⟨_, rfl⟩
            rw [← hwn] at hR hB ⊢
            clear hwn
            obtain ⟨A, B, M2, hPs, cA, cB, r1, r2, b1, b2⟩ := hR.swp (i := rj6) (j := a) (by omega) (by omega)
            have f1 := hR.frz rj6
            have f2 := hR.frz a
            have m1 := (hR.set rj6 B).at (j := a) (by omega)
            obtain ⟨V1, hV1⟩ : ∃ v, v = (M1.set rj6 B)[a]?.getD 0 := ⟨_, rfl⟩
            rw [← hV1] at m1
            obtain ⟨zzs27, hw3⟩ : ∃ wz, wz = ((zzx26.setCell ⟨g, rj6, none⟩ (.int .u32 B)).setCell ⟨g, a, none⟩ (.int .u32 A)).drew := ⟨_, rfl⟩
            have hR6 := r1.drew
            have hB6 := (hB.trans b1).drew
            rw [← hw3] at hR6 hB6
            have HW3 := Lib.hid hw3
            have hP6 := hPs.trans hP
            clear hV1 r1 r2 b1 b2 hw3 hR hB hP hPs
            go_wp2_with fail
            go_region
            all_goals
              rw [← HW3.out]
              clear f1 f2 cA cB m1 HW3
              go_wp2_with fail
              go_ret2
              exact ⟨rj6, _, M2, rfl, by omega, by omega, hP6, hR6, hB6⟩
    · have hd : decide ((ri3 : Int) ≤ (y : Int)) = false := by simp; omega
      have hdn : decide (ri3 ≤ y) = false := by simp; omega
      go_wp2_with fail
      go_quiet (fail)
      have hR := hR.drewN nq
      have hB := below_drewN hB nq
      obtain ⟨zzx28, hwn⟩ : ∃ wz, wz = zzu1.drewN nq := ⟨_, rfl⟩
      rw [← hwn] at hR hB ⊢
      clear hwn
      go_wp2_with fail
      clear hd hdn
      go_loopw [11] (fun J wr => ∃ (j : Nat), a ≤ j ∧ j ≤ y ∧ J = .int .i64 (j : Int) ∧ Rw base g n c wr M1 ∧ Below base w wr) (fun J _ => (intOf J).toNat)
      case atStart => exact ⟨y, by omega, by omega, rfl, hR, hB⟩
      case round =>
        obtain ⟨rj31, haj, hjb, rfl, hR, hB⟩ := hrel
        obtain ⟨zzu29, hwv⟩ : ∃ wz, wz = wr := ⟨_, rfl⟩
        subst hwv
        by_cases hle : ri3 ≤ rj31
        · exact absurd hle (by omega)
        · have hd : decide ((ri3 : Int) ≤ (rj31 : Int)) = false := by simp; omega
          have hdn : decide (ri3 ≤ rj31) = false := by simp; omega
          have hd3 : decide ((rj31 : Int) < (ri3 : Int)) = true := by simp; omega
          have hd3b : decide (rj31 < ri3) = true := by simp; omega
          have i4 : (rj31 : Int) < (n : Int) := by omega
          go_wp2_with fail
          go_quiet (fail)
          have hR := hR.drewN nq
          have hB := below_drewN hB nq
          obtain ⟨zzx32, hwn⟩ : ∃ wz, wz = zzu29.drewN nq := ⟨_, rfl⟩
          rw [← hwn] at hR hB ⊢
          clear hwn
          obtain ⟨A, B, M2, hPs, cA, cB, r1, r2, b1, b2⟩ := hR.swp (i := rj31) (j := a) (by omega) (by omega)
          have f1 := hR.frz rj31
          have f2 := hR.frz a
          have m1 := (hR.set rj31 B).at (j := a) (by omega)
          obtain ⟨V1, hV1⟩ : ∃ v, v = (M1.set rj31 B)[a]?.getD 0 := ⟨_, rfl⟩
          rw [← hV1] at m1
          obtain ⟨zzs33, hw3⟩ : ∃ wz, wz = ((zzx32.setCell ⟨g, rj31, none⟩ (.int .u32 B)).setCell ⟨g, a, none⟩ (.int .u32 A)).drew := ⟨_, rfl⟩
          have hR6 := r1.drew
          have hB6 := (hB.trans b1).drew
          rw [← hw3] at hR6 hB6
          have HW3 := Lib.hid hw3
          have hP6 := hPs.trans hP
          clear hV1 r1 r2 b1 b2 hw3 hR hB hP hPs
          go_wp2_with fail
          go_region
          all_goals
            rw [← HW3.out]
            clear f1 f2 cA cB m1 HW3
            go_wp2_with fail
            go_ret2
            exact ⟨rj31, _, M2, rfl, by omega, by omega, hP6, hR6, hB6⟩
end Go.Proofs.YtdaijbplbnkpeaaDoor
