/-
  The library's sort at uint32: partitionEqualOrdered.
-/
import Derived.Test.YtdaijbplbnkpeaaDoorSrd
namespace Go.Proofs.YtdaijbplbnkpeaaDoor
open Go.RowKit Go.Shelf

set_option maxRecDepth 100000 in
set_option maxHeartbeats 8000000 in
theorem pareq_any (base g n c : Nat) (a b p : Nat) (M : List Int) (w : World) (hA : Rw base g n c w M) (hap : a ≤ p) (hpb : p < b) (hbn : b ≤ n) (hn' : n ≤ 4294967296) :
    Calls Tryd.prog 70 #[.slice (some ⟨g, 0, none⟩) n c, .int .i64 (a : Int), .int .i64 (b : Int), .int .i64 (p : Int)] w fun e w' => ∃ (m : Nat) (M' : List Int), e = .returned (.int .i64 (m : Int)) ∧ a < m ∧ m ≤ b ∧ M'.Perm M ∧ Rw base g n c w' M' ∧ Below base w w' := by
  have i1 : (a : Int) < (n : Int) := by omega
  have i2 : (p : Int) < (n : Int) := by omega
  have hB0 : Below base w w := Below.refl _ _
  have hP0 : M.Perm M := List.Perm.refl _
  go_enter Tryd.func70, Tryd.ntmps70
  obtain ⟨A, B, M0, hPs, cA, cB, r1, r2, b1, b2⟩ := hA.swp (i := a) (j := p) (by omega) (by omega)
  have f1 := hA.frz a
  have f2 := hA.frz p
  have m1 := (hA.set a B).at (j := p) (by omega)
  obtain ⟨V1, hV1⟩ : ∃ v, v = (M.set a B)[p]?.getD 0 := ⟨_, rfl⟩
  rw [← hV1] at m1
  obtain ⟨w0, hw3⟩ : ∃ wz, wz = ((w.setCell ⟨g, a, none⟩ (.int .u32 B)).setCell ⟨g, p, none⟩ (.int .u32 A)).drew := ⟨_, rfl⟩
  have hR0 := r1.drew
  have hB1 := (hB0.trans b1).drew
  rw [← hw3] at hR0 hB1
  have HW3 := Lib.hid hw3
  have hP1 := hPs.trans hP0
  clear hV1 r1 r2 b1 b2 hw3 hA hB0 hP0 hPs
  go_wp2_with fail
  go_region
  rw [← HW3.out]
  clear f1 f2 cA cB m1 HW3
  go_wp2_with fail
  go_loopw [9, 10] (fun I J wr => ∃ (i : Nat) (y : Int) (M' : List Int), a < i ∧ i ≤ b ∧ -1 ≤ y ∧ y < b ∧ I = .int .i64 (i : Int) ∧ J = .int .i64 y ∧ M'.Perm M ∧ Rw base g n c wr M' ∧ Below base w wr) (fun I J _ => (intOf J + 1).toNat)
  case atStart => exact ⟨a + 1, (b : Int) - 1, M0, by omega, by omega, by omega, by omega, by go_num, by go_num, hP1, hR0, hB1⟩
  case round =>
    obtain ⟨i, y, M1, hai, hib, hy1, hyb, rfl, rfl, hP, hR, hB⟩ := hrel
    obtain ⟨w1, hwv⟩ : ∃ wz, wz = wr := ⟨_, rfl⟩
    subst hwv
    clear hP1 hR0 hB1
    go_wp2_with fail
    go_loopw [9] (fun I wr => ∃ (i' : Nat), a < i' ∧ i' ≤ b ∧ I = .int .i64 (i' : Int) ∧ Rw base g n c wr M1 ∧ Below base w wr) (fun I _ => b - (intOf I).toNat)
    case atStart => exact ⟨i, hai, hib, rfl, hR, hB⟩
    case round =>
      obtain ⟨i, hai, hib, rfl, hR, hB⟩ := hrel
      obtain ⟨w2, hwv⟩ : ∃ wz, wz = wr := ⟨_, rfl⟩
      subst hwv
      by_cases hle : (i : Int) ≤ y
      · have hd : decide ((i : Int) ≤ y) = true := by simpa using hle
        have i3 : (i : Int) < (n : Int) := by omega
        have cX := hR.at (j := a) (by omega)
        have cY := hR.at (j := i) (by omega)
        obtain ⟨VX, hVX⟩ : ∃ v, v = M1[a]?.getD 0 := ⟨_, rfl⟩
        obtain ⟨VY, hVY⟩ : ∃ v, v = M1[i]?.getD 0 := ⟨_, rfl⟩
        rw [← hVX] at cX
        rw [← hVY] at cY
        have ql := fun w => less_q VX VY w
        obtain ⟨bb, hbb⟩ : ∃ bb, bb = decide (VX < VY) := ⟨_, rfl⟩
        simp only [← hbb] at ql
        clear hVX hVY hbb
        go_wp2_with fail
        go_quiet ((go_at_call 53; exact Calls.quiet_of_same (ql _)))
        have hR := hR.drewN nq
        have hB := below_drewN hB nq
        obtain ⟨w3, hwn⟩ : ∃ wz, wz = w2.drewN nq := ⟨_, rfl⟩
        rw [← hwn] at hR hB ⊢
        clear hwn cX cY ql
        cases bb with
        | false =>
          go_wp2_with fail
          go_roundw
          case rel => exact ⟨i + 1, by omega, by omega, by go_num, hR, hB⟩
          case measure => simp [intOf]; omega
        | true =>
          go_wp2_with fail
          go_loopw [10] (fun J wr => ∃ (y2 : Int), -1 ≤ y2 ∧ y2 ≤ y ∧ J = .int .i64 y2 ∧ Rw base g n c wr M1 ∧ Below base w wr) (fun J _ => (intOf J + 1).toNat)
          case atStart => exact ⟨y, by omega, by omega, rfl, hR, hB⟩
          case round =>
            obtain ⟨y2, hy21, hy2b, rfl, hR, hB⟩ := hrel
            obtain ⟨w4, hwv⟩ : ∃ wz, wz = wr := ⟨_, rfl⟩
            subst hwv
            by_cases hle2 : (i : Int) ≤ y2
            · obtain ⟨j, rfl⟩ : ∃ j : Nat, y2 = (j : Int) := ⟨y2.toNat, by omega⟩
              have hd2 : decide ((i : Int) ≤ (j : Int)) = true := by simpa using hle2
              have hd2b : decide (i ≤ j) = true := by simp; omega
              have i4 : (j : Int) < (n : Int) := by omega
              have i5 : (i : Int) < (n : Int) := by omega
              have cX := hR.at (j := a) (by omega)
              have cY := hR.at (j := j) (by omega)
              obtain ⟨VX, hVX⟩ : ∃ v, v = M1[a]?.getD 0 := ⟨_, rfl⟩
              obtain ⟨VY, hVY⟩ : ∃ v, v = M1[j]?.getD 0 := ⟨_, rfl⟩
              rw [← hVX] at cX
              rw [← hVY] at cY
              have ql := fun w => less_q VX VY w
              obtain ⟨bb, hbb⟩ : ∃ bb, bb = decide (VX < VY) := ⟨_, rfl⟩
              simp only [← hbb] at ql
              clear hVX hVY hbb
              go_wp2_with fail
              go_quiet ((go_at_call 53; exact Calls.quiet_of_same (ql _)))
              have hR := hR.drewN nq
              have hB := below_drewN hB nq
              obtain ⟨w5, hwn⟩ : ∃ wz, wz = w4.drewN nq := ⟨_, rfl⟩
              rw [← hwn] at hR hB ⊢
              clear hwn cX cY ql
              cases bb with
              | true =>
                go_wp2_with fail
                go_roundw
                case rel => exact ⟨(j : Int) - 1, by omega, by omega, by go_num, hR, hB⟩
                case measure => simp [intOf]
              | false =>
                have hd3 : decide ((j : Int) < (i : Int)) = false := by simp; omega
                have hd3b : decide (j < i) = false := by simp; omega
                obtain ⟨A, B, M2, hPs, cA, cB, r1, r2, b1, b2⟩ := hR.swp (i := i) (j := j) (by omega) (by omega)
                have f1 := hR.frz i
                have f2 := hR.frz j
                have m1 := (hR.set i B).at (j := j) (by omega)
                obtain ⟨V1, hV1⟩ : ∃ v, v = (M1.set i B)[j]?.getD 0 := ⟨_, rfl⟩
                rw [← hV1] at m1
                obtain ⟨w6, hw3⟩ : ∃ wz, wz = ((w5.setCell ⟨g, i, none⟩ (.int .u32 B)).setCell ⟨g, j, none⟩ (.int .u32 A)).drew := ⟨_, rfl⟩
                have hR6 := r1.drew
                have hB6 := (hB.trans b1).drew
                rw [← hw3] at hR6 hB6
                have HW3 := Lib.hid hw3
                have hP6 := hPs.trans hP
                clear hV1 r1 r2 b1 b2 hw3 hR hB hP hPs
                go_wp2_with fail
                go_region
                all_goals
                  rw [← HW3.out]
                  clear f1 f2 cA cB m1 HW3
                  go_wp2_with fail
                  go_roundw
                  case rel => exact ⟨i + 1, (j : Int) - 1, M2, by omega, by omega, by omega, by omega, by go_num, by go_num, hP6, hR6, hB6⟩
                  case measure => simp [intOf]; omega
            · have hd2 : decide ((i : Int) ≤ y2) = false := by simp; omega
              have hd3 : decide (y2 < (i : Int)) = true := by simp; omega
              go_wp2_with fail
              go_quiet (fail)
              have hR := hR.drewN nq
              have hB := below_drewN hB nq
              obtain ⟨w5, hw5⟩ : ∃ wz, wz = w4.drewN nq := ⟨_, rfl⟩
              rw [← hw5] at hR hB ⊢
              clear hw5
              go_wp2_with fail
              go_ret
              exact ⟨i, M1, rfl, by omega, by omega, hP, hR, hB⟩
      · have hd : decide ((i : Int) ≤ y) = false := by simp; omega
        go_wp2_with fail
        go_quiet (fail)
        have hR := hR.drewN nq
        have hB := below_drewN hB nq
        obtain ⟨w3, hw3⟩ : ∃ wz, wz = w2.drewN nq := ⟨_, rfl⟩
        rw [← hw3] at hR hB ⊢
        clear hw3
        go_wp2_with fail
        go_loopw [10] (fun J wr => ∃ (y2 : Int), -1 ≤ y2 ∧ y2 ≤ y ∧ J = .int .i64 y2 ∧ Rw base g n c wr M1 ∧ Below base w wr) (fun J _ => (intOf J + 1).toNat)
        case atStart => exact ⟨y, by omega, by omega, rfl, hR, hB⟩
        case round =>
          obtain ⟨y2, hy21, hy2b, rfl, hR, hB⟩ := hrel
          obtain ⟨w4, hwv⟩ : ∃ wz, wz = wr := ⟨_, rfl⟩
          subst hwv
          by_cases hle2 : (i : Int) ≤ y2
          · obtain ⟨j, rfl⟩ : ∃ j : Nat, y2 = (j : Int) := ⟨y2.toNat, by omega⟩
            have hd2 : decide ((i : Int) ≤ (j : Int)) = true := by simpa using hle2
            have hd2b : decide (i ≤ j) = true := by simp; omega
            have i4 : (j : Int) < (n : Int) := by omega
            have i5 : (i : Int) < (n : Int) := by omega
            have cX := hR.at (j := a) (by omega)
            have cY := hR.at (j := j) (by omega)
            obtain ⟨VX, hVX⟩ : ∃ v, v = M1[a]?.getD 0 := ⟨_, rfl⟩
            obtain ⟨VY, hVY⟩ : ∃ v, v = M1[j]?.getD 0 := ⟨_, rfl⟩
            rw [← hVX] at cX
            rw [← hVY] at cY
            have ql := fun w => less_q VX VY w
            obtain ⟨bb, hbb⟩ : ∃ bb, bb = decide (VX < VY) := ⟨_, rfl⟩
            simp only [← hbb] at ql
            clear hVX hVY hbb
            go_wp2_with fail
            go_quiet ((go_at_call 53; exact Calls.quiet_of_same (ql _)))
            have hR := hR.drewN nq
            have hB := below_drewN hB nq
            obtain ⟨w5, hwn⟩ : ∃ wz, wz = w4.drewN nq := ⟨_, rfl⟩
            rw [← hwn] at hR hB ⊢
            clear hwn cX cY ql
            cases bb with
            | true =>
              go_wp2_with fail
              go_roundw
              case rel => exact ⟨(j : Int) - 1, by omega, by omega, by go_num, hR, hB⟩
              case measure => simp [intOf]
            | false =>
              have hd3 : decide ((j : Int) < (i : Int)) = false := by simp; omega
              have hd3b : decide (j < i) = false := by simp; omega
              obtain ⟨A, B, M2, hPs, cA, cB, r1, r2, b1, b2⟩ := hR.swp (i := i) (j := j) (by omega) (by omega)
              have f1 := hR.frz i
              have f2 := hR.frz j
              have m1 := (hR.set i B).at (j := j) (by omega)
              obtain ⟨V1, hV1⟩ : ∃ v, v = (M1.set i B)[j]?.getD 0 := ⟨_, rfl⟩
              rw [← hV1] at m1
              obtain ⟨w6, hw3⟩ : ∃ wz, wz = ((w5.setCell ⟨g, i, none⟩ (.int .u32 B)).setCell ⟨g, j, none⟩ (.int .u32 A)).drew := ⟨_, rfl⟩
              have hR6 := r1.drew
              have hB6 := (hB.trans b1).drew
              rw [← hw3] at hR6 hB6
              have HW3 := Lib.hid hw3
              have hP6 := hPs.trans hP
              clear hV1 r1 r2 b1 b2 hw3 hR hB hP hPs
              go_wp2_with fail
              go_region
              all_goals
                rw [← HW3.out]
                clear f1 f2 cA cB m1 HW3
                go_wp2_with fail
                go_roundw
                case rel => exact ⟨i + 1, (j : Int) - 1, M2, by omega, by omega, by omega, by omega, by go_num, by go_num, hP6, hR6, hB6⟩
                case measure => simp [intOf]; omega
          · have hd2 : decide ((i : Int) ≤ y2) = false := by simp; omega
            have hd3 : decide (y2 < (i : Int)) = true := by simp; omega
            go_wp2_with fail
            go_quiet (fail)
            have hR := hR.drewN nq
            have hB := below_drewN hB nq
            obtain ⟨w5, hw5⟩ : ∃ wz, wz = w4.drewN nq := ⟨_, rfl⟩
            rw [← hw5] at hR hB ⊢
            clear hw5
            go_wp2_with fail
            go_ret
            exact ⟨i, M1, rfl, by omega, by omega, hP, hR, hB⟩
end Go.Proofs.YtdaijbplbnkpeaaDoor
