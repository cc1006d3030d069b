/-
  The library's sort at uint32: partialInsertionSortOrdered.
-/
import Derived.Test.YtdaijbplbnkpeaaDoorSrl
namespace Go.Proofs.YtdaijbplbnkpeaaDoor
open Go.RowKit Go.Shelf

/-- It returns a Bool, and the row is a permutation of what it was. -/
def PisOk (base g n c : Nat) (M : List Int) (w : World) (e : Ending) (w' : World) : Prop := ∃ (q : Bool) (M' : List Int), e = .returned (.bool q) ∧ M'.Perm M ∧ Rw base g n c w' M' ∧ Below base w w'

set_option maxRecDepth 100000 in
set_option maxHeartbeats 16000000 in
theorem pis_any (base g n c : Nat) (a b : Nat) (M : List Int) (w : World) (hA : Rw base g n c w M) (hab : a + 12 < b) (hbn : b ≤ n) (hn' : n ≤ 4294967296) :
    Calls Tryd.prog 69 #[.slice (some ⟨g, 0, none⟩) n c, .int .i64 (a : Int), .int .i64 (b : Int)] w (PisOk base g n c M w) := by
  go_enter Tryd.func69, Tryd.ntmps69
  go_wp2_with fail
  go_loopw [7, 8] (fun I J wr => ∃ (i k : Nat) (M' : List Int), a < i ∧ i ≤ b ∧ k ≤ 5 ∧ I = .int .i64 (i : Int) ∧ J = .int .i64 (k : Int) ∧ M'.Perm M ∧ Rw base g n c wr M' ∧ Below base w wr) (fun _ J _ => 5 - (intOf J).toNat)
  case atStart => exact ⟨a + 1, 0, M, by omega, by omega, by omega, by go_num, by go_num, List.Perm.refl _, hA, Below.refl _ _⟩
  case round =>
    obtain ⟨i, k, M1, hai, hib, hk5, rfl, rfl, hP, hR, hB⟩ := hrel
    obtain ⟨w1, hwv⟩ : ∃ wz, wz = wr := ⟨_, rfl⟩
    subst hwv
    clear hA
    by_cases hk : k < 5
    · have hdk : decide ((k : Int) < (5 : Int)) = true := by simp; omega
      have hdkn : decide (k < 5) = true := by simp; omega
      go_wp2_with fail
      go_loopw [7] (fun I wr => ∃ (i : Nat), a < i ∧ i ≤ b ∧ I = .int .i64 (i : Int) ∧ Rw base g n c wr M1 ∧ Below base w wr) (fun I _ => b - (intOf I).toNat)
      case atStart => exact ⟨i, hai, hib, rfl, hR, hB⟩
      case round =>
        clear hdk hdkn hai hib hR hB
        obtain ⟨i, hai, hib, rfl, hR, hB⟩ := hrel
        obtain ⟨w2, hwv⟩ : ∃ wz, wz = wr := ⟨_, rfl⟩
        subst hwv
        by_cases hlt : i < b
        · have hd : decide ((i : Int) < (b : Int)) = true := by simp; omega
          have hdn : decide (i < b) = true := by simp; omega
          obtain ⟨ip, hip⟩ : ∃ x : Nat, x = i - 1 := ⟨_, rfl⟩
          have eip : (i : Int) - 1 = (ip : Int) := by omega
          have wip := wrapI ip (by omega)
          have lip : ip < i := by omega
          clear hip
          have i1 : (i : Int) < (n : Int) := by omega
          have i2 : (ip : Int) < (n : Int) := by omega
          have cX := hR.at (j := i) (by omega)
          have cY := hR.at (j := ip) (by omega)
          obtain ⟨VX, hVX⟩ : ∃ v, v = M1[i]?.getD 0 := ⟨_, rfl⟩
          obtain ⟨VY, hVY⟩ : ∃ v, v = M1[ip]?.getD 0 := ⟨_, rfl⟩
          rw [← hVX] at cX
          rw [← hVY] at cY
          have ql := fun w => less_q VX VY w
          obtain ⟨bb, hbb⟩ : ∃ bb, bb = decide (VX < VY) := ⟨_, rfl⟩
          simp only [← hbb] at ql
          clear hVX hVY hbb
          go_wp2_with fail
          go_quiet ((go_at_call 53; exact Calls.quiet_of_same (ql _)))
          have hR := hR.drewN nq
          have hB := below_drewN hB nq
          obtain ⟨w3, hwn⟩ : ∃ wz, wz = w2.drewN nq := ⟨_, rfl⟩
          rw [← hwn] at hR hB ⊢
          clear hwn cX cY ql
          cases bb with
          | false =>
            go_wp2_with fail
            go_roundw
            case rel => exact ⟨i + 1, by omega, by omega, by go_num, hR, hB⟩
            case measure => simp [intOf]; omega
          | true =>
            clear hd hdn
            have hde : decide ((i : Int) = (b : Int)) = false := by simp; omega
            have hden : ¬ (i : Int) = (b : Int) := by omega
            by_cases h50 : b < a + 50
            · have hd50 : decide ((b : Int) - (a : Int) < (50 : Int)) = true := by simp; omega
              go_wp2_with fail
              go_ret
              exact ⟨false, M1, rfl, hP, hR, hB⟩
            · have hd50 : decide ((b : Int) - (a : Int) < (50 : Int)) = false := by simp; omega
              obtain ⟨A, B, M2, hP3, cA, cB, r1, r2, b1, b2⟩ := hR.swap (i := i) (j := ip) (by omega) (by omega) (by omega)
              have f1 := hR.frz i
              have f2 := hR.frz ip
              have ne1 : i ≠ ip := by omega
              have m1 := (hR.set i B).at (j := ip) (by omega)
              obtain ⟨V1, hV1⟩ : ∃ v, v = (M1.set i B)[ip]?.getD 0 := ⟨_, rfl⟩
              rw [← hV1] at m1
              obtain ⟨zzs1, hw3⟩ : ∃ wz, wz = ((w3.setCell ⟨g, i, none⟩ (.int .u32 B)).setCell ⟨g, ip, none⟩ (.int .u32 A)).drew := ⟨_, rfl⟩
              have hRs := r1.drew
              have hBs := (hB.trans b1).drew
              rw [← hw3] at hRs hBs
              have HW3 := Lib.hid hw3
              have hPs := hP3.trans hP
              clear hV1 r1 r2 b1 b2 hw3 hP3 hR hB hP
              go_wp2_with fail
              go_region
              all_goals
                rw [← HW3.out]
                clear f1 f2 cA cB m1 HW3
                have hR := hRs
                have hB := hBs
                have hP := hPs
                clear hRs hBs hPs ne1
                clear hd50
                by_cases h2a : a + 2 ≤ i
                · have hd2a : decide ((2 : Int) ≤ (i : Int) - (a : Int)) = true := by simp; omega
                  have ei1 : (i : Int) - 1 = ((i - 1 : Nat) : Int) := by omega
                  go_wp2_with fail
                  go_loopw [9] (fun J wr => ∃ (jj : Nat) (M' : List Int), 0 ≤ jj ∧ jj < b ∧ J = .int .i64 (jj : Int) ∧ M'.Perm M ∧ Rw base g n c wr M' ∧ Below base w wr) (fun J _ => (intOf J).toNat)
                  case atStart => exact ⟨i - 1, _, by omega, by omega, by go_num, hP, hR, hB⟩
                  case round =>
                    clear hP hR hB
                    obtain ⟨jj, M1, hj1, hjb, rfl, hP, hR, hB⟩ := hrel
                    obtain ⟨zzu2, hwv⟩ : ∃ wz, wz = wr := ⟨_, rfl⟩
                    subst hwv
                    by_cases hlt : 1 ≤ jj
                    · have hd3 : decide ((1 : Int) ≤ (jj : Int)) = true := by simp; omega
                      have hd3n : decide (1 ≤ jj) = true := by simp; omega
                      obtain ⟨jp, hjp⟩ : ∃ x : Nat, x = jj - 1 := ⟨_, rfl⟩
                      have ejp : (jj : Int) - 1 = (jp : Int) := by omega
                      have wjp := wrapI jp (by omega)
                      have ljp : jp < jj := by omega
                      clear hjp
                      have i1 : (jj : Int) < (n : Int) := by omega
                      have i2 : (jp : Int) < (n : Int) := by omega
                      have cX := hR.at (j := jj) (by omega)
                      have cY := hR.at (j := jp) (by omega)
                      obtain ⟨VX, hVX⟩ : ∃ v, v = M1[jj]?.getD 0 := ⟨_, rfl⟩
                      obtain ⟨VY, hVY⟩ : ∃ v, v = M1[jp]?.getD 0 := ⟨_, rfl⟩
                      rw [← hVX] at cX
                      rw [← hVY] at cY
                      have ql := fun w => less_q VX VY w
                      obtain ⟨bb, hbb⟩ : ∃ bb, bb = decide (VX < VY) := ⟨_, rfl⟩
                      simp only [← hbb] at ql
                      clear hVX hVY hbb
                      go_wp2_with fail
                      go_quiet ((go_at_call 53; exact Calls.quiet_of_same (ql _)))
                      have hR := hR.drewN nq
                      have hB := below_drewN hB nq
                      obtain ⟨zzv3, hwn⟩ : ∃ wz, wz = zzu2.drewN nq := ⟨_, rfl⟩
                      rw [← hwn] at hR hB ⊢
                      clear hwn cX cY ql
                      cases bb with
                      | true =>
                        obtain ⟨A, B, M2, hP3, cA, cB, r1, r2, b1, b2⟩ := hR.swap (i := jj) (j := jp) (by omega) (by omega) (by omega)
                        have f1 := hR.frz jj
                        have f2 := hR.frz jp
                        have ne1 : jj ≠ jp := by omega
                        have m1 := (hR.set jj B).at (j := jp) (by omega)
                        obtain ⟨V1, hV1⟩ : ∃ v, v = (M1.set jj B)[jp]?.getD 0 := ⟨_, rfl⟩
                        rw [← hV1] at m1
                        obtain ⟨zzs4, hw3⟩ : ∃ wz, wz = ((zzv3.setCell ⟨g, jj, none⟩ (.int .u32 B)).setCell ⟨g, jp, none⟩ (.int .u32 A)).drew := ⟨_, rfl⟩
                        have hRs := r1.drew
                        have hBs := (hB.trans b1).drew
                        rw [← hw3] at hRs hBs
                        have HW3 := Lib.hid hw3
                        have hPs := hP3.trans hP
                        clear hV1 r1 r2 b1 b2 hw3 hP3 hR hB hP
                        go_wp2_with fail
                        go_region
                        all_goals
                          rw [← HW3.out]
                          clear f1 f2 cA cB m1 HW3
                          have hR := hRs
                          have hB := hBs
                          have hP := hPs
                          clear hRs hBs hPs ne1
                          clear hd3 hd3n
                          go_wp2_with fail
                          go_roundw
                          case rel => exact ⟨jj - 1, M2, by omega, by omega, by go_num, hP, hR, hB⟩
                          case measure => simp [intOf]; omega
                      | false =>
                        clear hd3 hd3n
                        by_cases h2 : i + 2 ≤ b
                        · have hd2 : decide ((2 : Int) ≤ (b : Int) - (i : Int)) = true := by simp; omega
                          go_wp2_with fail
                          go_loopw [10] (fun J wr => ∃ (jj : Nat) (M' : List Int), 1 ≤ jj ∧ jj ≤ b ∧ J = .int .i64 (jj : Int) ∧ M'.Perm M ∧ Rw base g n c wr M' ∧ Below base w wr) (fun J _ => b - (intOf J).toNat)
                          case atStart => exact ⟨i + 1, _, by omega, by omega, by go_num, hP, hR, hB⟩
                          case round =>
                            clear hP hR hB
                            obtain ⟨jj, M1, hj1, hjb, rfl, hP, hR, hB⟩ := hrel
                            obtain ⟨zzu5, hwv⟩ : ∃ wz, wz = wr := ⟨_, rfl⟩
                            subst hwv
                            by_cases hlt : jj < b
                            · have hd3 : decide ((jj : Int) < (b : Int)) = true := by simp; omega
                              have hd3n : decide (jj < b) = true := by simp; omega
                              obtain ⟨jp, hjp⟩ : ∃ x : Nat, x = jj - 1 := ⟨_, rfl⟩
                              have ejp : (jj : Int) - 1 = (jp : Int) := by omega
                              have wjp := wrapI jp (by omega)
                              have ljp : jp < jj := by omega
                              clear hjp
                              have i1 : (jj : Int) < (n : Int) := by omega
                              have i2 : (jp : Int) < (n : Int) := by omega
                              have cX := hR.at (j := jj) (by omega)
                              have cY := hR.at (j := jp) (by omega)
                              obtain ⟨VX, hVX⟩ : ∃ v, v = M1[jj]?.getD 0 := ⟨_, rfl⟩
                              obtain ⟨VY, hVY⟩ : ∃ v, v = M1[jp]?.getD 0 := ⟨_, rfl⟩
                              rw [← hVX] at cX
                              rw [← hVY] at cY
                              have ql := fun w => less_q VX VY w
                              obtain ⟨bb, hbb⟩ : ∃ bb, bb = decide (VX < VY) := ⟨_, rfl⟩
                              simp only [← hbb] at ql
                              clear hVX hVY hbb
                              go_wp2_with fail
                              go_quiet ((go_at_call 53; exact Calls.quiet_of_same (ql _)))
                              have hR := hR.drewN nq
                              have hB := below_drewN hB nq
                              obtain ⟨zzv6, hwn⟩ : ∃ wz, wz = zzu5.drewN nq := ⟨_, rfl⟩
                              rw [← hwn] at hR hB ⊢
                              clear hwn cX cY ql
                              cases bb with
                              | true =>
                                obtain ⟨A, B, M2, hP3, cA, cB, r1, r2, b1, b2⟩ := hR.swap (i := jj) (j := jp) (by omega) (by omega) (by omega)
                                have f1 := hR.frz jj
                                have f2 := hR.frz jp
                                have ne1 : jj ≠ jp := by omega
                                have m1 := (hR.set jj B).at (j := jp) (by omega)
                                obtain ⟨V1, hV1⟩ : ∃ v, v = (M1.set jj B)[jp]?.getD 0 := ⟨_, rfl⟩
                                rw [← hV1] at m1
                                obtain ⟨zzs7, hw3⟩ : ∃ wz, wz = ((zzv6.setCell ⟨g, jj, none⟩ (.int .u32 B)).setCell ⟨g, jp, none⟩ (.int .u32 A)).drew := ⟨_, rfl⟩
                                have hRs := r1.drew
                                have hBs := (hB.trans b1).drew
                                rw [← hw3] at hRs hBs
                                have HW3 := Lib.hid hw3
                                have hPs := hP3.trans hP
                                clear hV1 r1 r2 b1 b2 hw3 hP3 hR hB hP
                                go_wp2_with fail
                                go_region
                                all_goals
                                  rw [← HW3.out]
                                  clear f1 f2 cA cB m1 HW3
                                  have hR := hRs
                                  have hB := hBs
                                  have hP := hPs
                                  clear hRs hBs hPs ne1
                                  clear hd3 hd3n
                                  go_wp2_with fail
                                  go_roundw
                                  case rel => exact ⟨jj + 1, M2, by omega, by omega, by go_num, hP, hR, hB⟩
                                  case measure => simp [intOf]; omega
                              | false =>
                                clear hd3 hd3n
                                go_wp2_with fail
                                go_roundw
                                case rel => exact ⟨i, k + 1, _, by omega, by omega, by omega, by go_num, by go_num, hP, hR, hB⟩
                                case measure => simp [intOf]; omega
                            · have hd3 : decide ((jj : Int) < (b : Int)) = false := by simp; omega
                              have hd3n : decide (jj < b) = false := by simp; omega
                              go_wp2_with fail
                              go_roundw
                              case rel => exact ⟨i, k + 1, _, by omega, by omega, by omega, by go_num, by go_num, hP, hR, hB⟩
                              case measure => simp [intOf]; omega
                        · have hd2 : decide ((2 : Int) ≤ (b : Int) - (i : Int)) = false := by simp; omega
                          go_wp2_with fail
                          go_roundw
                          case rel => exact ⟨i, k + 1, _, by omega, by omega, by omega, by go_num, by go_num, hP, hR, hB⟩
                          case measure => simp [intOf]; omega
                    · have hd3 : decide ((1 : Int) ≤ (jj : Int)) = false := by simp; omega
                      have hd3n : decide (1 ≤ jj) = false := by simp; omega
                      by_cases h2 : i + 2 ≤ b
                      · have hd2 : decide ((2 : Int) ≤ (b : Int) - (i : Int)) = true := by simp; omega
                        go_wp2_with fail
                        go_loopw [10] (fun J wr => ∃ (jj : Nat) (M' : List Int), 1 ≤ jj ∧ jj ≤ b ∧ J = .int .i64 (jj : Int) ∧ M'.Perm M ∧ Rw base g n c wr M' ∧ Below base w wr) (fun J _ => b - (intOf J).toNat)
                        case atStart => exact ⟨i + 1, _, by omega, by omega, by go_num, hP, hR, hB⟩
                        case round =>
                          clear hP hR hB
                          obtain ⟨jj, M1, hj1, hjb, rfl, hP, hR, hB⟩ := hrel
                          obtain ⟨zzu8, hwv⟩ : ∃ wz, wz = wr := ⟨_, rfl⟩
                          subst hwv
                          by_cases hlt : jj < b
                          · have hd3 : decide ((jj : Int) < (b : Int)) = true := by simp; omega
                            have hd3n : decide (jj < b) = true := by simp; omega
                            obtain ⟨jp, hjp⟩ : ∃ x : Nat, x = jj - 1 := ⟨_, rfl⟩
                            have ejp : (jj : Int) - 1 = (jp : Int) := by omega
                            have wjp := wrapI jp (by omega)
                            have ljp : jp < jj := by omega
                            clear hjp
                            have i1 : (jj : Int) < (n : Int) := by omega
                            have i2 : (jp : Int) < (n : Int) := by omega
                            have cX := hR.at (j := jj) (by omega)
                            have cY := hR.at (j := jp) (by omega)
                            obtain ⟨VX, hVX⟩ : ∃ v, v = M1[jj]?.getD 0 := ⟨_, rfl⟩
                            obtain ⟨VY, hVY⟩ : ∃ v, v = M1[jp]?.getD 0 := ⟨_, rfl⟩
                            rw [← hVX] at cX
                            rw [← hVY] at cY
                            have ql := fun w => less_q VX VY w
                            obtain ⟨bb, hbb⟩ : ∃ bb, bb = decide (VX < VY) := ⟨_, rfl⟩
                            simp only [← hbb] at ql
                            clear hVX hVY hbb
                            go_wp2_with fail
                            go_quiet ((go_at_call 53; exact Calls.quiet_of_same (ql _)))
                            have hR := hR.drewN nq
                            have hB := below_drewN hB nq
                            obtain ⟨zzv9, hwn⟩ : ∃ wz, wz = zzu8.drewN nq := ⟨_, rfl⟩
                            rw [← hwn] at hR hB ⊢
                            clear hwn cX cY ql
                            cases bb with
                            | true =>
                              obtain ⟨A, B, M2, hP3, cA, cB, r1, r2, b1, b2⟩ := hR.swap (i := jj) (j := jp) (by omega) (by omega) (by omega)
                              have f1 := hR.frz jj
                              have f2 := hR.frz jp
                              have ne1 : jj ≠ jp := by omega
                              have m1 := (hR.set jj B).at (j := jp) (by omega)
                              obtain ⟨V1, hV1⟩ : ∃ v, v = (M1.set jj B)[jp]?.getD 0 := ⟨_, rfl⟩
                              rw [← hV1] at m1
                              obtain ⟨zzs10, hw3⟩ : ∃ wz, wz = ((zzv9.setCell ⟨g, jj, none⟩ (.int .u32 B)).setCell ⟨g, jp, none⟩ (.int .u32 A)).drew := ⟨_, rfl⟩
                              have hRs := r1.drew
                              have hBs := (hB.trans b1).drew
                              rw [← hw3] at hRs hBs
                              have HW3 := Lib.hid hw3
                              have hPs := hP3.trans hP
                              clear hV1 r1 r2 b1 b2 hw3 hP3 hR hB hP
                              go_wp2_with fail
                              go_region
                              all_goals
                                rw [← HW3.out]
                                clear f1 f2 cA cB m1 HW3
                                have hR := hRs
                                have hB := hBs
                                have hP := hPs
                                clear hRs hBs hPs ne1
                                clear hd3 hd3n
                                go_wp2_with fail
                                go_roundw
                                case rel => exact ⟨jj + 1, M2, by omega, by omega, by go_num, hP, hR, hB⟩
                                case measure => simp [intOf]; omega
                            | false =>
                              clear hd3 hd3n
                              go_wp2_with fail
                              go_roundw
                              case rel => exact ⟨i, k + 1, _, by omega, by omega, by omega, by go_num, by go_num, hP, hR, hB⟩
                              case measure => simp [intOf]; omega
                          · have hd3 : decide ((jj : Int) < (b : Int)) = false := by simp; omega
                            have hd3n : decide (jj < b) = false := by simp; omega
                            go_wp2_with fail
                            go_roundw
                            case rel => exact ⟨i, k + 1, _, by omega, by omega, by omega, by go_num, by go_num, hP, hR, hB⟩
                            case measure => simp [intOf]; omega
                      · have hd2 : decide ((2 : Int) ≤ (b : Int) - (i : Int)) = false := by simp; omega
                        go_wp2_with fail
                        go_roundw
                        case rel => exact ⟨i, k + 1, _, by omega, by omega, by omega, by go_num, by go_num, hP, hR, hB⟩
                        case measure => simp [intOf]; omega
                · have hd2a : decide ((2 : Int) ≤ (i : Int) - (a : Int)) = false := by simp; omega
                  by_cases h2 : i + 2 ≤ b
                  · have hd2 : decide ((2 : Int) ≤ (b : Int) - (i : Int)) = true := by simp; omega
                    go_wp2_with fail
                    go_loopw [10] (fun J wr => ∃ (jj : Nat) (M' : List Int), 1 ≤ jj ∧ jj ≤ b ∧ J = .int .i64 (jj : Int) ∧ M'.Perm M ∧ Rw base g n c wr M' ∧ Below base w wr) (fun J _ => b - (intOf J).toNat)
                    case atStart => exact ⟨i + 1, _, by omega, by omega, by go_num, hP, hR, hB⟩
                    case round =>
                      clear hP hR hB
                      obtain ⟨jj, M1, hj1, hjb, rfl, hP, hR, hB⟩ := hrel
                      obtain ⟨zzu11, hwv⟩ : ∃ wz, wz = wr := ⟨_, rfl⟩
                      subst hwv
                      by_cases hlt : jj < b
                      · have hd3 : decide ((jj : Int) < (b : Int)) = true := by simp; omega
                        have hd3n : decide (jj < b) = true := by simp; omega
                        obtain ⟨jp, hjp⟩ : ∃ x : Nat, x = jj - 1 := ⟨_, rfl⟩
                        have ejp : (jj : Int) - 1 = (jp : Int) := by omega
                        have wjp := wrapI jp (by omega)
                        have ljp : jp < jj := by omega
                        clear hjp
                        have i1 : (jj : Int) < (n : Int) := by omega
                        have i2 : (jp : Int) < (n : Int) := by omega
                        have cX := hR.at (j := jj) (by omega)
                        have cY := hR.at (j := jp) (by omega)
                        obtain ⟨VX, hVX⟩ : ∃ v, v = M1[jj]?.getD 0 := ⟨_, rfl⟩
                        obtain ⟨VY, hVY⟩ : ∃ v, v = M1[jp]?.getD 0 := ⟨_, rfl⟩
                        rw [← hVX] at cX
                        rw [← hVY] at cY
                        have ql := fun w => less_q VX VY w
                        obtain ⟨bb, hbb⟩ : ∃ bb, bb = decide (VX < VY) := ⟨_, rfl⟩
                        simp only [← hbb] at ql
                        clear hVX hVY hbb
                        go_wp2_with fail
                        go_quiet ((go_at_call 53; exact Calls.quiet_of_same (ql _)))
                        have hR := hR.drewN nq
                        have hB := below_drewN hB nq
                        obtain ⟨zzv12, hwn⟩ : ∃ wz, wz = zzu11.drewN nq := ⟨_, rfl⟩
                        rw [← hwn] at hR hB ⊢
                        clear hwn cX cY ql
                        cases bb with
                        | true =>
                          obtain ⟨A, B, M2, hP3, cA, cB, r1, r2, b1, b2⟩ := hR.swap (i := jj) (j := jp) (by omega) (by omega) (by omega)
                          have f1 := hR.frz jj
                          have f2 := hR.frz jp
                          have ne1 : jj ≠ jp := by omega
                          have m1 := (hR.set jj B).at (j := jp) (by omega)
                          obtain ⟨V1, hV1⟩ : ∃ v, v = (M1.set jj B)[jp]?.getD 0 := ⟨_, rfl⟩
                          rw [← hV1] at m1
                          obtain ⟨zzs13, hw3⟩ : ∃ wz, wz = ((zzv12.setCell ⟨g, jj, none⟩ (.int .u32 B)).setCell ⟨g, jp, none⟩ (.int .u32 A)).drew := ⟨_, rfl⟩
                          have hRs := r1.drew
                          have hBs := (hB.trans b1).drew
                          rw [← hw3] at hRs hBs
                          have HW3 := Lib.hid hw3
                          have hPs := hP3.trans hP
                          clear hV1 r1 r2 b1 b2 hw3 hP3 hR hB hP
                          go_wp2_with fail
                          go_region
                          all_goals
                            rw [← HW3.out]
                            clear f1 f2 cA cB m1 HW3
                            have hR := hRs
                            have hB := hBs
                            have hP := hPs
                            clear hRs hBs hPs ne1
                            clear hd3 hd3n
                            go_wp2_with fail
                            go_roundw
                            case rel => exact ⟨jj + 1, M2, by omega, by omega, by go_num, hP, hR, hB⟩
                            case measure => simp [intOf]; omega
                        | false =>
                          clear hd3 hd3n
                          go_wp2_with fail
                          go_roundw
                          case rel => exact ⟨i, k + 1, _, by omega, by omega, by omega, by go_num, by go_num, hP, hR, hB⟩
                          case measure => simp [intOf]; omega
                      · have hd3 : decide ((jj : Int) < (b : Int)) = false := by simp; omega
                        have hd3n : decide (jj < b) = false := by simp; omega
                        go_wp2_with fail
                        go_roundw
                        case rel => exact ⟨i, k + 1, _, by omega, by omega, by omega, by go_num, by go_num, hP, hR, hB⟩
                        case measure => simp [intOf]; omega
                  · have hd2 : decide ((2 : Int) ≤ (b : Int) - (i : Int)) = false := by simp; omega
                    go_wp2_with fail
                    go_roundw
                    case rel => exact ⟨i, k + 1, _, by omega, by omega, by omega, by go_num, by go_num, hP, hR, hB⟩
                    case measure => simp [intOf]; omega
        · have hd : decide ((i : Int) < (b : Int)) = false := by simp; omega
          have hdn : decide (i < b) = false := by simp; omega
          obtain rfl : i = b := by omega
          go_wp2_with fail
          go_quiet (fail)
          have hR := hR.drewN nq
          have hB := below_drewN hB nq
          go_wp2_with fail
          go_ret
          exact ⟨true, M1, rfl, hP, hR, hB⟩
    · have hdk : decide ((k : Int) < (5 : Int)) = false := by simp; omega
      have hdkn : decide (k < 5) = false := by simp; omega
      go_wp2_with fail
      go_ret
      exact ⟨false, M1, rfl, hP, hR, hB⟩
end Go.Proofs.YtdaijbplbnkpeaaDoor
