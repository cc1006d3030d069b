/-
  The library's sort at uint32: siftDownOrdered.
-/
import Derived.Test.YtdaijbplbnkpeaaDoorSra
namespace Go.Proofs.YtdaijbplbnkpeaaDoor
open Go.RowKit Go.Shelf

set_option maxRecDepth 100000 in
set_option maxHeartbeats 4000000 in
theorem sift_any (base g n c : Nat) (lo hi f : Nat) (M : List Int) (w : World) (hA : Rw base g n c w M) (hlo : lo ≤ n) (hfn : f + hi ≤ n) (hn' : n ≤ 4294967296) :
    Calls Tryd.prog 81 #[.slice (some ⟨g, 0, none⟩) n c, .int .i64 (lo : Int), .int .i64 (hi : Int), .int .i64 (f : Int)] w fun e w' => (∃ v, e = .returned v) ∧ ∃ M', M'.Perm M ∧ Rw base g n c w' M' ∧ Below base w w' := by
  go_enter Tryd.func81, Tryd.ntmps81
  go_wp2_with fail
  go_loopw [8] (fun I wr => ∃ (r : Nat) (M' : List Int), r ≤ n ∧ I = .int .i64 (r : Int) ∧ M'.Perm M ∧ Rw base g n c wr M' ∧ Below base w wr) (fun I _ => n - (intOf I).toNat)
  case atStart => exact ⟨lo, M, by omega, rfl, List.Perm.refl _, hA, Below.refl _ _⟩
  case round =>
    obtain ⟨r, M1, hrn, rfl, hP, hR, hB⟩ := hrel
    obtain ⟨w1, hw1⟩ : ∃ w1, w1 = wr := ⟨_, rfl⟩
    subst hw1
    clear hA
    obtain ⟨q, hq⟩ : ∃ q : Nat, 2 * r + 1 = q := ⟨_, rfl⟩
    have eq1 : 2 * (r : Int) + 1 = (q : Int) := by omega
    by_cases hc : hi ≤ q
    · have hd : decide ((hi : Int) ≤ (q : Int)) = true := by simp; omega
      go_wp2_with fail
      first | go_end0 | refine bodyPost_ret (results_none rfl _ _ _) rfl ?_
      exact ⟨⟨_, rfl⟩, M1, hP, hR, hB⟩
    · have hd : decide ((hi : Int) ≤ (q : Int)) = false := by simp; omega
      obtain ⟨x1, hx1⟩ : ∃ x : Nat, x = f + r := ⟨_, rfl⟩
      obtain ⟨x2, hx2⟩ : ∃ x : Nat, x = f + q := ⟨_, rfl⟩
      obtain ⟨x3, hx3⟩ : ∃ x : Nat, x = f + q + 1 := ⟨_, rfl⟩
      obtain ⟨p, hp⟩ : ∃ p : Nat, p = q + 1 := ⟨_, rfl⟩
      have e1 : (f : Int) + (r : Int) = (x1 : Int) := by omega
      have e2 : (f : Int) + (q : Int) = (x2 : Int) := by omega
      have e3 : (x2 : Int) + 1 = (x3 : Int) := by omega
      have e4 : (q : Int) + 1 = (p : Int) := by omega
      have e5 : (f : Int) + (p : Int) = (x3 : Int) := by omega
      have v1 := wrapI x1 (by omega)
      have v2 := wrapI x2 (by omega)
      have v3 := wrapI x3 (by omega)
      have v4 := wrapI p (by omega)
      have i1 : (x1 : Int) < (n : Int) := by omega
      have i2 : (x2 : Int) < (n : Int) := by omega
      by_cases hc2 : p < hi
      · have hd2 : decide ((p : Int) < (hi : Int)) = true := by simp; omega
        have i3 : (x3 : Int) < (n : Int) := by omega
        have cA := hR.at (j := x2) (by omega)
        have cB := hR.at (j := x3) (by omega)
        obtain ⟨V2, hV2⟩ : ∃ v, v = M1[x2]?.getD 0 := ⟨_, rfl⟩
        obtain ⟨V3, hV3⟩ : ∃ v, v = M1[x3]?.getD 0 := ⟨_, rfl⟩
        rw [← hV2] at cA
        rw [← hV3] at cB
        clear hV2 hV3 hq hx1 hx2 hx3 hp
        go_wp2_with fail
        go_quiet ((go_at_call 53; exact Calls.quiet_of_same (less_q _ _ _)))
        have hR := hR.drewN nq
        have hB := below_drewN hB nq
        obtain ⟨w2, hw2⟩ : ∃ w2, w2 = w1.drewN nq := ⟨_, rfl⟩
        rw [← hw2] at hR hB ⊢
        clear hw2 cA cB
        by_cases hl2 : V2 < V3
        · have hd3 : decide (V2 < V3) = true := by simpa using hl2
          go_wp2_with fail
          clear hd3 hl2
          have d5 := And.intro (hR.at (j := x1) (by omega)) (hR.at (j := x3) (by omega))
          obtain ⟨cX, cY⟩ := d5
          obtain ⟨VX, hVX⟩ : ∃ v, v = M1[x1]?.getD 0 := ⟨_, rfl⟩
          obtain ⟨VY, hVY⟩ : ∃ v, v = M1[x3]?.getD 0 := ⟨_, rfl⟩
          rw [← hVX] at cX
          rw [← hVY] at cY
          clear hVX hVY
          have ql := fun w => less_q VX VY w
          obtain ⟨bb, hbb⟩ : ∃ bb, bb = decide (VX < VY) := ⟨_, rfl⟩
          simp only [← hbb] at ql
          clear hbb
          go_quiet ((go_at_call 53; exact Calls.quiet_of_same (ql _)))
          have hR3 := hR.drewN nq
          have hB3 := below_drewN hB nq
          obtain ⟨w3, hw3⟩ : ∃ w3, w3 = w2.drewN nq := ⟨_, rfl⟩
          rw [← hw3] at hR3 hB3 ⊢
          clear hw3 cX cY
          clear ql
          cases bb with
          | true =>
            go_wp2_with fail
            obtain ⟨A', B', M4, hP4, cA, cB, r1, r2, b1, b2⟩ := hR3.swap (i := x1) (j := x3) (by omega) (by omega) (by omega)
            have f1 := hR3.frz x1
            have f2 := hR3.frz x3
            have S1 := Lib.hid (And.intro r1.drew (hB3.trans b1).drew)
            have S2 := Lib.hid (And.intro r2.drew (hB3.trans b2).drew)
            clear r1 r2 b1 b2 hB3 hR3 hR hB
            have ne1 : x1 ≠ x3 := by omega
            go_region
            all_goals
              go_wp2_with fail
              go_roundw
              case rel =>
                first
                | exact ⟨p, M4, by omega, rfl, hP4.trans hP, S1.out.1, S1.out.2⟩
                | exact ⟨p, M4, by omega, rfl, hP4.trans hP, S2.out.1, S2.out.2⟩
              case measure => simp [intOf]; omega
          | false =>
            go_wp2_with fail
            first | go_end0 | refine bodyPost_ret (results_none rfl _ _ _) rfl ?_
            exact ⟨⟨_, rfl⟩, M1, hP, hR3, hB3⟩
        · have hd3 : decide (V2 < V3) = false := by simpa using hl2
          go_wp2_with fail
          clear hd3 hl2
          have d5 := And.intro (hR.at (j := x1) (by omega)) (hR.at (j := x2) (by omega))
          obtain ⟨cX, cY⟩ := d5
          obtain ⟨VX, hVX⟩ : ∃ v, v = M1[x1]?.getD 0 := ⟨_, rfl⟩
          obtain ⟨VY, hVY⟩ : ∃ v, v = M1[x2]?.getD 0 := ⟨_, rfl⟩
          rw [← hVX] at cX
          rw [← hVY] at cY
          clear hVX hVY
          have ql := fun w => less_q VX VY w
          obtain ⟨bb, hbb⟩ : ∃ bb, bb = decide (VX < VY) := ⟨_, rfl⟩
          simp only [← hbb] at ql
          clear hbb
          go_quiet ((go_at_call 53; exact Calls.quiet_of_same (ql _)))
          have hR3 := hR.drewN nq
          have hB3 := below_drewN hB nq
          obtain ⟨w3, hw3⟩ : ∃ w3, w3 = w2.drewN nq := ⟨_, rfl⟩
          rw [← hw3] at hR3 hB3 ⊢
          clear hw3 cX cY
          clear ql
          cases bb with
          | true =>
            go_wp2_with fail
            obtain ⟨A', B', M4, hP4, cA, cB, r1, r2, b1, b2⟩ := hR3.swap (i := x1) (j := x2) (by omega) (by omega) (by omega)
            have f1 := hR3.frz x1
            have f2 := hR3.frz x2
            have S1 := Lib.hid (And.intro r1.drew (hB3.trans b1).drew)
            have S2 := Lib.hid (And.intro r2.drew (hB3.trans b2).drew)
            clear r1 r2 b1 b2 hB3 hR3 hR hB
            have ne1 : x1 ≠ x2 := by omega
            go_region
            all_goals
              go_wp2_with fail
              go_roundw
              case rel =>
                first
                | exact ⟨q, M4, by omega, rfl, hP4.trans hP, S1.out.1, S1.out.2⟩
                | exact ⟨q, M4, by omega, rfl, hP4.trans hP, S2.out.1, S2.out.2⟩
              case measure => simp [intOf]; omega
          | false =>
            go_wp2_with fail
            first | go_end0 | refine bodyPost_ret (results_none rfl _ _ _) rfl ?_
            exact ⟨⟨_, rfl⟩, M1, hP, hR3, hB3⟩
      · have hd2 : decide ((p : Int) < (hi : Int)) = false := by simp; omega
        clear hq hx1 hx2 hx3 hp
        go_wp2_with fail
        go_quiet (fail)
        have hR := hR.drewN nq
        have hB := below_drewN hB nq
        obtain ⟨w2, hw2⟩ : ∃ w2, w2 = w1.drewN nq := ⟨_, rfl⟩
        rw [← hw2] at hR hB ⊢
        clear hw2
        go_wp2_with fail
        have d5 := And.intro (hR.at (j := x1) (by omega)) (hR.at (j := x2) (by omega))
        obtain ⟨cX, cY⟩ := d5
        obtain ⟨VX, hVX⟩ : ∃ v, v = M1[x1]?.getD 0 := ⟨_, rfl⟩
        obtain ⟨VY, hVY⟩ : ∃ v, v = M1[x2]?.getD 0 := ⟨_, rfl⟩
        rw [← hVX] at cX
        rw [← hVY] at cY
        clear hVX hVY
        have ql := fun w => less_q VX VY w
        obtain ⟨bb, hbb⟩ : ∃ bb, bb = decide (VX < VY) := ⟨_, rfl⟩
        simp only [← hbb] at ql
        clear hbb
        go_quiet ((go_at_call 53; exact Calls.quiet_of_same (ql _)))
        have hR3 := hR.drewN nq
        have hB3 := below_drewN hB nq
        obtain ⟨w3, hw3⟩ : ∃ w3, w3 = w2.drewN nq := ⟨_, rfl⟩
        rw [← hw3] at hR3 hB3 ⊢
        clear hw3 cX cY
        clear ql
        cases bb with
        | true =>
          go_wp2_with fail
          obtain ⟨A', B', M4, hP4, cA, cB, r1, r2, b1, b2⟩ := hR3.swap (i := x1) (j := x2) (by omega) (by omega) (by omega)
          have f1 := hR3.frz x1
          have f2 := hR3.frz x2
          have S1 := Lib.hid (And.intro r1.drew (hB3.trans b1).drew)
          have S2 := Lib.hid (And.intro r2.drew (hB3.trans b2).drew)
          clear r1 r2 b1 b2 hB3 hR3 hR hB
          have ne1 : x1 ≠ x2 := by omega
          go_region
          all_goals
            go_wp2_with fail
            go_roundw
            case rel =>
              first
              | exact ⟨q, M4, by omega, rfl, hP4.trans hP, S1.out.1, S1.out.2⟩
              | exact ⟨q, M4, by omega, rfl, hP4.trans hP, S2.out.1, S2.out.2⟩
            case measure => simp [intOf]; omega
        | false =>
          go_wp2_with fail
          first | go_end0 | refine bodyPost_ret (results_none rfl _ _ _) rfl ?_
          exact ⟨⟨_, rfl⟩, M1, hP, hR3, hB3⟩
end Go.Proofs.YtdaijbplbnkpeaaDoor
