/-
  The library's sort at uint32: reverseRangeOrdered.
-/
import Derived.Test.YtdaijbplbnkpeaaDoorSrc
namespace Go.Proofs.YtdaijbplbnkpeaaDoor
open Go.RowKit Go.Shelf

set_option maxRecDepth 100000 in
set_option maxHeartbeats 4000000 in
theorem rev_any (base g n c : Nat) (a b : Nat) (M : List Int) (w : World) (hA : Rw base g n c w M) (hab : a ≤ b) (hbn : b ≤ n) (hn' : n ≤ 4294967296) :
    Calls Tryd.prog 68 #[.slice (some ⟨g, 0, none⟩) n c, .int .i64 (a : Int), .int .i64 (b : Int)] w fun e w' => (∃ v, e = .returned v) ∧ ∃ M', M'.Perm M ∧ Rw base g n c w' M' ∧ Below base w w' := by
  go_enter Tryd.func68, Tryd.ntmps68
  go_wp2_with fail
  go_loopw [6, 7] (fun I J wr => ∃ (i : Nat) (y : Int) (M' : List Int), i ≤ n ∧ -1 ≤ y ∧ y < n ∧ I = .int .i64 (i : Int) ∧ J = .int .i64 y ∧ M'.Perm M ∧ Rw base g n c wr M' ∧ Below base w wr) (fun I J _ => (intOf J + 1).toNat)
  case atStart => exact ⟨a, (b : Int) - 1, M, by omega, by omega, by omega, rfl, by go_num, List.Perm.refl _, hA, Below.refl _ _⟩
  case round =>
    obtain ⟨i, y, M1, hin, hy1, hyn, rfl, rfl, hP, hR, hB⟩ := hrel
    obtain ⟨w1, hw1⟩ : ∃ w1, w1 = wr := ⟨_, rfl⟩
    subst hw1
    clear hA
    by_cases hlt : (i : Int) < y
    · obtain ⟨j, rfl⟩ : ∃ j : Nat, y = (j : Int) := ⟨y.toNat, by omega⟩
      have hd : decide ((i : Int) < (j : Int)) = true := by simpa using hlt
      have hd' : decide (i < j) = true := by simp; omega
      have i1 : (i : Int) < (n : Int) := by omega
      have i2 : (j : Int) < (n : Int) := by omega
      obtain ⟨A, B, M2, hP2, cA, cB, r1, r2, b1, b2⟩ := hR.swap (i := i) (j := j) (by omega) (by omega) (by omega)
      have f1 := hR.frz i
      have f2 := hR.frz j
      have ne1 : i ≠ j := by omega
      obtain ⟨w3, hw3⟩ : ∃ wz, wz = ((w1.setCell ⟨g, i, none⟩ (.int .u32 B)).setCell ⟨g, j, none⟩ (.int .u32 A)).drew := ⟨_, rfl⟩
      have hR3 := r1.drew
      have hB3 := (hB.trans b1).drew
      rw [← hw3] at hR3 hB3
      have HW3 := Lib.hid hw3
      have hP3 := hP2.trans hP
      clear r1 r2 b1 b2 hw3 hR hB hP hP2
      go_wp2_with fail
      go_region
      rw [← HW3.out]
      clear f1 f2 cA cB HW3
      go_wp2_with fail
      go_roundw
      case rel => exact ⟨i + 1, (j : Int) - 1, M2, by omega, by omega, by omega, by go_num, by go_num, hP3, hR3, hB3⟩
      case measure => simp [intOf]
    · have hd : decide ((i : Int) < y) = false := by simp; omega
      go_wp2_with fail
      first | go_end0 | refine bodyPost_ret (results_none rfl _ _ _) rfl ?_
      exact ⟨⟨_, rfl⟩, M1, hP, hR, hB⟩
end Go.Proofs.YtdaijbplbnkpeaaDoor
