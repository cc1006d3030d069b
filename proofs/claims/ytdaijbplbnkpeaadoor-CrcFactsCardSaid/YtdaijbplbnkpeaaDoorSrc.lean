/-
  The library's sort at uint32: heapSortOrdered, reverseRangeOrdered.
-/
import Derived.Test.YtdaijbplbnkpeaaDoorSrb
namespace Go.Proofs.YtdaijbplbnkpeaaDoor
open Go.RowKit Go.Shelf

/-- An exchange, also of a cell with itself. -/
theorem Rw.swp {base g n c : Nat} {w : World} {M : List Int} (h : Rw base g n c w M) {i j : Nat} (hi : i < n) (hj : j < n) :
    ∃ (A B : Int) (M' : List Int), M'.Perm M ∧ w.cell? ⟨g, i, none⟩ = some (.int .u32 A) ∧ w.cell? ⟨g, j, none⟩ = some (.int .u32 B) ∧
      Rw base g n c ((w.setCell ⟨g, i, none⟩ (.int .u32 B)).setCell ⟨g, j, none⟩ (.int .u32 A)) M' ∧ Rw base g n c ((w.setCell ⟨g, j, none⟩ (.int .u32 A)).setCell ⟨g, i, none⟩ (.int .u32 B)) M' ∧
      Below base w ((w.setCell ⟨g, i, none⟩ (.int .u32 B)).setCell ⟨g, j, none⟩ (.int .u32 A)) ∧ Below base w ((w.setCell ⟨g, j, none⟩ (.int .u32 A)).setCell ⟨g, i, none⟩ (.int .u32 B)) := by
  by_cases hne : i = j
  · subst hne
    have hl := h.len
    have hp := @List.set_set_perm _ M i i (by omega) (by omega)
    refine ⟨M[i]'(by omega), M[i]'(by omega), _, hp, ?_, ?_, (h.set i _).set i _, (h.set i _).set i _, ?_, ?_⟩
    · rw [h.at hi, List.getElem?_eq_getElem (by omega : i < M.length)]; rfl
    · rw [h.at hi, List.getElem?_eq_getElem (by omega : i < M.length)]; rfl
    · exact ((Below.refl base w).setCell (p := ⟨g, i, none⟩) h.base _).setCell (p := ⟨g, i, none⟩) h.base _
    · exact ((Below.refl base w).setCell (p := ⟨g, i, none⟩) h.base _).setCell (p := ⟨g, i, none⟩) h.base _
  · exact h.swap hi hj hne

set_option maxRecDepth 100000 in
set_option maxHeartbeats 4000000 in
theorem heap_any (base g n c : Nat) (a b : Nat) (M : List Int) (w : World) (hA : Rw base g n c w M) (hab : a ≤ b) (hbn : b ≤ n) (hn' : n ≤ 4294967296) :
    Calls Tryd.prog 65 #[.slice (some ⟨g, 0, none⟩) n c, .int .i64 (a : Int), .int .i64 (b : Int)] w fun e w' => (∃ v, e = .returned v) ∧ ∃ M', M'.Perm M ∧ Rw base g n c w' M' ∧ Below base w w' := by
  obtain ⟨h, hh⟩ : ∃ h : Nat, b - a = h := ⟨_, rfl⟩
  have eh : (b : Int) - (a : Int) = (h : Int) := by omega
  obtain ⟨z0, hz0⟩ : ∃ z : Int, ((h : Int) - 1).tdiv 2 = z := ⟨_, rfl⟩
  have hzb : -1 ≤ z0 ∧ z0 ≤ n := by
    by_cases h0 : h = 0
    · subst h0; rw [← hz0]; exact ⟨by decide, by show ((-1 : Int)).tdiv 2 ≤ _; have : ((-1 : Int)).tdiv 2 = 0 := by decide
                                                 omega⟩
    · rw [← hz0, Int.tdiv_eq_ediv_of_nonneg (by omega)]; omega
  go_enter Tryd.func65, Tryd.ntmps65
  go_wp2_with fail
  go_loopw [9] (fun I wr => ∃ (z : Int) (M' : List Int), -1 ≤ z ∧ z ≤ n ∧ I = .int .i64 z ∧ M'.Perm M ∧ Rw base g n c wr M' ∧ Below base w wr) (fun I _ => (intOf I + 1).toNat)
  case atStart => exact ⟨z0, M, hzb.1, hzb.2, rfl, List.Perm.refl _, hA, Below.refl _ _⟩
  case round =>
    obtain ⟨z, M1, hz1, hzn, rfl, hP, hR, hB⟩ := hrel
    obtain ⟨w1, hw1⟩ : ∃ w1, w1 = wr := ⟨_, rfl⟩
    subst hw1
    clear hA hz0
    by_cases hz : 0 ≤ z
    · obtain ⟨i, rfl⟩ : ∃ i : Nat, z = (i : Int) := ⟨z.toNat, by omega⟩
      have hd : decide ((0 : Int) ≤ (i : Int)) = true := by simp
      go_wp2_with fail
      refine (sift_any base g n c i h a M1 w1 hR (by omega) (by omega) hn').mono ?_
      rintro e w2 ⟨⟨v, rfl⟩, M2, hP2, hR2, hB2⟩
      have hB3 := hB.trans hB2
      have hP3 := hP2.trans hP
      clear hP hR hB hP2 hB2
      go_wp2_with fail
      go_roundw
      case rel => exact ⟨(i : Int) - 1, M2, by omega, by omega, by go_num, hP3, hR2, hB3⟩
      case measure => simp [intOf]
    · have hd : decide ((0 : Int) ≤ z) = false := by simp; omega
      go_wp2_with fail
      go_loopw [10] (fun I wr => ∃ (y : Int) (M' : List Int), -1 ≤ y ∧ y < h ∧ I = .int .i64 y ∧ M'.Perm M ∧ Rw base g n c wr M' ∧ Below base w wr) (fun I _ => (intOf I + 1).toNat)
      case atStart => exact ⟨(h : Int) - 1, M1, by omega, by omega, by go_num, hP, hR, hB⟩
      case round =>
        obtain ⟨y, M2, hy1, hyn, rfl, hP2, hR2, hB2⟩ := hrel
        obtain ⟨w2, hw2⟩ : ∃ w2, w2 = wr := ⟨_, rfl⟩
        subst hw2
        clear hP hR hB
        by_cases hy : 0 ≤ y
        · obtain ⟨i, rfl⟩ : ∃ i : Nat, y = (i : Int) := ⟨y.toNat, by omega⟩
          have hd2 : decide ((0 : Int) ≤ (i : Int)) = true := by simp
          obtain ⟨x, hx⟩ : ∃ x : Nat, x = a + i := ⟨_, rfl⟩
          have e1 : (a : Int) + (i : Int) = (x : Int) := by omega
          have v1 := wrapI x (by omega)
          have i1 : (x : Int) < (n : Int) := by omega
          have i2 : (a : Int) < (n : Int) := by omega
          obtain ⟨A, B, M3, hP3, cA, cB, r1, r2, b1, b2⟩ := hR2.swp (i := a) (j := x) (by omega) (by omega)
          have f1 := hR2.frz a
          have f2 := hR2.frz x
          have m1 := (hR2.set a B).at (j := x) (by omega)
          have m2 := (hR2.set x A).at (j := a) (by omega)
          obtain ⟨V1, hV1⟩ : ∃ v, v = (M2.set a B)[x]?.getD 0 := ⟨_, rfl⟩
          obtain ⟨V2, hV2⟩ : ∃ v, v = (M2.set x A)[a]?.getD 0 := ⟨_, rfl⟩
          rw [← hV1] at m1
          rw [← hV2] at m2
          clear hV1 hV2
          obtain ⟨w3, hw3⟩ : ∃ wz, wz = ((w2.setCell ⟨g, a, none⟩ (.int .u32 B)).setCell ⟨g, x, none⟩ (.int .u32 A)).drew := ⟨_, rfl⟩
          have hR3 := r1.drew
          have hB3 := (hB2.trans b1).drew
          rw [← hw3] at hR3 hB3
          have HW3 := Lib.hid hw3
          have hih : i ≤ n := by omega
          have hah : a + i ≤ n := by omega
          have q := sift_any base g n c 0 i a M3 w3 hR3 (by omega) (by omega) hn'
          have hP4 := hP3.trans hP2
          clear r1 r2 b1 b2 hB2 hR2 hx hw3
          go_wp2_with fail
          go_region
          rw [← HW3.out]
          clear m1 m2 f1 f2 cA cB HW3
          go_wp2_with fail
          refine q.mono ?_
          rintro e w4 ⟨⟨v, rfl⟩, M4, hP5, hR4, hB4⟩
          have hB5 := hB3.trans hB4
          have hP6 := hP5.trans hP4
          clear q hR3 hB3 hB4 hP5 hP4 hP3 hP2
          go_wp2_with fail
          go_roundw
          case rel => exact ⟨(i : Int) - 1, M4, by omega, by omega, by go_num, hP6, hR4, hB5⟩
          case measure => simp [intOf]
        · have hd2 : decide ((0 : Int) ≤ y) = false := by simp; omega
          go_wp2_with fail
          first | go_end0 | refine bodyPost_ret (results_none rfl _ _ _) rfl ?_
          exact ⟨⟨_, rfl⟩, M2, hP2, hR2, hB2⟩
end Go.Proofs.YtdaijbplbnkpeaaDoor
