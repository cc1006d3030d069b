/-
  The library's sort at uint32: breakPatternsOrdered.
-/
import Derived.Test.YtdaijbplbnkpeaaDoorSrj
namespace Go.Proofs.YtdaijbplbnkpeaaDoor
open Go.RowKit Go.Shelf

set_option maxRecDepth 100000 in
set_option maxHeartbeats 4000000 in
theorem brk_any (base g n c : Nat) (a b : Nat) (M : List Int) (w : World) (hR : Rw base g n c w M) (hab : a + 12 < b) (hbn : b ≤ n) (hn' : n ≤ 4294967296) :
    Calls Tryd.prog 66 #[.slice (some ⟨g, 0, none⟩) n c, .int .i64 (a : Int), .int .i64 (b : Int)] w fun e w' => (∃ v, e = .returned v) ∧ ∃ M', M'.Perm M ∧ Rw base g n c w' M' ∧ Below base w w' := by
  obtain ⟨l, hl⟩ : ∃ l : Nat, b - a = l := ⟨_, rfl⟩
  have el : (b : Int) - (a : Int) = (l : Int) := by omega
  obtain ⟨z, hz⟩ : ∃ z : Nat, a + l / 4 * 2 = z := ⟨_, rfl⟩
  obtain ⟨x0, hx0⟩ : ∃ x : Nat, z - 1 = x := ⟨_, rfl⟩
  obtain ⟨y0, hy0⟩ : ∃ x : Nat, z + 1 = x := ⟨_, rfl⟩
  have ez : (a : Int) + (l : Int) / 4 * 2 = (z : Int) := by omega
  have ex0 : (z : Int) - 1 = (x0 : Int) := by omega
  have ey0 : (z : Int) + 1 = (y0 : Int) := by omega
  have hyb : y0 < b ∧ x0 + 2 = y0 ∧ a < x0 := by omega
  have hl8 : decide ((8 : Int) ≤ (l : Int)) = true := by simp; omega
  have hwl : IntKind.u64.wrap (l : Int) = (l : Int) := by rw [IntKind.wrap_u64]; omega
  have hgl := (World.ownsRow.lt hR g rfl).2
  have hA : Rw base g n c (w.alloc (.cells #[.int .u64 (l : Int)] 110)) M ∧ Boxed (w.alloc (.cells #[.int .u64 (l : Int)] 110)) w.heap.size 110 (.int .u64 (l : Int)) ∧ base ≤ w.heap.size ∧ w.heap.size ≠ g := ⟨hR.below ((Below.refl _ w).alloc (Nat.le_refl _) _), Boxed.new w _ _, by have := hR.base; omega, by omega⟩
  have hB1 : Below base w (w.alloc (.cells #[.int .u64 (l : Int)] 110)) := (Below.refl _ w).alloc (by have := hR.base; omega) _
  have hlb : l ≤ b := by omega
  clear hz hx0 hy0
  go_enter Tryd.func66, Tryd.ntmps66
  go_wp2_with fail
  refine (npow_any l _ (by omega) (by omega)).mono ?_
  rintro e w2 ⟨k, hk34, hk1, hk2, rfl, hw⟩
  rw [hw]
  clear hw
  obtain ⟨w1, hw1⟩ : ∃ wz, w.alloc (.cells #[.int .u64 (l : Int)] 110) = wz := ⟨_, rfl⟩
  rw [hw1] at hA hB1 ⊢
  clear hw1
  have hmk := fun Y h => mask_in Y k h (by omega)
  obtain ⟨p, hp⟩ : ∃ p : Nat, p = 2 ^ k := ⟨_, rfl⟩
  have hp34 : p ≤ 17179869184 := by rw [hp]; exact Nat.pow_le_pow_right (n := 2) (by omega) hk34
  rw [← hp] at hk1 hk2 ⊢
  simp only [← hp] at hmk
  have hpw : IntKind.u64.wrap ((p : Int) - 1) = ((p - 1 : Nat) : Int) := by rw [IntKind.wrap_u64]; omega
  have HMK := Lib.hid hmk
  clear hp hmk hR
  go_wp2_with fail
  go_loopw [9] (fun I wr => ∃ (x : Nat) (X : Int) (M' : List Int), x0 ≤ x ∧ x ≤ y0 + 1 ∧ I = .int .i64 (x : Int) ∧ M'.Perm M ∧ (Rw base g n c wr M' ∧ Boxed wr w.heap.size 110 (.int .u64 X) ∧ base ≤ w.heap.size ∧ w.heap.size ≠ g) ∧ Below base w wr) (fun I _ => y0 + 1 - (intOf I).toNat)
  case atStart => exact ⟨x0, (l : Int), M, by omega, by omega, rfl, List.Perm.refl _, hA, hB1⟩
  case round =>
    obtain ⟨x, X, M1, hxa, hxb, rfl, hP, hS, hB⟩ := hrel
    obtain ⟨w2, hw2⟩ : ∃ wz, wz = wr := ⟨_, rfl⟩
    subst hw2
    clear hA hB1
    by_cases hlt : x ≤ y0
    · have hd : decide ((x : Int) ≤ (y0 : Int)) = true := by simp; omega
      go_wp2_with fail
      refine (nxt_any base g n c w.heap.size X M1 w2 hS).mono ?_
      rintro e w3 ⟨Y, hY0, hY1, rfl, hS, hB3'⟩
      have hB3 := hB.trans hB3'
      obtain ⟨o, ho⟩ : ∃ o : Nat, o = Y.toNat % p := ⟨_, rfl⟩
      have hop : o < p := by rw [ho]; exact Nat.mod_lt _ (by omega)
      have hm := HMK.out Y ⟨hY0, hY1⟩
      rw [← ho] at hm
      have wo := wrapI o (by omega)
      clear ho hB hB3'
      by_cases hol : l ≤ o
      · have hd2 : decide ((l : Int) ≤ (o : Int)) = true := by simp; omega
        obtain ⟨q, hq⟩ : ∃ q : Nat, o - l = q := ⟨_, rfl⟩
        have eq1 : (o : Int) - (l : Int) = (q : Int) := by omega
        have hqb : a + q < b := by omega
        obtain ⟨v0, hv0⟩ : ∃ v : Nat, v = a + q := ⟨_, rfl⟩
        have ev : (a : Int) + (q : Int) = (v0 : Int) := by omega
        have wv := wrapI v0 (by omega)
        have iv : (v0 : Int) < (n : Int) := by omega
        have ix : (x : Int) < (n : Int) := by omega
        obtain ⟨A, B, M3, hP3, cA, cB, r1, r2, b1, b2⟩ := hS.1.swp (i := x) (j := v0) (by omega) (by omega)
        have f1 := hS.1.frz x
        have f2 := hS.1.frz v0
        have m1 := (hS.1.set x B).at (j := v0) (by omega)
        obtain ⟨V1, hV1⟩ : ∃ v, v = (M1.set x B)[v0]?.getD 0 := ⟨_, rfl⟩
        rw [← hV1] at m1
        obtain ⟨w4, hw4⟩ : ∃ wz, wz = (((w3).setCell ⟨g, x, none⟩ (.int .u32 B)).setCell ⟨g, v0, none⟩ (.int .u32 A)).drew := ⟨_, rfl⟩
        have hR4 := r1.drew
        have hB4 := (hB3.trans b1).drew
        have hX4 : Boxed w4 w.heap.size 110 (.int .u64 Y) := by
          rw [hw4]
          exact (Below.heap_setCell _ _ _ _ (by show w.heap.size ≠ g; omega)).trans ((Below.heap_setCell _ _ _ _ (by show w.heap.size ≠ g; omega)).trans hS.2.1)
        rw [← hw4] at hR4 hB4
        have HW4 := Lib.hid hw4
        have hP4 := hP3.trans hP
        have hs3 := hS.2.2
        clear r1 r2 b1 b2 hw4 hV1 hP3 hP hS hB3 hv0
        go_wp2_with fail
        go_region
        all_goals
          rw [← HW4.out]
          go_wp2_with fail
          go_roundw
          case rel => exact ⟨x + 1, Y, M3, by omega, by omega, by go_num, hP4, ⟨hR4, hX4, hs3⟩, hB4⟩
          case measure => simp [intOf]; omega
      · have hd2 : decide ((l : Int) ≤ (o : Int)) = false := by simp; omega
        have hqb : a + o < b := by omega
        obtain ⟨v0, hv0⟩ : ∃ v : Nat, v = a + o := ⟨_, rfl⟩
        have ev : (a : Int) + (o : Int) = (v0 : Int) := by omega
        have wv := wrapI v0 (by omega)
        have iv : (v0 : Int) < (n : Int) := by omega
        have ix : (x : Int) < (n : Int) := by omega
        obtain ⟨A, B, M3, hP3, cA, cB, r1, r2, b1, b2⟩ := hS.1.swp (i := x) (j := v0) (by omega) (by omega)
        have f1 := hS.1.frz x
        have f2 := hS.1.frz v0
        have m1 := (hS.1.set x B).at (j := v0) (by omega)
        obtain ⟨V1, hV1⟩ : ∃ v, v = (M1.set x B)[v0]?.getD 0 := ⟨_, rfl⟩
        rw [← hV1] at m1
        obtain ⟨w4, hw4⟩ : ∃ wz, wz = (((w3).setCell ⟨g, x, none⟩ (.int .u32 B)).setCell ⟨g, v0, none⟩ (.int .u32 A)).drew := ⟨_, rfl⟩
        have hR4 := r1.drew
        have hB4 := (hB3.trans b1).drew
        have hX4 : Boxed w4 w.heap.size 110 (.int .u64 Y) := by
          rw [hw4]
          exact (Below.heap_setCell _ _ _ _ (by show w.heap.size ≠ g; omega)).trans ((Below.heap_setCell _ _ _ _ (by show w.heap.size ≠ g; omega)).trans hS.2.1)
        rw [← hw4] at hR4 hB4
        have HW4 := Lib.hid hw4
        have hP4 := hP3.trans hP
        have hs3 := hS.2.2
        clear r1 r2 b1 b2 hw4 hV1 hP3 hP hS hB3 hv0
        go_wp2_with fail
        go_region
        all_goals
          rw [← HW4.out]
          go_wp2_with fail
          go_roundw
          case rel => exact ⟨x + 1, Y, M3, by omega, by omega, by go_num, hP4, ⟨hR4, hX4, hs3⟩, hB4⟩
          case measure => simp [intOf]; omega
    · have hd : decide ((x : Int) ≤ (y0 : Int)) = false := by simp; omega
      go_wp2_with fail
      first | go_end0 | refine bodyPost_ret (results_none rfl _ _ _) rfl ?_
      exact ⟨⟨_, rfl⟩, M1, hP, hS.1, hB⟩
end Go.Proofs.YtdaijbplbnkpeaaDoor
