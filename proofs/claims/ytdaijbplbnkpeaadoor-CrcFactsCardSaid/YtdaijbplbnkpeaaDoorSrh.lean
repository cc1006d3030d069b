/-
  The library's sort at uint32: choosePivotOrdered.
-/
import Derived.Test.YtdaijbplbnkpeaaDoorSrg
namespace Go.Proofs.YtdaijbplbnkpeaaDoor
open Go.RowKit Go.Shelf

set_option maxRecDepth 100000 in
set_option maxHeartbeats 4000000 in
theorem piv_any (base g n c : Nat) (a b : Nat) (M : List Int) (w : World) (hR : Rw base g n c w M) (hab : a + 12 < b) (hbn : b ≤ n) (hn' : n ≤ 4294967296) :
    Calls Tryd.prog 67 #[.slice (some ⟨g, 0, none⟩) n c, .int .i64 (a : Int), .int .i64 (b : Int)] w fun e w' => ∃ (m : Nat) (h : Int), e = .returned (.tuple #[.int .i64 (m : Int), .int .i64 h]) ∧ a ≤ m ∧ m < b ∧ 0 ≤ h ∧ h ≤ 2 ∧ Rw base g n c w' M ∧ Below base w w' := by
  obtain ⟨l, hl⟩ : ∃ l : Nat, b - a = l := ⟨_, rfl⟩
  have el : (b : Int) - (a : Int) = (l : Int) := by omega
  obtain ⟨i, hi⟩ : ∃ i : Nat, a + l / 4 = i := ⟨_, rfl⟩
  obtain ⟨j, hj⟩ : ∃ j : Nat, a + l / 4 * 2 = j := ⟨_, rfl⟩
  obtain ⟨k, hk⟩ : ∃ k : Nat, a + l / 4 * 3 = k := ⟨_, rfl⟩
  have ei : (a : Int) + (l : Int) / 4 = (i : Int) := by omega
  have ej : (a : Int) + (l : Int) / 4 * 2 = (j : Int) := by omega
  have ek : (a : Int) + (l : Int) / 4 * 3 = (k : Int) := by omega
  have hib : a + 2 < i ∧ i < j := by omega
  have hjb : j < k ∧ k < b := by omega
  have hl8 : decide ((8 : Int) ≤ (l : Int)) = true := by simp; omega
  have hgl := (World.ownsRow.lt hR g rfl).2
  have hA : Rs base g n c w.heap.size 0 (w.alloc (.cells #[.int .i64 0] 3)) M := ⟨hR.below ((Below.refl _ w).alloc (Nat.le_refl _) _), Boxed.new w _ _, by have := hR.base; omega, by omega⟩
  have hB1 : Below base w (w.alloc (.cells #[.int .i64 0] 3)) := (Below.refl _ w).alloc (by have := hR.base; omega) _
  by_cases h50 : 50 ≤ l
  · have hd : decide ((50 : Int) ≤ (l : Int)) = true := by simp; omega
    have hi2 : i + 1 < b ∧ a < i ∧ k + 1 < b := by omega
    have HI := Lib.hid (And.intro hi (And.intro hj hk))
    clear hi hj hk hl
    go_enter Tryd.func67, Tryd.ntmps67
    go_wp2_with fail
    refine (medadj_any base g n c w.heap.size 0 i M _ hA (by omega) (by omega) hn' (by omega)).mono ?_
    rintro e w2 ⟨x1, k1, rfl, hx1a, hx1b, hk1, hA2, hB2⟩
    go_wp2_with fail
    refine (medadj_any base g n c w.heap.size k1 j M _ hA2 (by omega) (by omega) hn' (by omega)).mono ?_
    rintro e w3 ⟨x2, k2, rfl, hx2a, hx2b, hk2, hA3, hB3⟩
    go_wp2_with fail
    refine (medadj_any base g n c w.heap.size k2 k M _ hA3 (by omega) (by omega) hn' (by omega)).mono ?_
    rintro e w4 ⟨x3, k3, rfl, hx3a, hx3b, hk3, hA4, hB4⟩
    go_wp2_with fail
    refine (med_any base g n c w.heap.size k3 x1 x2 x3 M _ hA4 (by omega) (by omega) (by omega) (by omega)).mono ?_
    rintro e w5 ⟨x4, kk, rfl, hx4, hk4, hA5, hB5⟩
    have hm : a ≤ x4 ∧ x4 < b := by omega
    have hBB := (((hB1.trans hB2).trans hB3).trans hB4).trans hB5
    clear hx4 hA hA2 hA3 hA4 hB1 hB2 hB3 hB4 hB5 hR
    have k1 := hA5.2.1.cell
    by_cases z0 : kk = 0
    · subst z0
      have hcc : w5.cell? ⟨w.heap.size, 0, none⟩ = some (.int .i64 0) := k1
      clear k1
      go_wp2_with fail
      go_ret2
      exact ⟨x4, 1, rfl, hm.1, hm.2, by omega, by omega, hA5.1, hBB⟩
    · have hz0 : ((kk : Int) == 0) = false := by simp; omega
      by_cases z12 : kk = 12
      · subst z12
        have hcc : w5.cell? ⟨w.heap.size, 0, none⟩ = some (.int .i64 12) := k1
        clear k1
        go_wp2_with fail
        go_ret2
        exact ⟨x4, 2, rfl, hm.1, hm.2, by omega, by omega, hA5.1, hBB⟩
      · have hz12 : ((kk : Int) == 12) = false := by simp; omega
        go_wp2_with fail
        go_ret2
        exact ⟨x4, 0, rfl, hm.1, hm.2, by omega, by omega, hA5.1, hBB⟩
  · have hd : decide ((50 : Int) ≤ (l : Int)) = false := by simp; omega
    clear hi hj hk hl
    go_enter Tryd.func67, Tryd.ntmps67
    go_wp2_with fail
    refine (med_any base g n c w.heap.size 0 i j k M _ hA (by omega) (by omega) (by omega) (by omega)).mono ?_
    rintro e w5 ⟨x4, kk, rfl, hx4, hk4, hA5, hB5⟩
    have hm : a ≤ x4 ∧ x4 < b := by omega
    have hBB := hB1.trans hB5
    clear hx4 hA hB1 hB5 hR
    have k1 := hA5.2.1.cell
    by_cases z0 : kk = 0
    · subst z0
      have hcc : w5.cell? ⟨w.heap.size, 0, none⟩ = some (.int .i64 0) := k1
      clear k1
      go_wp2_with fail
      go_ret2
      exact ⟨x4, 1, rfl, hm.1, hm.2, by omega, by omega, hA5.1, hBB⟩
    · have hz0 : ((kk : Int) == 0) = false := by simp; omega
      by_cases z12 : kk = 12
      · subst z12
        have hcc : w5.cell? ⟨w.heap.size, 0, none⟩ = some (.int .i64 12) := k1
        clear k1
        go_wp2_with fail
        go_ret2
        exact ⟨x4, 2, rfl, hm.1, hm.2, by omega, by omega, hA5.1, hBB⟩
      · have hz12 : ((kk : Int) == 12) = false := by simp; omega
        go_wp2_with fail
        go_ret2
        exact ⟨x4, 0, rfl, hm.1, hm.2, by omega, by omega, hA5.1, hBB⟩
end Go.Proofs.YtdaijbplbnkpeaaDoor
