/-
  The library's sort at uint32: what it leaves is a permutation of what was there (nothing is said of the order). Here: the row, an exchange, cmp.Less, insertionSortOrdered.
-/
import Derived.Test.YtdaijbplbnkpeaaDoorQaw
import Derived.Test.YtdaijbplbnkpeaaDoorCrd
import Derived.Test.YtdaijbplbnkpeaaDoorFnd
import Derived.Test.YtdaijbplbnkpeaaDoorHs3
import Derived.Test.YtdaijbplbnkpeaaDoorHpl
import Derived.Test.YtdaijbplbnkpeaaDoorApz
import Derived.RegionTactic
import Derived.LoopTactic
import Derived.BigRegion
import Derived.Deep.QuietTactic
import Derived.BigQuiet
namespace Go.Proofs.YtdaijbplbnkpeaaDoor
open Go.RowKit Go.Shelf

/-- The row that is sorted. -/
def Rw (base g n c : Nat) (w : World) (M : List Int) : Prop := w.ownsRow base 23 1 (.slice (some ⟨g, 0, none⟩) n c) n (M.map (Value.int .u32))
theorem Rw.len {base g n c : Nat} {w : World} {M : List Int} (h : Rw base g n c w M) : M.length = n := by have h2 := h.1; rw [List.length_map, Nat.mul_one] at h2; exact h2
theorem Rw.at {base g n c : Nat} {w : World} {M : List Int} (h : Rw base g n c w M) {j : Nat} (hj : j < n) : w.cell? ⟨g, j, none⟩ = some (.int .u32 (M[j]?.getD 0)) := by
  have hl := h.len
  rw [World.ownsRow.cellAt h j (by omega), List.getElem?_map, List.getElem?_eq_getElem (by omega : j < M.length)]; rfl
theorem Rw.frz {base g n c : Nat} {w : World} {M : List Int} (h : Rw base g n c w M) (j : Nat) : w.frozen? ⟨g, j, none⟩ = false := World.ownsRow.frozenAt h j
theorem Rw.set {base g n c : Nat} {w : World} {M : List Int} (h : Rw base g n c w M) (j : Nat) (v : Int) : Rw base g n c (w.setCell ⟨g, j, none⟩ (.int .u32 v)) (M.set j v) := by
  unfold Rw; rw [List.map_set]; exact (World.ownsRow.stored h j _).1
theorem Rw.base {base g n c : Nat} {w : World} {M : List Int} (h : Rw base g n c w M) : base ≤ g := (World.ownsRow.lt h g rfl).1
theorem Rw.below {base g n c : Nat} {w w' : World} {M : List Int} (h : Rw base g n c w M) (hb : Below w.heap.size w w') : Rw base g n c w' M := ownsRow_below h hb
theorem Rw.drew {base g n c : Nat} {w : World} {M : List Int} (h : Rw base g n c w M) : Rw base g n c w.drew M := h.below (Below.refl _ _).drew
theorem Rw.drewN {base g n c : Nat} {w : World} {M : List Int} (h : Rw base g n c w M) (q : Nat) : Rw base g n c (w.drewN q) M := h.below (below_drewN (Below.refl _ _) q)

theorem wrapI (x : Nat) (h : x ≤ 17179869184) : IntKind.i64.wrap (x : Int) = (x : Int) := by rw [IntKind.wrap_i64]; omega

/-- An exchange, in either order of its stores. -/
theorem Rw.swap {base g n c : Nat} {w : World} {M : List Int} (h : Rw base g n c w M) {i j : Nat} (hi : i < n) (hj : j < n) (hne : i ≠ j) :
    ∃ (A B : Int) (M' : List Int), M'.Perm M ∧ w.cell? ⟨g, i, none⟩ = some (.int .u32 A) ∧ w.cell? ⟨g, j, none⟩ = some (.int .u32 B) ∧
      Rw base g n c ((w.setCell ⟨g, i, none⟩ (.int .u32 B)).setCell ⟨g, j, none⟩ (.int .u32 A)) M' ∧ Rw base g n c ((w.setCell ⟨g, j, none⟩ (.int .u32 A)).setCell ⟨g, i, none⟩ (.int .u32 B)) M' ∧
      Below base w ((w.setCell ⟨g, i, none⟩ (.int .u32 B)).setCell ⟨g, j, none⟩ (.int .u32 A)) ∧ Below base w ((w.setCell ⟨g, j, none⟩ (.int .u32 A)).setCell ⟨g, i, none⟩ (.int .u32 B)) := by
  have hl := h.len
  have hp := @List.set_set_perm _ M i j (by omega) (by omega)
  refine ⟨M[i]'(by omega), M[j]'(by omega), _, hp, ?_, ?_, (h.set i _).set j _, ?_, ?_, ?_⟩
  · rw [h.at hi, List.getElem?_eq_getElem (by omega : i < M.length)]; rfl
  · rw [h.at hj, List.getElem?_eq_getElem (by omega : j < M.length)]; rfl
  · rw [List.set_comm _ _ hne]; exact (h.set j _).set i _
  · exact ((Below.refl base w).setCell (p := ⟨g, i, none⟩) h.base _).setCell (p := ⟨g, j, none⟩) h.base _
  · exact ((Below.refl base w).setCell (p := ⟨g, j, none⟩) h.base _).setCell (p := ⟨g, i, none⟩) h.base _

set_option maxHeartbeats 400000 in
theorem nan_any (x : Int) (w : World) : Calls Tryd.prog 74 #[.int .u32 x] w fun e w' => e = .returned (.bool false) ∧ w = w' := by
  have h : (x != x) = false := by simp
  go_enter Tryd.func74, Tryd.ntmps74
  go_wp2_with fail
  go_ret
  exact ⟨rfl, rfl⟩
set_option maxHeartbeats 400000 in
theorem less_any (x y : Int) (w : World) : Calls Tryd.prog 53 #[.int .u32 x, .int .u32 y] w fun e w' => e = .returned (.bool (decide (x < y))) ∧ w = w' := by
  go_enter Tryd.func53, Tryd.ntmps53
  go_wp2_with fail
  refine (nan_any x _).mono ?_
  rintro e w' ⟨rfl, rfl⟩
  go_wp2_with fail
  go_ret
  exact ⟨rfl, rfl⟩
theorem less_q (x y : Int) (w : World) : Calls Tryd.prog 53 #[.int .u32 x, .int .u32 y] w fun e w' => e = .returned (.bool (decide (x < y))) ∧ w' = w :=
  (less_any x y w).mono fun _ _ ⟨h, h2⟩ => ⟨h, h2.symm⟩

set_option maxRecDepth 100000 in
set_option maxHeartbeats 2000000 in
theorem ins_any (base g n c : Nat) (a b : Nat) (M : List Int) (w : World) (hA : Rw base g n c w M) (hab : a ≤ b) (hbn : b ≤ n) (hn' : n ≤ 4294967296) :
    Calls Tryd.prog 64 #[.slice (some ⟨g, 0, none⟩) n c, .int .i64 (a : Int), .int .i64 (b : Int)] w fun e w' => (∃ v, e = .returned v) ∧ ∃ M', M'.Perm M ∧ Rw base g n c w' M' ∧ Below base w w' := by
  go_enter Tryd.func64, Tryd.ntmps64
  go_wp2_with fail
  go_loopw [6] (fun I wr => ∃ (i : Nat) (M' : List Int), a < i ∧ i ≤ b + 1 ∧ I = .int .i64 (i : Int) ∧ M'.Perm M ∧ Rw base g n c wr M' ∧ Below base w wr) (fun I _ => b + 1 - (intOf I).toNat)
  case atStart => exact ⟨a + 1, M, by omega, by omega, by go_num, List.Perm.refl _, hA, Below.refl _ _⟩
  case round =>
    obtain ⟨i, M1, hai, hib, rfl, hP, hR, hB⟩ := hrel
    obtain ⟨w1, hw1⟩ : ∃ w1, w1 = wr := ⟨_, rfl⟩
    subst hw1
    by_cases hlt : i < b
    · have hdi : decide ((i : Int) < (b : Int)) = true := by simp; omega
      go_wp2_with fail
      go_loopw [7] (fun J wr => ∃ (j : Nat) (M' : List Int), a ≤ j ∧ j ≤ i ∧ J = .int .i64 (j : Int) ∧ M'.Perm M ∧ Rw base g n c wr M' ∧ Below base w wr) (fun J _ => (intOf J).toNat)
      case atStart => exact ⟨i, M1, by omega, by omega, rfl, hP, hR, hB⟩
      case round =>
        obtain ⟨j, M2, haj, hji, rfl, hP2, hR2, hB2⟩ := hrel
        obtain ⟨w2, hw2⟩ : ∃ w2, w2 = wr := ⟨_, rfl⟩
        subst hw2
        clear hP hR hB
        by_cases hja : a < j
        · have hd1 : decide ((a : Int) < (j : Int)) = true := by simp; omega
          obtain ⟨A, B, M3, hP3, cA, cB, r1, r2, b1, b2⟩ := hR2.swap (i := j) (j := j - 1) (by omega) (by omega) (by omega)
          have ej : ((j - 1 : Nat) : Int) = (j : Int) - 1 := by omega
          have et : ((j : Int) - 1).toNat = j - 1 := by omega
          have f1 := hR2.frz j
          have f2 := hR2.frz (j - 1)
          have i1 : (j : Int) < (n : Int) := by omega
          have i2 : (0 : Int) ≤ (j : Int) - 1 := by omega
          have i3 : (j : Int) - 1 < (n : Int) := by omega
          have ne1 : j ≠ j - 1 := by omega
          go_wp2_with fail
          go_quiet ((go_at_call 53; exact Calls.quiet_of_same (less_q _ _ _)))
          by_cases hAB : A < B
          · have hd2 : decide (A < B) = true := by simpa using hAB
            have hR3 := hR2.drewN nq
            have hB3 := below_drewN hB2 nq
            obtain ⟨w3, hw3⟩ : ∃ w3, w3 = w2.drewN nq := ⟨_, rfl⟩
            rw [← hw3] at hR3 hB3 ⊢
            clear hw3 cA cB r1 r2 b1 b2 hP3 hR2 hB2 f1 f2
            go_wp2_with fail
            clear hd2 hAB
            obtain ⟨A', B', M4, hP4, cA, cB, r1, r2, b1, b2⟩ := hR3.swap (i := j) (j := j - 1) (by omega) (by omega) (by omega)
            have f1 := hR3.frz j
            have f2 := hR3.frz (j - 1)
            have S1 := Lib.hid (And.intro r1.drew (hB3.trans b1).drew)
            have S2 := Lib.hid (And.intro r2.drew (hB3.trans b2).drew)
            clear r1 r2 b1 b2 hB3 hR3
            go_region
            all_goals
              go_wp2_with fail
              go_roundw
              case rel =>
                first
                | exact ⟨j - 1, M4, by omega, by omega, by go_num, hP4.trans hP2, S1.out.1, S1.out.2⟩
                | exact ⟨j - 1, M4, by omega, by omega, by go_num, hP4.trans hP2, S2.out.1, S2.out.2⟩
              case measure => simp [intOf]; omega
          · have hd2 : decide (A < B) = false := by simpa using hAB
            have hR3 := hR2.drewN nq
            have hB3 := below_drewN hB2 nq
            clear cA cB r1 r2 b1 b2 hP3 hR2 hB2 f1 f2
            go_wp2_with fail
            go_roundw
            case rel => exact ⟨i + 1, M2, by omega, by omega, by go_num, hP2, hR3, hB3⟩
            case measure => simp [intOf]; omega
        · have hd1 : decide ((a : Int) < (j : Int)) = false := by simp; omega
          go_wp2_with fail
          go_quiet (fail)
          go_wp2_with fail
          go_roundw
          case rel => exact ⟨i + 1, M2, by omega, by omega, by go_num, hP2, hR2.drewN _, below_drewN hB2 _⟩
          case measure => simp [intOf]; omega
    · have hdi : decide ((i : Int) < (b : Int)) = false := by simp; omega
      go_wp2_with fail
      go_end0
      exact ⟨⟨_, rfl⟩, M1, hP, hR, hB⟩
end Go.Proofs.YtdaijbplbnkpeaaDoor
