/-
  The contract of the second reference's PutFixed.
-/
import Derived.Test.YtakpockkagfphaaPt
import Derived.Test.YtakpockkagfphaaRrd
namespace Go.Proofs.Ytakpockkagfphaa
open Go.RowKit Go.Shelf

/-- The n lowest bytes of a number, the lowest one first. -/
def leB (n : Nat) (x : Int) : List Int := (List.range n).map fun i => x / 256 ^ i % 256
theorem leB_length (n : Nat) (x : Int) : (leB n x).length = n := by simp [leB]
theorem leB_succ (n : Nat) (x : Int) : leB (n + 1) x = leB n x ++ [x / 256 ^ n % 256] := by simp [leB, List.range_succ]
theorem div_step (x : Int) (j : Nat) : x / 256 ^ j / 256 = x / 256 ^ (j + 1) := by rw [Int.pow_succ, Int.ediv_ediv_of_nonneg (Int.pow_nonneg (by omega))]

/-- What Put and PutFixed return: the writer after it, and the error. -/
def PtRes (lim : Int) (a1 : Option Addr) (n1 c1 : Nat) (l1 l2 : List Int) (w : World) (e : Ending) (w' : World) : Prop :=
  (lim < (n1 : Int) + l2.length → e = .returned (.tuple #[.agg #[.int .i64 lim, .slice a1 n1 c1], .int .i64 4])) ∧
  (¬ lim < (n1 : Int) + l2.length → ∃ a' c', e = .returned (.tuple #[.agg #[.int .i64 lim, .slice a' (n1 + l2.length) c'], .int .i64 0]) ∧ w'.ownsRow w.heap.size 5 1 (.slice a' (n1 + l2.length) c') (n1 + l2.length) ((l1 ++ l2).map (Value.int .u8))) ∧ Below w.heap.size w w'

def PfRes (lim x : Int) (n : Nat) (a1 : Option Addr) (n1 c1 : Nat) (l1 : List Int) (w : World) (e : Ending) (w' : World) : Prop :=
  if 0 < x / 256 ^ n then e = .returned (.tuple #[.agg #[.int .i64 lim, .slice a1 n1 c1], .int .i64 2]) ∧ Below w.heap.size w w' else PtRes lim a1 n1 c1 l1 (leB n x) w e w'
theorem PfRes.over {lim x : Int} {n : Nat} {a1 : Option Addr} {n1 c1 : Nat} {l1 : List Int} {w w' : World} (h : 0 < x / 256 ^ n) (hB : Below w.heap.size w w') : PfRes lim x n a1 n1 c1 l1 w (.returned (.tuple #[.agg #[.int .i64 lim, .slice a1 n1 c1], .int .i64 2])) w' := by
  unfold PfRes; rw [if_pos h]; exact ⟨rfl, hB⟩
theorem PfRes.fits {lim x : Int} {n : Nat} {a1 : Option Addr} {n1 c1 : Nat} {l1 : List Int} {w w' : World} {e : Ending} (h : ¬ 0 < x / 256 ^ n) (hB : PtRes lim a1 n1 c1 l1 (leB n x) w e w') : PfRes lim x n a1 n1 c1 l1 w e w' := by
  unfold PfRes; rw [if_neg h]; exact hB

theorem rput_any (w : World) (a1 a2 : Option Addr) (n1 c1 n2 c2 : Nat) (lim : Int) (l1 l2 : List Int) (hs1 : Sl .u8 w a1 n1 c1 l1) (hs2 : Sl .u8 w a2 n2 c2 l2) (hb1 : n1 ≤ 70368744177000) (hb2 : n2 ≤ 70368744177000) :
    Calls Try.prog 40 #[.agg #[.int .i64 lim, .slice a1 n1 c1], .slice a2 n2 c2] w (PtRes lim a1 n1 c1 l1 l2 w) := by
  have h2 := hs2.1
  by_cases h : lim < (n1 : Int) + n2
  · refine (rput_full w a1 a2 n1 c1 n2 c2 lim h (by omega) (by omega)).mono ?_
    rintro e w' ⟨rfl, hB⟩
    exact ⟨fun _ => rfl, fun hh => absurd (by rw [h2]; exact h) hh, hB⟩
  · refine (rput_ok w a1 a2 n1 c1 n2 c2 lim l1 l2 hs1 hs2 h hb1 hb2).mono ?_
    rintro e w' ⟨a', c', rfl, hsl, hB⟩
    exact ⟨fun hh => absurd hh (by rw [h2]; exact h), fun _ => ⟨a', c', by rw [h2], by rw [h2]; exact hsl⟩, hB⟩

set_option maxRecDepth 100000 in
set_option maxHeartbeats 2000000 in
theorem rputFixed_arg (w : World) (a : Option Addr) (len cap : Nat) (lim x n : Int) (h : n < 1 ∨ 8 < n) :
    Calls Try.prog 41 #[.agg #[.int .i64 lim, .slice a len cap], .int .u64 x, .int .i64 n] w fun e w' => e = .returned (.tuple #[.agg #[.int .i64 lim, .slice a len cap], .int .i64 2]) ∧ Below w.heap.size w w' := by
  by_cases ht : n < 1
  · have hb1 : decide (n < 1) = true := by simp; omega
    clear h
    go_enter Try.func41, Try.ntmps41
    go_wp2_with fail
    refine bodyPost_cell2 rfl (w.heap.size + 1) rfl _ _ (Two.new2 _ _ _ _ _).range Try.underlying76 rfl (by kernel_rfl) rfl ?_
    exact ⟨rfl, ((Below.refl _ _).alloc (Nat.le_refl _) _).alloc (by simp) _⟩
  · have hb1 : decide (n < 1) = false := by simp; omega
    have hb2 : decide (8 < n) = true := by simp; omega
    clear h
    go_enter Try.func41, Try.ntmps41
    go_wp2_with fail
    refine bodyPost_cell2 rfl (w.heap.size + 1) rfl _ _ (Two.new2 _ _ _ _ _).range Try.underlying76 rfl (by kernel_rfl) rfl ?_
    exact ⟨rfl, ((Below.refl _ _).alloc (Nat.le_refl _) _).alloc (by simp) _⟩

set_option maxRecDepth 100000 in
set_option maxHeartbeats 4000000 in
theorem rputFixed_go (w : World) (a : Option Addr) (len cap : Nat) (l : List Int) (lim x : Int) (n : Nat) (hs : Sl .u8 w a len cap l) (hlen : len ≤ 70368744177000) (hx0 : 0 ≤ x) (hx1 : x ≤ 18446744073709551615) (hn1 : 1 ≤ n) (hn8 : n ≤ 8) :
    Calls Try.prog 41 #[.agg #[.int .i64 lim, .slice a len cap], .int .u64 x, .int .i64 n] w (PfRes lim x n a len cap l w) := by
  have hb1 : decide ((n : Int) < 1) = false := by simp; omega
  have hb2 : decide (8 < (n : Int)) = false := by simp; omega
  obtain ⟨i0, hinf, hz0, hz1, hz2⟩ := info_parts infoU8
  obtain ⟨W, hWe⟩ : ∃ W, W = ((w.alloc (.cells #[.int .i64 lim, .slice a len cap] 76)).alloc (.cells #[.int .i64 0, .slice none 0 0] 76)) := ⟨_, rfl⟩
  have hB0 : Below w.heap.size w W := by rw [hWe]; exact ((Below.refl _ _).alloc (Nat.le_refl _) _).alloc (by simp) _
  have hT1 : Two W w.heap.size 76 (.int .i64 lim) (.slice a len cap) := by rw [hWe]; exact (Two.new w _ _ _).alloc _
  have hT2 : Two W (w.heap.size + 1) 76 (.int .i64 0) (.slice none 0 0) := by rw [hWe]; exact Two.new2 w _ _ _ _
  have hWs : W.heap.size = w.heap.size + 2 := by rw [hWe]; simp
  have hsW := hs.below hB0
  have HWe := Lib.hid hWe
  clear hWe
  go_enter Try.func41, Try.ntmps41
  go_wp2_with fail
  rw [← HWe.out]
  go_loopw [1, 8, 9] (fun xv v i wr => ∃ (j : Nat) (y : Int), xv = .int .u64 y ∧ i = .int .i64 j ∧ j ≤ n ∧ 0 ≤ y ∧ y ≤ 18446744073709551615 ∧ Aside (y = x / 256 ^ j) ∧ wr.ownsRow (w.heap.size + 2) 5 1 v j ((leB j x).map (Value.int .u8)) ∧ Below (w.heap.size + 2) W wr) (fun _ _ i _ => n - (intOf i).toNat)
  case atStart => exact ⟨0, x, rfl, rfl, by omega, hx0, hx1, by simp [Aside], by have := World.ownsRow_nil W (w.heap.size + 2) 5 1; simpa [leB] using this, Below.refl _ _⟩
  case round =>
    obtain ⟨j, y, rfl, rfl, hj, hy0, hy1, HY, hown, hbel⟩ := hrel
    have hsz := hbel.size
    have hU1 := hT1.below hbel (by omega)
    have hU2 := hT2.below hbel (by omega)
    have e0 := hU1.c0
    have e1 := hU1.c1
    have e2 := hU2.c0
    have e3 := hU2.c1
    have e4 := hU2.f0
    have e5 := hU2.f1
    have hBw := hB0.trans (hbel.mono (by omega))
    by_cases hlt : j < n
    · have hw8 := wrapU8 (y % 256) (by omega) (by omega)
      have HN := Lib.hid (leB_succ j x)
      go_wp2_with (at_builtin; refine wpList_append_own _ rfl (.tmp 22) (.tmp 26) 22 rfl (w.heap.size + 2) 5 i0 (.int .u8 0) 1 1 Try.underlying22 hinf hz0 hz1 hz2 rfl (by decide) _ _ _ rfl (hown.alloc _) ⟨wr.heap.size, 0, none⟩ 1 1 [.int .u8 (y % 256)] rfl rfl ?d1 ?d2 ?d3 ?d4 ?d5 ?_)
      case d1 => exact one_cell _ _ _ _
      case d2 => first | rfl | exact one_one _ _
      case d3 => unfold maxLen; omega
      case d4 => omega
      case d5 => first | omega | (simp; omega)
      · intro v' w3 hown4 hgrow4 _
        have hB3 : Below (w.heap.size + 2) W w3 := (hbel.alloc (by omega) _).grown hgrow4 (by simp; omega) (fun k hk => (hown.lt k hk).1)
        clear hgrow4 hown hbel
        go_wp2_with fail
        go_roundw
        case rel => exact ⟨j + 1, y / 256, rfl, by go_num, by omega, by omega, by omega, by unfold Aside; rw [HY.out]; exact div_step x j, by rw [HN.out]; rw [HY.out] at hown4; simpa using hown4, hB3⟩
        case measure => simp [intOf]; omega
    · obtain rfl : j = n := by omega
      by_cases hyp : 0 < y
      · have hc1 : decide (0 < y) = true := by simp; omega
        go_wp2_with fail
        refine bodyPost_cell2 rfl (w.heap.size + 1) rfl _ _ (hU2.range_set _ _) Try.underlying76 rfl (by kernel_rfl) rfl ?_
        exact PfRes.over (by rw [← HY.out]; exact hyp) ((hBw.setCell (p := ⟨w.heap.size + 1, 0, none⟩) (by simp) _).setCell (p := ⟨w.heap.size + 1, 1, none⟩) (by simp) _)
      · have hc1 : decide (0 < y) = false := by simp; omega
        obtain ⟨a', cap', rfl⟩ := own_shape hown
        have hsl := own_sl hown
        have hsr := hs.below hBw
        go_wp2_with fail
        refine (rput_any _ a a' len cap j cap' lim l (leB j x) hsr hsl hlen (by omega)).mono ?_
        rintro e w4 ⟨r1, r2, hB4⟩
        have hV2 := hU2.below (hB4.mono (by omega : w.heap.size + 2 ≤ wr.heap.size)) (by omega)
        have hB5 := hBw.trans (hB4.mono (by omega : w.heap.size ≤ wr.heap.size))
        have k2 := hV2.c0
        have k3 := hV2.c1
        have k4 := hV2.f0
        have k5 := hV2.f1
        have HY2 := Lib.hid (show ¬ 0 < x / 256 ^ j by rw [← HY.out]; omega)
        by_cases hf : lim < (len : Int) + (leB j x).length
        · rw [r1 hf]
          have HF := Lib.hid hf
          clear r1 r2 hf
          go_wp2_with fail
          refine bodyPost_cell2 rfl (w.heap.size + 1) rfl _ _ (hV2.range_set _ _) Try.underlying76 rfl (by kernel_rfl) rfl ?_
          exact PfRes.fits (Int.not_lt.2 HY2.out) ⟨fun _ => rfl, fun hh => absurd HF.out hh, (hB5.setCell (p := ⟨w.heap.size + 1, 0, none⟩) (by simp) _).setCell (p := ⟨w.heap.size + 1, 1, none⟩) (by simp) _⟩
        · obtain ⟨a3, c3, rfl, hown3⟩ := r2 hf
          have HF := Lib.hid hf
          clear r1 r2 hf
          go_wp2_with fail
          refine bodyPost_cell2 rfl (w.heap.size + 1) rfl _ _ (hV2.range_set _ _) Try.underlying76 rfl (by kernel_rfl) rfl ?_
          exact PfRes.fits (Int.not_lt.2 HY2.out) ⟨fun hh => absurd hh (Int.not_lt.2 HF.out), fun _ => ⟨a3, c3, rfl, own_base (own_set (own_set hown3 (w.heap.size + 1) 0 _ (by omega)) (w.heap.size + 1) 1 _ (by omega)) (by omega)⟩, (hB5.setCell (p := ⟨w.heap.size + 1, 0, none⟩) (by simp) _).setCell (p := ⟨w.heap.size + 1, 1, none⟩) (by simp) _⟩
end Go.Proofs.Ytakpockkagfphaa
