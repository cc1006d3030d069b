/-
  Objects that are none: what their methods answer. No condition but those in each statement.
-/
import Derived.Test.YtakpockkagfphaaWtw
namespace Go.Proofs.Ytakpockkagfphaa
open Go.RowKit Go.Shelf

/-- A pointer to no object: nil, or a zero value. -/
def Nob (w : World) (p : Option Addr) : Prop := p = none ∨ ∃ b, p = some ⟨b, 0, none⟩ ∧ w.cell? ⟨b, 1, none⟩ = some (.bool false)
theorem Nob.below {w w' : World} {p : Option Addr} (h : Nob w p) (hb : Below w.heap.size w w') : Nob w' p := by
  rcases h with h | ⟨b, h1, h2⟩
  · exact .inl h
  · exact .inr ⟨b, h1, (hb.cell (World.block_lt_of_cell? w _ h2)).trans h2⟩


set_option maxRecDepth 100000 in
set_option maxHeartbeats 400000 in
theorem none_nobReader (w : World) (p : Option Addr) (h : Nob w p) :
    Calls Try.prog 48 #[.pointer p] w fun e w' => e = .returned (.bool true) ∧ w = w' := by
  rcases h with rfl | ⟨b, rfl, c1⟩
  · go_enter Try.func48, Try.ntmps48
    go_wp2
    go_ret
    exact ⟨rfl, rfl⟩
  · go_enter Try.func48, Try.ntmps48
    go_wp2
    go_ret
    exact ⟨rfl, rfl⟩

set_option maxRecDepth 100000 in
set_option maxHeartbeats 400000 in
theorem none_nobWriter (w : World) (p : Option Addr) (h : Nob w p) :
    Calls Try.prog 46 #[.pointer p] w fun e w' => e = .returned (.bool true) ∧ w = w' := by
  rcases h with rfl | ⟨b, rfl, c1⟩
  · go_enter Try.func46, Try.ntmps46
    go_wp2
    go_ret
    exact ⟨rfl, rfl⟩
  · go_enter Try.func46, Try.ntmps46
    go_wp2
    go_ret
    exact ⟨rfl, rfl⟩

set_option maxRecDepth 100000 in
set_option maxHeartbeats 400000 in
theorem at_nobReader (w : World) (p : Option Addr) (h : Nob w p) :
    Calls Try.prog 21 #[.pointer p] w fun e w' => e = .returned (.int .i64 0) ∧ w = w' := by
  go_enter Try.func21, Try.ntmps21
  go_wp2_with (go_at_call 48; refine (none_nobReader _ p h).mono ?_; rintro e w' ⟨rfl, rfl⟩)
  go_ret
  exact ⟨rfl, rfl⟩

set_option maxRecDepth 100000 in
set_option maxHeartbeats 400000 in
theorem left_nobReader (w : World) (p : Option Addr) (h : Nob w p) :
    Calls Try.prog 22 #[.pointer p] w fun e w' => e = .returned (.int .i64 0) ∧ w = w' := by
  go_enter Try.func22, Try.ntmps22
  go_wp2_with (go_at_call 48; refine (none_nobReader _ p h).mono ?_; rintro e w' ⟨rfl, rfl⟩)
  go_ret
  exact ⟨rfl, rfl⟩

set_option maxRecDepth 100000 in
set_option maxHeartbeats 400000 in
theorem end_nobReader (w : World) (p : Option Addr) (h : Nob w p) :
    Calls Try.prog 23 #[.pointer p] w fun e w' => e = .returned (.int .i64 1) ∧ w = w' := by
  go_enter Try.func23, Try.ntmps23
  go_wp2_with (go_at_call 48; refine (none_nobReader _ p h).mono ?_; rintro e w' ⟨rfl, rfl⟩)
  go_ret
  exact ⟨rfl, rfl⟩

set_option maxRecDepth 100000 in
set_option maxHeartbeats 400000 in
theorem bytes_nobReader (n : Int) (w : World) (p : Option Addr) (h : Nob w p) :
    Calls Try.prog 26 #[.pointer p, .int .i64 n] w fun e w' => e = .returned (.tuple #[.slice none 0 0, .int .i64 1]) ∧ w = w' := by
  go_enter Try.func26, Try.ntmps26
  go_wp2_with (go_at_call 48; refine (none_nobReader _ p h).mono ?_; rintro e w' ⟨rfl, rfl⟩)
  go_ret2
  exact ⟨rfl, rfl⟩

set_option maxRecDepth 100000 in
set_option maxHeartbeats 400000 in
theorem fixed_nobReader (n : Int) (w : World) (p : Option Addr) (h : Nob w p) :
    Calls Try.prog 32 #[.pointer p, .int .i64 n] w fun e w' => e = .returned (.tuple #[.int .u64 0, .int .i64 1]) ∧ w = w' := by
  go_enter Try.func32, Try.ntmps32
  go_wp2_with (go_at_call 48; refine (none_nobReader _ p h).mono ?_; rintro e w' ⟨rfl, rfl⟩)
  go_ret2
  exact ⟨rfl, rfl⟩

set_option maxRecDepth 100000 in
set_option maxHeartbeats 400000 in
theorem number_nobReader (n : Int) (w : World) (p : Option Addr) (h : Nob w p) :
    Calls Try.prog 27 #[.pointer p, .int .u64 n] w fun e w' => e = .returned (.tuple #[.int .u64 0, .int .i64 1]) ∧ w = w' := by
  go_enter Try.func27, Try.ntmps27
  go_wp2_with (go_at_call 48; refine (none_nobReader _ p h).mono ?_; rintro e w' ⟨rfl, rfl⟩)
  go_ret2
  exact ⟨rfl, rfl⟩

set_option maxRecDepth 100000 in
set_option maxHeartbeats 400000 in
theorem count_nobReader (n m : Int) (w : World) (p : Option Addr) (h : Nob w p) :
    Calls Try.prog 25 #[.pointer p, .int .i64 n, .int .i64 m] w fun e w' => e = .returned (.tuple #[.int .i64 0, .int .i64 1]) ∧ w = w' := by
  go_enter Try.func25, Try.ntmps25
  go_wp2_with (go_at_call 48; refine (none_nobReader _ p h).mono ?_; rintro e w' ⟨rfl, rfl⟩)
  go_ret2
  exact ⟨rfl, rfl⟩

set_option maxRecDepth 100000 in
set_option maxHeartbeats 400000 in
theorem byte_nobReader (w : World) (p : Option Addr) (h : Nob w p) :
    Calls Try.prog 28 #[.pointer p] w fun e w' => e = .returned (.tuple #[.int .u8 0, .int .i64 1]) ∧ w = w' := by
  go_enter Try.func28, Try.ntmps28
  go_wp2_with (go_at_call 32; refine (fixed_nobReader 1 _ p h).mono ?_; rintro e w' ⟨rfl, rfl⟩)
  go_ret2
  exact ⟨rfl, rfl⟩

set_option maxRecDepth 100000 in
set_option maxHeartbeats 400000 in
theorem len_nobWriter (w : World) (p : Option Addr) (h : Nob w p) :
    Calls Try.prog 17 #[.pointer p] w fun e w' => e = .returned (.int .i64 0) ∧ w = w' := by
  go_enter Try.func17, Try.ntmps17
  go_wp2_with (go_at_call 46; refine (none_nobWriter _ p h).mono ?_; rintro e w' ⟨rfl, rfl⟩)
  go_ret
  exact ⟨rfl, rfl⟩

set_option maxRecDepth 100000 in
set_option maxHeartbeats 400000 in
theorem out_nobWriter (w : World) (p : Option Addr) (h : Nob w p) :
    Calls Try.prog 18 #[.pointer p] w fun e w' => e = .returned (.slice none 0 0) ∧ w = w' := by
  go_enter Try.func18, Try.ntmps18
  go_wp2_with (go_at_call 46; refine (none_nobWriter _ p h).mono ?_; rintro e w' ⟨rfl, rfl⟩)
  go_ret
  exact ⟨rfl, rfl⟩

set_option maxRecDepth 100000 in
set_option maxHeartbeats 400000 in
theorem bytes_nobWriter (a : Option Addr) (n c : Nat) (w : World) (p : Option Addr) (h : Nob w p) :
    Calls Try.prog 30 #[.pointer p, .slice a n c] w fun e w' => e = .returned (.int .i64 1) ∧ w = w' := by
  go_enter Try.func30, Try.ntmps30
  go_wp2_with (go_at_call 46; refine (none_nobWriter _ p h).mono ?_; rintro e w' ⟨rfl, rfl⟩)
  go_ret
  exact ⟨rfl, rfl⟩

set_option maxRecDepth 100000 in
set_option maxHeartbeats 400000 in
theorem fixed_nobWriter (x n : Int) (w : World) (p : Option Addr) (h : Nob w p) :
    Calls Try.prog 29 #[.pointer p, .int .u64 x, .int .i64 n] w fun e w' => e = .returned (.int .i64 1) ∧ w = w' := by
  go_enter Try.func29, Try.ntmps29
  go_wp2_with (go_at_call 46; refine (none_nobWriter _ p h).mono ?_; rintro e w' ⟨rfl, rfl⟩)
  go_ret
  exact ⟨rfl, rfl⟩

set_option maxRecDepth 100000 in
set_option maxHeartbeats 400000 in
theorem byte_nobWriter (x : Int) (w : World) (p : Option Addr) (h : Nob w p) :
    Calls Try.prog 31 #[.pointer p, .int .u8 x] w fun e w' => e = .returned (.int .i64 1) ∧ Below w.heap.size w w' := by
  have hB0 : Below w.heap.size w (w.alloc (.cells #[.int .u8 x] 5)) := (Below.refl _ _).alloc (Nat.le_refl _) _
  go_enter Try.func31, Try.ntmps31
  go_wp2_with (go_at_call 30; refine (bytes_nobWriter _ _ _ _ p (h.below hB0)).mono ?_; rintro e w' ⟨rfl, rfl⟩)
  go_ret
  exact ⟨rfl, hB0⟩

set_option maxRecDepth 100000 in
set_option maxHeartbeats 400000 in
theorem number_nobWriter (x : Int) (h0 : 0 ≤ x) (h1 : x ≤ 18446744073709551615) (w : World) (p : Option Addr) (h : Nob w p) :
    Calls Try.prog 34 #[.pointer p, .int .u64 x] w fun e w' => e = .returned (.int .i64 1) ∧ Below w.heap.size w w' := by
  go_enter Try.func34, Try.ntmps34
  go_wp2_with fail
  refine (write_any x _ h0 h1).mono ?_
  rintro e w1 ⟨a1, c1, rfl, hown1, hB1⟩
  go_wp2_with (go_at_call 30; refine (bytes_nobWriter _ _ _ _ p (h.below hB1)).mono ?_; rintro e w' ⟨rfl, rfl⟩)
  go_ret
  exact ⟨rfl, hB1⟩

/-- The two pointers of a list of them. -/
theorem nob_at {w : World} {bR bo : Nat} {t : TypeId} (hT : Two w bR t (.pointer none) (.pointer (some ⟨bo, 0, none⟩))) (ho : w.cell? ⟨bo, 1, none⟩ = some (.bool false)) (j : Nat) (hj : j < 2) : ∃ p, w.cell? ⟨bR, j, none⟩ = some (.pointer p) ∧ Nob w p := by
  match j, hj with
  | 0, _ => exact ⟨none, hT.c0, .inl rfl⟩
  | 1, _ => exact ⟨_, hT.c1, .inr ⟨bo, rfl, ho⟩⟩

set_option maxRecDepth 100000 in
set_option maxHeartbeats 2000000 in
theorem nobody_any (w : World) : Calls Try.prog 14 #[] w fun e w' => e = .returned (.bool true) ∧ Below w.heap.size w w' := by
  obtain ⟨W, hWe⟩ : ∃ W, W = ((w.alloc (.cells #[.int .i64 0, .bool false, .slice none 0 0] 83)).alloc (.cells #[.pointer none, .pointer (some ⟨w.heap.size, 0, none⟩)] 44)) := ⟨_, rfl⟩
  have hBW : Below w.heap.size w W := by rw [hWe]; exact ((Below.refl _ _).alloc (Nat.le_refl _) _).alloc (by simp) _
  have hT : Two W (w.heap.size + 1) 44 (.pointer none) (.pointer (some ⟨w.heap.size, 0, none⟩)) := by rw [hWe]; exact Two.new2 w _ _ _ _
  have ho : W.cell? ⟨w.heap.size, 1, none⟩ = some (.bool false) := by
    rw [hWe]
    exact ((Tri.new w 83 (.int .i64 0) (.bool false) (.slice none 0 0)).below ((Below.refl _ _).alloc (Nat.le_refl _) _) (by simp)).c1
  have HWe := Lib.hid hWe
  clear hWe
  go_enter Try.func14, Try.ntmps14
  go_wp2_with fail
  rw [← HWe.out]
  go_loopw [22] (fun i wr => ∃ j : Nat, i = .int .i64 j ∧ j ≤ 2 ∧ wr = W) (fun i _ => 2 - (intOf i).toNat)
  case atStart => exact ⟨0, rfl, by omega, by first | exact trivial | rfl⟩
  case round =>
    obtain ⟨j, rfl, hj, rfl⟩ := hrel
    by_cases hlt : j < 2
    · obtain ⟨p, hp, hN⟩ := nob_at hT ho j hlt
      have hlt' : (j : Int) < 2 := by omega
      go_wp2_with (first
        | (go_at_call 28; refine (byte_nobReader _ p hN).mono ?_; rintro e w' ⟨rfl, rfl⟩)
        | (go_at_call 26; refine (bytes_nobReader _ _ p hN).mono ?_; rintro e w' ⟨rfl, rfl⟩)
        | (go_at_call 32; refine (fixed_nobReader _ _ p hN).mono ?_; rintro e w' ⟨rfl, rfl⟩)
        | (go_at_call 27; refine (number_nobReader _ _ p hN).mono ?_; rintro e w' ⟨rfl, rfl⟩)
        | (go_at_call 25; refine (count_nobReader _ _ _ p hN).mono ?_; rintro e w' ⟨rfl, rfl⟩)
        | (go_at_call 23; refine (end_nobReader _ p hN).mono ?_; rintro e w' ⟨rfl, rfl⟩)
        | (go_at_call 21; refine (at_nobReader _ p hN).mono ?_; rintro e w' ⟨rfl, rfl⟩)
        | (go_at_call 22; refine (left_nobReader _ p hN).mono ?_; rintro e w' ⟨rfl, rfl⟩))
      go_roundw
      case rel => exact ⟨j + 1, by go_num, by omega, by first | exact trivial | rfl⟩
      case measure => simp [intOf]; omega
    · have hlt' : ¬ (j : Int) < 2 := by omega
      obtain ⟨W2, hWe2⟩ : ∃ W2, W2 = ((wr.alloc (.cells #[.int .i64 0, .bool false, .slice none 0 0] 85)).alloc (.cells #[.pointer none, .pointer (some ⟨wr.heap.size, 0, none⟩)] 34)) := ⟨_, rfl⟩
      have hBW2 : Below wr.heap.size wr W2 := by rw [hWe2]; exact ((Below.refl _ _).alloc (Nat.le_refl _) _).alloc (by simp) _
      have hT2 : Two W2 (wr.heap.size + 1) 34 (.pointer none) (.pointer (some ⟨wr.heap.size, 0, none⟩)) := by rw [hWe2]; exact Two.new2 wr _ _ _ _
      have ho2 : W2.cell? ⟨wr.heap.size, 1, none⟩ = some (.bool false) := by
        rw [hWe2]
        exact ((Tri.new wr 85 (.int .i64 0) (.bool false) (.slice none 0 0)).below ((Below.refl _ _).alloc (Nat.le_refl _) _) (by simp)).c1
      have HWe2 := Lib.hid hWe2
      have hbelW := step_below hBW hBW2 (Nat.le_refl _)
      clear hWe2 hBW hBW2 hT ho HWe
      go_wp2_with fail
      rw [← HWe2.out]
      go_loopw [87] (fun i wx => ∃ j : Nat, i = .int .i64 j ∧ j ≤ 2 ∧ Below W2.heap.size W2 wx) (fun i _ => 2 - (intOf i).toNat)
      case atStart => exact ⟨0, rfl, by omega, Below.refl _ _⟩
      case round =>
        obtain ⟨j2, rfl, hj2, hbx⟩ := hrel
        have hT3 := hT2.bl hbx
        have ho3 := (hbx.cell (World.block_lt_of_cell? W2 _ ho2)).trans ho2
        by_cases hlt2 : j2 < 2
        · obtain ⟨p, hp, hN⟩ := nob_at hT3 ho3 j2 hlt2
          have hlt2' : (j2 : Int) < 2 := by omega
          clear hT3 ho3
          go_wp2_with (first
            | (go_at_call 31; refine (byte_nobWriter _ _ p hN).mono ?_; rintro e w3 ⟨rfl, hB3⟩; have hN3 := hN.below hB3)
            | (go_at_call 30; refine (bytes_nobWriter _ _ _ _ p hN3).mono ?_; rintro e w' ⟨rfl, rfl⟩)
            | (go_at_call 29; refine (fixed_nobWriter _ _ _ p hN3).mono ?_; rintro e w' ⟨rfl, rfl⟩)
            | (go_at_call 34; refine (number_nobWriter _ (by omega) (by omega) _ p hN3).mono ?_; rintro e w4 ⟨rfl, hB4⟩; have hN4 := hN3.below hB4)
            | (go_at_call 17; refine (len_nobWriter _ p hN4).mono ?_; rintro e w' ⟨rfl, rfl⟩)
            | (go_at_call 18; refine (out_nobWriter _ p hN4).mono ?_; rintro e w' ⟨rfl, rfl⟩))
          go_roundw
          case rel => exact ⟨j2 + 1, by go_num, by omega, step_below (step_below hbx hB3 (Nat.le_refl _)) hB4 (Nat.le_refl _)⟩
          case measure => simp [intOf]; omega
        · have hlt2' : ¬ (j2 : Int) < 2 := by omega
          clear hT3 ho3
          go_wp2_with fail
          refine (read_any none 0 0 [] _ (Sl.nil _ _) (fun c hc => by cases hc)).mono ?_
          rintro e w5 ⟨rfl, hB5⟩
          rw [show ReadRes [] = .returned (.tuple #[.int .u64 0, .int .i64 0, .int .i64 10]) from rfl]
          have hbf := step_below (hbelW.trans (hbx.mono hbelW.size)) hB5 (Nat.le_refl _)
          clear hB5 hbx
          go_wp2_with fail
          go_ret
          exact ⟨rfl, hbf⟩
end Go.Proofs.Ytakpockkagfphaa
