/-
  The contracts of bits' New and of the library's Clone at words.
-/
import Derived.Test.YtcdjfgkjllonhaaDoorBzh
import Derived.Test.YtcdjfgkjllonhaaDoorBrd
import Derived.Test.YtcdjfgkjllonhaaDoorApq
namespace Go.Proofs.YtcdjfgkjllonhaaDoor
open Go.RowKit Go.Shelf

/-- What is answered with no error: a set in new memory with this N of the numbers of which p says yes. -/
def SetE (w : World) (n : Nat) (p : Nat → Bool) (e : Ending) (w' : World) : Prop :=
  ∃ g c R, e = .returned (.tuple #[.agg #[.int .i64 (n : Int), .slice g ((n + 63) / 64) c], .int .i64 0]) ∧ w'.ownsRow w.heap.size 30 1 (.slice g ((n + 63) / 64) c) ((n + 63) / 64) (R.map (Value.int .u64)) ∧ Wds R ∧ (∀ i, bt R i = p i) ∧ Below w.heap.size w w'
/-- What is answered with an error: a set that is zero. -/
def SetX (w : World) (x : Int) (e : Ending) (w' : World) : Prop :=
  ∃ a c, e = .returned (.tuple #[.agg #[.int .i64 0, .slice a 0 c], .int .i64 x]) ∧ w'.ownsRow w.heap.size 30 1 (.slice a 0 c) 0 [] ∧ Below w.heap.size w w'

theorem allowed_yes (n : Nat) (hn : n ≤ 65536) (w : World) : Calls Tryd.prog 55 #[.int .i64 (n : Int)] w fun e w' => e = .returned (.bool true) ∧ w' = w := by
  have := allowed_any (n : Int) w
  rw [decide_eq_true (show (0 : Int) ≤ (n : Int) by omega), decide_eq_true (show (n : Int) ≤ 65536 by omega)] at this
  exact this
theorem allowed_no (n : Int) (hn : n < 0 ∨ 65536 < n) (w : World) : Calls Tryd.prog 55 #[.int .i64 n] w fun e w' => e = .returned (.bool false) ∧ w' = w := by
  have := allowed_any n w
  have h : (decide (0 ≤ n) && decide (n ≤ 65536)) = false := by
    rcases hn with h | h
    · rw [decide_eq_false (show ¬ 0 ≤ n by omega), Bool.false_and]
    · rw [decide_eq_false (show ¬ n ≤ 65536 by omega), Bool.and_false]
  rw [h] at this
  exact this

set_option maxRecDepth 100000 in
set_option maxHeartbeats 1000000 in
theorem newX_any (w : World) (n : Int) (hn : n < 0 ∨ 65536 < n) : Calls Tryd.prog 18 #[.int .i64 n] w (SetX w 2) := by
  unfold SetX
  have qa := allowed_no n hn
  have hB : Below w.heap.size w (w.alloc (.cells #[.int .i64 0, .slice none 0 0] 24)) := (Below.refl _ w).alloc (Nat.le_refl _) _
  have hT : Two (w.alloc (.cells #[.int .i64 0, .slice none 0 0] 24)) w.heap.size 24 (.int .i64 0) (.slice none 0 0) := Two.new w _ _ _
  go_enter Tryd.func18, Tryd.ntmps18
  go_wp2_with fail
  refine (qa _).mono ?_
  rintro e w' ⟨rfl, hE⟩
  rw [hE]
  clear hE
  obtain ⟨w1, hw1⟩ : ∃ wz, wz = w.alloc (.cells #[.int .i64 0, .slice none 0 0] 24) := ⟨_, rfl⟩
  rw [← hw1] at hB hT ⊢
  clear hw1
  have q0 := hT.c0
  have q1 := hT.c1
  have q2 := hT.f0
  have q3 := hT.f1
  have hQ2 := hT.range_set (.int .i64 0) (.slice none 0 0)
  have hB2 := (hB.setCell (p := ⟨w.heap.size, 0, none⟩) (Nat.le_refl _) (.int .i64 0)).setCell (p := ⟨w.heap.size, 1, none⟩) (Nat.le_refl _) (.slice none 0 0)
  go_wp2_with fail
  refine bodyPost_cell2 rfl w.heap.size rfl _ _ hQ2 Tryd.underlying24 rfl (by kernel_rfl) rfl ?_
  exact ⟨none, 0, rfl, World.ownsRow_nil _ _ _ _, hB2⟩

set_option maxRecDepth 100000 in
set_option maxHeartbeats 1000000 in
theorem newOk_any (w : World) (n : Nat) (hn : n ≤ 65536) : Calls Tryd.prog 18 #[.int .i64 (n : Int)] w (SetE w n fun _ => false) := by
  unfold SetE
  obtain ⟨i0, hinf, hz0, hz1, hz2⟩ := info_parts infoU
  have qa := allowed_yes n hn
  have qw := fun W => wordsFor_any n W hn
  obtain ⟨W, hW⟩ : ∃ W : Nat, W = (n + 63) / 64 := ⟨_, rfl⟩
  have hWl : W ≤ 1024 := by omega
  rw [← hW]
  simp only [← hW] at qw
  clear hW
  have hB : Below w.heap.size w (w.alloc (.cells #[.int .i64 0, .slice none 0 0] 24)) := (Below.refl _ w).alloc (Nat.le_refl _) _
  have hT : Two (w.alloc (.cells #[.int .i64 0, .slice none 0 0] 24)) w.heap.size 24 (.int .i64 0) (.slice none 0 0) := Two.new w _ _ _
  go_enter Tryd.func18, Tryd.ntmps18
  go_wp2_with fail
  refine (qa _).mono ?_
  rintro e w' ⟨rfl, hE⟩
  rw [hE]
  clear hE
  obtain ⟨w1, hw1⟩ : ∃ wz, wz = w.alloc (.cells #[.int .i64 0, .slice none 0 0] 24) := ⟨_, rfl⟩
  rw [← hw1] at hB hT ⊢
  have hz1w : w1.heap.size = w.heap.size + 1 := by rw [hw1, World.size_alloc]
  clear hw1
  go_wp2_with fail
  refine (qw _).mono ?_
  rintro e w' ⟨rfl, hE⟩
  rw [hE]
  clear hE
  go_wp2_with (at_make; refine wpList_make_full _ rfl _ _ 22 rfl (w.heap.size + 1) 30 i0 (.int .u64 0) 1 Tryd.underlying22 hinf hz0 hz1 .i64 .i64 _ _ W rfl rfl rfl rfl (by rw [hz2]; omega) (by unfold maxLen; omega) (by omega) ?_)
  intro w2 hown hgrow
  have hB2 : Below w.heap.size w w2 := hB.grown hgrow (by omega) (fun _ hk => by cases hk)
  have hT2 := hT.below ((Below.refl w1.heap.size w1).grown hgrow (Nat.le_refl _) (fun _ hk => by cases hk)) (by omega)
  rw [made_zerosU] at hown
  have q0 := hT2.c0
  have q1 := hT2.c1
  have q2 := hT2.f0
  have q3 := hT2.f1
  have hQ3 := hT2.range_set (.int .i64 (n : Int)) (.slice (some ⟨w.heap.size + 1, 0, none⟩) W W)
  have hB3 := (hB2.setCell (p := ⟨w.heap.size, 0, none⟩) (Nat.le_refl _) (.int .i64 (n : Int))).setCell (p := ⟨w.heap.size, 1, none⟩) (Nat.le_refl _) (.slice (some ⟨w.heap.size + 1, 0, none⟩) W W)
  have hown3 := own_base (own_set (own_set hown w.heap.size 0 (.int .i64 (n : Int)) (Nat.lt_succ_self _)) w.heap.size 1 (.slice (some ⟨w.heap.size + 1, 0, none⟩) W W) (Nat.lt_succ_self _)) (Nat.le_succ w.heap.size)
  clear hown hgrow hB hB2 hT hT2
  go_wp2_with fail
  refine bodyPost_cell2 rfl w.heap.size rfl _ _ hQ3 Tryd.underlying24 rfl (by kernel_rfl) rfl ?_
  exact ⟨_, W, List.replicate W 0, rfl, hown3, Wds.zeros W, fun i => bt_zeros W i, hB3⟩

set_option maxRecDepth 100000 in
theorem eql_nilU (g : Addr) (n c : Nat) (w : World) : (binOp .eql 22 (.slice (some g) n c) (.slice none 0 0)).run Tryd.prog w = .ok (.bool false) w := rfl
set_option maxRecDepth 100000 in
theorem eql_nilU0 (n c : Nat) (w : World) : (binOp .eql 22 (.slice none n c) (.slice none 0 0)).run Tryd.prog w = .ok (.bool true) w := rfl

set_option maxRecDepth 100000 in
set_option maxHeartbeats 1000000 in
theorem clone_any (w : World) (a : Option Addr) (n c : Nat) (l : List Int) (h : Sl .u64 w a n c l) (hnb : n ≤ 1000000) :
    Calls Tryd.prog 78 #[.slice a n c] w fun e w' => ∃ g c', e = .returned (.slice g n c') ∧ w'.ownsRow w.heap.size 30 1 (.slice g n c') n (l.map (Value.int .u64)) ∧ Below w.heap.size w w' := by
  obtain ⟨i0, hinf, hz0, hz1, hz2⟩ := info_parts infoU
  have hln := h.1
  have hc1 := h.2.1
  have hc2 := h.2.2.1
  cases a with
  | none =>
    have hn0 : n = 0 := by
      rcases h.2.2.2 with ⟨h0, _⟩ | ⟨b, o, hh, _⟩
      · exact h0
      · cases hh
    subst hn0
    have hl0 : l = [] := List.eq_nil_of_length_eq_zero hln
    subst hl0
    have hq := eql_nilU0 0 c
    clear h
    go_enter Tryd.func78, Tryd.ntmps78
    go_wp2_with fail
    go_ret
    exact ⟨none, 0, rfl, World.ownsRow_nil _ _ _ _, Below.refl _ _⟩
  | some ad =>
    have hq := eql_nilU ad n c
    have hE := own_empty w 30 w.heap.size (Nat.le_refl _)
    have hs2 : Sl .u64 (w.alloc (.cells #[] 30)) (some ad) n c l := h.below ((Below.refl _ w).alloc (Nat.le_refl _) _)
    have HLN := Lib.hid hln
    clear h hln
    go_enter Tryd.func78, Tryd.ntmps78
    go_wp2_with (at_builtin; refine wpList_append_onsl _ rfl (.tmp 5) (.tmp 6) 22 rfl .u64 w.heap.size 30 i0 8 Tryd.underlying22 hinf hz0 hz1 hz2 _ [] (some ad) n c l rfl rfl hE hs2 (by unfold maxLen; simp; omega) (by simp; omega) (by simp) ?_)
    intro v' w1 hown hgrow
    obtain ⟨g, c', rfl⟩ := own_shape hown
    have hB1 : Below w.heap.size w w1 := ((Below.refl _ w).alloc (Nat.le_refl _) _).grown hgrow (by simp) (fun k e => by simp [Value.ownBlock] at e; omega)
    simp only [HLN.out] at hown
    go_wp2_with fail
    go_ret
    exact ⟨g, c', by simp [HLN.out], hown, hB1⟩
end Go.Proofs.YtcdjfgkjllonhaaDoor
