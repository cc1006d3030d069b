/-
  The contracts of bits' Right and words: whether a set is right; the words of a set, none if it is not right.
-/
import Derived.Test.YtcdjfgkjllonhaaDoorBza
namespace Go.Proofs.YtcdjfgkjllonhaaDoor
open Go.RowKit Go.Shelf

/-- A set that comes in: its words read so; the library's table lies where it must. -/
structure SetIn (w : World) (N : Int) (a : Option Addr) (n c : Nat) (l : List Int) : Prop where
  sl : Sl .u64 w a n c l
  wds : Wds l
  low : -9223372036854775808 ≤ N
  high : N ≤ 9223372036854775807
  tab : Tbz w
theorem SetIn.below {w w' : World} {N : Int} {a : Option Addr} {n c : Nat} {l : List Int} (h : SetIn w N a n c l) (hb : Below w.heap.size w w') : SetIn w' N a n c l :=
  ⟨h.sl.below hb, h.wds, h.low, h.high, h.tab.step hb⟩
theorem SetIn.from {w w' : World} {m : Nat} {N : Int} {a : Option Addr} {n c : Nat} {l : List Int} (h : SetIn w N a n c l) (hb : Below m w w') (hm : w.heap.size ≤ m) : SetIn w' N a n c l :=
  h.below (hb.mono hm)

/-- One word without the bits of another one. -/
def an (x y : Nat) : Nat := (BitVec.ofNat 64 x &&& ~~~ BitVec.ofNat 64 y).toNat
theorem an_lt (x y : Nat) : an x y < 18446744073709551616 := by unfold an; exact BitVec.isLt _
theorem an_test {x y i : Nat} (hi : i < 64) : (an x y).testBit i = (x.testBit i && !y.testBit i) := by
  unfold an
  rw [BitVec.testBit_toNat, BitVec.getLsbD_and, BitVec.getLsbD_not, BitVec.getLsbD_ofNat, BitVec.getLsbD_ofNat]
  simp [hi]
theorem bits_an (x y : Nat) : bits .andNot .u64 (x : Int) (y : Int) = ((an x y : Nat) : Int) := by
  have h1 : BitVec.ofInt 64 (x : Int) = BitVec.ofNat 64 x := BitVec.ofInt_natCast ..
  have h2 : BitVec.ofInt 64 (y : Int) = BitVec.ofNat 64 y := BitVec.ofInt_natCast ..
  show IntKind.u64.wrap ((BitVec.ofInt 64 (x : Int) &&& ~~~ BitVec.ofInt 64 (y : Int)).toNat : Int) = _
  have := an_lt x y
  rw [h1, h2, IntKind.wrap_u64]
  unfold an at *
  omega
/-- The last word tells whether a set is right. -/
theorem right_last {N j k : Nat} {l : List Int} (hN : N ≤ 65536) (hl : l.length = (N + 63) / 64) (hj : j + 1 = l.length) (hk : k + 64 * j = N) : rightB (N : Int) l = (((an (wd l j) (2 ^ k - 1) : Nat) : Int) == 0) := by
  have hz : (((an (wd l j) (2 ^ k - 1) : Nat) : Int) == 0) = decide (an (wd l j) (2 ^ k - 1) = 0) := by
    by_cases h : an (wd l j) (2 ^ k - 1) = 0
    · rw [h]; rfl
    · rw [decide_eq_false h]; simpa using h
  rw [hz]
  by_cases h : an (wd l j) (2 ^ k - 1) = 0
  · rw [decide_eq_true h]
    refine rightB_yes ⟨by omega, by omega, by omega, fun i hi hn => ?_⟩
    obtain ⟨r, rfl⟩ : ∃ r, i = 64 * j + r := ⟨i - 64 * j, by omega⟩
    rw [bt_wd l j r (by omega)]
    have ht := an_test (x := wd l j) (y := 2 ^ k - 1) (i := r) (by omega)
    rw [h, Nat.zero_testBit, Nat.testBit_two_pow_sub_one] at ht
    have a1 : ¬ r < k := by omega
    simpa [a1] using ht.symm
  · rw [decide_eq_false h]
    refine rightB_no fun hr => h (zero_of_bits (an_lt _ _) fun i hi => ?_)
    rw [an_test hi, Nat.testBit_two_pow_sub_one]
    by_cases hik : i < k
    · simp [hik]
    · have := hr.out (i := 64 * j + i) (by omega)
      rw [bt_wd l j i hi] at this
      rw [this]; rfl

set_option maxRecDepth 100000 in
set_option maxHeartbeats 1000000 in
theorem right_any (w : World) (N : Int) (a : Option Addr) (n c : Nat) (l : List Int) (h : SetIn w N a n c l) :
    Calls Tryd.prog 34 #[.agg #[.int .i64 N, .slice a n c]] w fun e w' => e = .returned (.bool (rightB N l)) ∧ Below w.heap.size w w' := by
  have hB : Below w.heap.size w (w.alloc (.cells #[.int .i64 N, .slice a n c] 24)) := (Below.refl _ w).alloc (Nat.le_refl _) _
  have hT : Two (w.alloc (.cells #[.int .i64 N, .slice a n c] 24)) w.heap.size 24 (.int .i64 N) (.slice a n c) := Two.new w _ _ _
  obtain ⟨w1, hw1⟩ : ∃ wz, wz = w.alloc (.cells #[.int .i64 N, .slice a n c] 24) := ⟨_, rfl⟩
  have c0 := hT.c0
  have c1 := hT.c1
  rw [← hw1] at c0 c1 hB
  have HW1 := Lib.hid hw1
  clear hw1
  have qa := fun q : Nat => allowed_any N (w1.drewN q)
  by_cases hal : 0 ≤ N ∧ N ≤ 65536
  · have hd1 : decide (0 ≤ N) = true := by simpa using hal.1
    have hd2 : decide (N ≤ 65536) = true := by simpa using hal.2
    obtain ⟨m, rfl⟩ : ∃ m : Nat, N = (m : Int) := ⟨N.toNat, by omega⟩
    have hm : m ≤ 65536 := by omega
    simp only [hd1, hd2, Bool.and_self] at qa
    obtain ⟨W, hW⟩ : ∃ W : Nat, W = (m + 63) / 64 := ⟨_, rfl⟩
    have qw := fun q : Nat => wordsFor_any m (w1.drewN q) hm
    rw [← hW] at qw
    have hln := h.sl.1
    by_cases hnW : n = W
    · have hne : ((n : Int) != (W : Int)) = false := by simp; omega
      by_cases hn0 : n = 0
      · have hr : rightB (m : Int) l = true := rightB_yes ⟨by omega, by omega, by omega, fun i hi _ => bt_out (by omega)⟩
        rw [hr]
        have hm0 : (n : Int) - 1 = -1 := by omega
        have hm1 : decide ((n : Int) - 1 < 0) = true := by simp; omega
        subst hnW
        subst hn0
        clear hr hW hal hd1 hd2 h hT
        go_enter Tryd.func34, Tryd.ntmps34
        go_wp2_with fail
        rw [← HW1.out]
        go_quiet (first | (go_at_call 55; exact Calls.quiet_of_same (qa _)) | (go_at_call 56; exact Calls.quiet_of_same (qw _)))
        go_wp2_with fail
        go_quiet (fail)
        go_wp2_with fail
        go_ret
        exact ⟨rfl, below_drewN (below_drewN hB _) _⟩
      · obtain ⟨j, hj⟩ : ∃ j : Nat, j + 1 = n := ⟨n - 1, by omega⟩
        obtain ⟨k, hk⟩ : ∃ k : Nat, k + 64 * j = m := ⟨m - 64 * j, by omega⟩
        have hr := right_last (l := l) (j := j) (k := k) hm (by omega) (by omega) hk
        rw [hr]
        have hs1 : Sl .u64 w1 a n c l := h.sl.below hB
        obtain ⟨b, off, rfl, hc⟩ := hs1.view (by omega)
        have hcell := hc j (by omega)
        rw [wd_eq h.wds j] at hcell
        have hx := wd_lt h.wds j
        obtain ⟨x, hxe⟩ : ∃ x, x = wd l j := ⟨_, rfl⟩
        rw [← hxe] at hcell hx ⊢
        have e1 : (n : Int) - 1 = (j : Int) := by omega
        have e2 : (m : Int) - 64 * (j : Int) = (k : Int) := by omega
        have hk64 : k ≤ 64 := by omega
        have hkk : (k : Int) = min (max (k : Int) 0) 64 := by rw [Int.max_eq_left (by omega), Int.min_eq_left (by omega)]
        have ql := fun W : World => lowest_any (k : Int) k W hkk
        have hP : 2 ^ k - 1 < 18446744073709551616 := by
          have : 2 ^ k ≤ 2 ^ 64 := Nat.pow_le_pow_right (by omega) (by omega)
          omega
        have e3 := bits_an x (2 ^ k - 1)
        obtain ⟨P, hPe⟩ : ∃ P, P = 2 ^ k - 1 := ⟨_, rfl⟩
        obtain ⟨Z, hZe⟩ : ∃ Z, Z = an x P := ⟨_, rfl⟩
        rw [← hPe, ← hZe] at e3
        rw [← hPe] at ql
        rw [← hPe, ← hZe]
        have i1 : (j : Int) < (n : Int) := by omega
        have hb1 : decide ((j : Int) < 0) = false := by simp
        have hjb : j ≤ 1024 := by omega
        have ew1 : IntKind.i64.wrap (64 * (j : Int)) = 64 * (j : Int) := by rw [IntKind.wrap_i64]; omega
        have ew2 : IntKind.i64.wrap (k : Int) = (k : Int) := by rw [IntKind.wrap_i64]; omega
        clear hr hW hal hd1 hd2 h hT hs1 hc hP hPe hZe hxe hj hk hkk hnW
        go_enter Tryd.func34, Tryd.ntmps34
        go_wp2_with fail
        rw [← HW1.out]
        go_quiet (first | (go_at_call 55; exact Calls.quiet_of_same (qa _)) | (go_at_call 56; exact Calls.quiet_of_same (qw _)))
        have hB2 := below_drewN hB nq
        have d0 : (w1.drewN nq).cell? ⟨w.heap.size, 0, none⟩ = some (.int .i64 (m : Int)) := c0
        have d1 : (w1.drewN nq).cell? ⟨w.heap.size, 1, none⟩ = some (.slice (some ⟨b, off, none⟩) n c) := c1
        have d2 : (w1.drewN nq).cell? ⟨b, off + j, none⟩ = some (.int .u64 (x : Int)) := hcell
        obtain ⟨w2, hw2⟩ : ∃ wz, wz = w1.drewN nq := ⟨_, rfl⟩
        rw [← hw2] at hB2 d0 d1 d2 ⊢
        clear hw2 c0 c1 hcell hB HW1
        go_wp2_with fail
        go_quiet ((go_at_call 64; exact Calls.quiet_of_same (ql (w2.drewN _))))
        go_wp2_with fail
        go_ret
        exact ⟨rfl, below_drewN hB2 _⟩
    · have hne : ((n : Int) != (W : Int)) = true := by simp; omega
      have hr : rightB (m : Int) l = false := rightB_no fun hr => by have := hr.2.2.1; omega
      rw [hr]
      clear hr hW hal hd1 hd2 h hT
      go_enter Tryd.func34, Tryd.ntmps34
      go_wp2_with fail
      rw [← HW1.out]
      go_quiet (first | (go_at_call 55; exact Calls.quiet_of_same (qa _)) | (go_at_call 56; exact Calls.quiet_of_same (qw _)))
      go_wp2_with fail
      go_ret
      exact ⟨rfl, below_drewN hB _⟩
  · have hr : rightB N l = false := rightB_no fun hr => hal ⟨hr.1, hr.2.1⟩
    rw [hr]
    have hd1 : (decide (0 ≤ N) && decide (N ≤ 65536)) = false := by
      by_cases h0 : 0 ≤ N
      · rw [decide_eq_false (show ¬ N ≤ 65536 from fun h => hal ⟨h0, h⟩), Bool.and_false]
      · rw [decide_eq_false h0, Bool.false_and]
    simp only [hd1] at qa
    clear hr hal hd1 h hT
    go_enter Tryd.func34, Tryd.ntmps34
    go_wp2_with fail
    rw [← HW1.out]
    go_quiet ((go_at_call 55; exact Calls.quiet_of_same (qa _)))
    go_wp2_with fail
    go_ret
    exact ⟨rfl, below_drewN hB _⟩

set_option maxRecDepth 100000 in
set_option maxHeartbeats 1000000 in
theorem words_any (w : World) (N : Int) (a : Option Addr) (n c : Nat) (l : List Int) (h : SetIn w N a n c l) :
    Calls Tryd.prog 58 #[.agg #[.int .i64 N, .slice a n c]] w fun e w' => ∃ a' n' c', e = .returned (.slice a' n' c') ∧ Sl .u64 w' a' n' c' (ef N l) ∧ Below w.heap.size w w' ∧ ∀ W, Sl .u64 W a n c l → Sl .u64 W a' n' c' (ef N l) := by
  have hB : Below w.heap.size w (w.alloc (.cells #[.int .i64 N, .slice a n c] 24)) := (Below.refl _ w).alloc (Nat.le_refl _) _
  have hR := right_any _ N a n c l (h.below hB)
  have hT : Two (w.alloc (.cells #[.int .i64 N, .slice a n c] 24)) w.heap.size 24 (.int .i64 N) (.slice a n c) := Two.new w _ _ _
  cases hr : rightB N l with
  | true =>
    rw [hr] at hR
    rw [ef_yes hr]
    have HR := Lib.hid hr
    clear hr
    go_enter Tryd.func58, Tryd.ntmps58
    go_wp2_with fail
    refine hR.mono ?_
    rintro e w2 ⟨rfl, hB2⟩
    have hT2 := hT.below hB2 (by simp)
    have c1 := hT2.c1
    go_wp2_with fail
    go_ret
    have hB3 := hB.trans (hB2.mono (by simp))
    exact ⟨a, n, c, rfl, h.sl.below hB3, hB3, fun _ hW => hW⟩
  | false =>
    rw [hr] at hR
    rw [ef_no hr]
    clear hr
    go_enter Tryd.func58, Tryd.ntmps58
    go_wp2_with fail
    refine hR.mono ?_
    rintro e w2 ⟨rfl, hB2⟩
    go_wp2_with fail
    go_ret
    exact ⟨none, 0, 0, rfl, Sl.nil _ _, hB.trans (hB2.mono (by simp)), fun _ _ => Sl.nil _ _⟩
end Go.Proofs.YtcdjfgkjllonhaaDoor
