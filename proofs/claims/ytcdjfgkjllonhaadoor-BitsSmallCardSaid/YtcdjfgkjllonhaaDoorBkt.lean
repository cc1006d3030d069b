/-
  The contracts of SameInts, Pick, and of the laws' asked and is.
-/
import Derived.Test.YtcdjfgkjllonhaaDoorBrf
import Derived.Test.YtcdjfgkjllonhaaDoorLin
namespace Go.Proofs.YtcdjfgkjllonhaaDoor
open Go.RowKit Go.Shelf

set_option maxHeartbeats 1000000 in
theorem sameInts_any (w : World) (a1 a2 : Option Addr) (n1 c1 n2 c2 : Nat) (l1 l2 : List Int) (h1 : Sl .i64 w a1 n1 c1 l1) (h2 : Sl .i64 w a2 n2 c2 l2) :
    Calls Tryd.prog 42 #[.slice a1 n1 c1, .slice a2 n2 c2] w fun e w' => e = .returned (.bool (eqB l1 l2)) ∧ Draws w w' := by
  obtain ⟨hl1, hc1, hm1, hr1⟩ := h1
  obtain ⟨hl2, hc2, hm2, hr2⟩ := h2
  by_cases hn : n1 = n2
  · subst hn
    have hb : ((n1 : Int) != (n1 : Int)) = false := by simp
    have HL1 := Lib.hid hl1
    have HL2 := Lib.hid hl2
    have HR1 := Lib.hid hr1
    have HR2 := Lib.hid hr2
    clear hl1 hl2 hr1 hr2
    go_enter Tryd.func42, Tryd.ntmps42
    go_wp2
    go_loopw [5] (fun i wr => ∃ (j n : Nat), i = .int .i64 j ∧ j ≤ n1 ∧ wr = w.drewN n ∧ l1.take j = l2.take j) (fun i _ => n1 - (intOf i).toNat)
    case atStart => exact ⟨0, 0, rfl, Nat.zero_le _, rfl, by simp⟩
    case round =>
      obtain ⟨j, n, rfl, hj, rfl, ht⟩ := hrel
      have HT := Lib.hid ht
      clear ht
      by_cases hlt : j < n1
      · have hx1 : ∃ b1 o1, a1 = some ⟨b1, o1, none⟩ ∧ w.cell? ⟨b1, o1 + j, none⟩ = some (.int .i64 (l1[j]?.getD 0)) := by
          rcases HR1.out with ⟨h0, _⟩ | ⟨b, o, h, _, hc⟩
          · omega
          · exact ⟨b, o, h, hc j hlt⟩
        have hx2 : ∃ b2 o2, a2 = some ⟨b2, o2, none⟩ ∧ w.cell? ⟨b2, o2 + j, none⟩ = some (.int .i64 (l2[j]?.getD 0)) := by
          rcases HR2.out with ⟨h0, _⟩ | ⟨b, o, h, _, hc⟩
          · omega
          · exact ⟨b, o, h, hc j hlt⟩
        obtain ⟨b1, o1, rfl, e1⟩ := hx1
        obtain ⟨b2, o2, rfl, e2⟩ := hx2
        by_cases hv : l1[j]?.getD 0 = l2[j]?.getD 0
        · have hvb : (l1[j]?.getD 0 != l2[j]?.getD 0) = false := by rw [hv]; simp
          have HV := Lib.hid hv
          clear hv
          go_wp2
          go_quiet (fail)
          go_wp2
          go_roundw
          case rel => exact ⟨j + 1, n + nq, by go_num, by omega, rfl, take_eq_of HT.out (by rw [HL1.out]; exact hlt) (by rw [HL2.out]; exact hlt) HV.out⟩
          case measure => simp [intOf]; omega
        · have hvb : (l1[j]?.getD 0 != l2[j]?.getD 0) = true := bne_iff_ne.2 hv
          have hres : eqB l1 l2 = false := eqB_no (take_ne_of hv)
          have HR := Lib.hid hres
          clear hres hv
          go_wp2
          go_quiet (fail)
          go_wp2
          go_ret
          exact ⟨ret_bool HR.out.symm, _, drewN_add w n nq⟩
      · obtain rfl : j = n1 := by omega
        have hres : eqB l1 l2 = true := eqB_yes (eq_of_take HL1.out HL2.out HT.out)
        have HR := Lib.hid hres
        clear hres
        go_wp2
        go_ret
        exact ⟨ret_bool HR.out.symm, _, rfl⟩
  · have hb : ((n1 : Int) != (n2 : Int)) = true := by simp; omega
    have hres : eqB l1 l2 = false := eqB_no (fun h => hn (by rw [← hl1, ← hl2, h]))
    have HR := Lib.hid hres
    clear hres hl1 hl2 hr1 hr2
    go_enter Tryd.func42, Tryd.ntmps42
    go_wp2
    go_ret
    exact ⟨ret_bool HR.out.symm, 0, rfl⟩

set_option maxHeartbeats 1000000 in
theorem pick_any (x : Int) (n : Nat) (w : World) (hn : 1 ≤ n) (hn2 : n ≤ 1000000000) :
    Calls Tryd.prog 29 #[.int .i64 x, .int .i64 (n : Int)] w fun e w' => e = .returned (.int .i64 (x % (n : Int))) ∧ w' = w := by
  have hd : decide ((n : Int) < 1) = false := by simp; omega
  have hz : ((n : Int) == 0) = false := by simp; omega
  have hz2 : ¬ (n : Int) = 0 := by omega
  obtain ⟨t, ht⟩ : ∃ t : Int, t = x.tmod (n : Int) := ⟨_, rfl⟩
  have hm := Int.emod_add_mul_ediv x (n : Int)
  have hm0 := Int.emod_nonneg x hz2
  have hm1 := Int.emod_lt_of_pos x (show (0 : Int) < (n : Int) by omega)
  have hres : (if t < 0 then t + (n : Int) else t) = x % (n : Int) ∧ -(n : Int) < t ∧ t < (n : Int) := by
    rw [ht, Int.tmod_eq_emod]
    by_cases hx : 0 ≤ x ∨ (n : Int) ∣ x
    · rw [if_pos hx]
      have e0 : x % (n : Int) - ((0 : Nat) : Int) = x % (n : Int) := by omega
      rw [e0, if_neg (by omega)]; exact ⟨rfl, by omega, hm1⟩
    · rw [if_neg hx]
      have hne : x % (n : Int) ≠ 0 := fun e => hx (.inr (Int.dvd_of_emod_eq_zero e))
      simp only [Int.natAbs_natCast]
      rw [if_pos (by omega)]
      exact ⟨by omega, by omega, by omega⟩
  have hw : wrap64 (x.tmod (n : Int)) = t := by rw [← ht]; unfold wrap64; omega
  have ht2 : x.tmod (n : Int) = t := ht.symm
  have HRES := Lib.hid hres
  have hb := hres.2
  clear hm hm0 hm1 hres ht
  by_cases h : t < 0
  · have hd2 : decide (t < 0) = true := by simpa using h
    have hr : t + (n : Int) = x % (n : Int) := by have := HRES.out.1; rwa [if_pos h] at this
    have HR := Lib.hid hr
    clear hr
    go_enter Tryd.func29, Tryd.ntmps29
    go_wp2_with fail
    go_ret
    exact ⟨by rw [← HR.out]; rfl, rfl⟩
  · have hd2 : decide (t < 0) = false := by simpa using h
    have hr : t = x % (n : Int) := by have := HRES.out.1; rwa [if_neg h] at this
    have HR := Lib.hid hr
    clear hr
    go_enter Tryd.func29, Tryd.ntmps29
    go_wp2_with fail
    go_ret
    exact ⟨by rw [← HR.out]; rfl, rfl⟩

/-- What is asked of an answer: a number and true, or 0 and false. -/
theorem asked_any (r s : Option Nat) (w : World) (hr : ∀ m, r = some m → m ≤ 9223372036854775807) (hs : ∀ m, s = some m → m ≤ 9223372036854775807) :
    Calls Tryd.prog 44 #[.int .i64 (match r with | some m => (m : Int) | none => 0), .bool r.isSome, .int .i64 (orNo s)] w fun e w' => e = .returned (.bool (decide (r = s))) ∧ w' = w := by
  cases r with
  | none =>
    cases s with
    | none =>
      go_enter Tryd.func44, Tryd.ntmps44
      simp only [orNo, Option.isSome]
      go_wp2_with fail
      go_ret
      exact ⟨rfl, rfl⟩
    | some m =>
      have := hs m rfl
      have hd : decide ((0 : Int) ≤ (m : Int)) = true := by simp
      go_enter Tryd.func44, Tryd.ntmps44
      simp only [orNo, Option.isSome]
      go_wp2_with fail
      go_ret
      exact ⟨rfl, rfl⟩
  | some n =>
    have := hr n rfl
    cases s with
    | none =>
      go_enter Tryd.func44, Tryd.ntmps44
      simp only [orNo, Option.isSome]
      go_wp2_with fail
      go_ret
      exact ⟨rfl, rfl⟩
    | some m =>
      have := hs m rfl
      have hd : decide ((0 : Int) ≤ (m : Int)) = true := by simp
      have hmx : max (m : Int) 0 = (m : Int) := by omega
      have hb : decide (some n = some m) = ((n : Int) == (m : Int)) := by
        rw [Bool.eq_iff_iff]; simp; omega
      have HB := Lib.hid hb
      clear hb
      go_enter Tryd.func44, Tryd.ntmps44
      simp only [orNo, Option.isSome]
      go_wp2_with fail
      go_ret
      exact ⟨by rw [HB.out]; rfl, rfl⟩

set_option maxRecDepth 100000 in
set_option maxHeartbeats 1000000 in
theorem is_any (w : World) (N M : Int) (a1 a2 : Option Addr) (n1 c1 n2 c2 : Nat) (l1 l2 : List Int) (h1 : Sl .u64 w a1 n1 c1 l1) (h2 : Sl .u64 w a2 n2 c2 l2) :
    Calls Tryd.prog 51 #[.agg #[.int .i64 N, .slice a1 n1 c1], .agg #[.int .i64 M, .slice a2 n2 c2]] w fun e w' => e = .returned (.bool (decide (N = M) && eqB l1 l2)) ∧ Below w.heap.size w w' := by
  have hB1 : Below w.heap.size w (w.alloc (.cells #[.int .i64 N, .slice a1 n1 c1] 24)) := (Below.refl _ w).alloc (Nat.le_refl _) _
  have hB2 : Below w.heap.size w ((w.alloc (.cells #[.int .i64 N, .slice a1 n1 c1] 24)).alloc (.cells #[.int .i64 M, .slice a2 n2 c2] 31)) := hB1.alloc hB1.size _
  have hT1 : Two ((w.alloc (.cells #[.int .i64 N, .slice a1 n1 c1] 24)).alloc (.cells #[.int .i64 M, .slice a2 n2 c2] 31)) w.heap.size 24 (.int .i64 N) (.slice a1 n1 c1) := (Two.new w _ _ _).alloc _
  have hT2 : Two ((w.alloc (.cells #[.int .i64 N, .slice a1 n1 c1] 24)).alloc (.cells #[.int .i64 M, .slice a2 n2 c2] 31)) (w.heap.size + 1) 31 (.int .i64 M) (.slice a2 n2 c2) := Two.new2 w _ _ _ _
  have q := sameNums_any _ a1 a2 n1 c1 n2 c2 l1 l2 (h1.below hB2) (h2.below hB2)
  have c0 := hT1.c0
  have c1' := hT1.c1
  have d0 := hT2.c0
  have d1 := hT2.c1
  clear h1 h2 hB1 hT1 hT2
  by_cases hNM : N = M
  · have hb : (N == M) = true := by simpa using hNM
    have hd : decide (N = M) = true := by simpa using hNM
    rw [hd, Bool.true_and]
    clear hd hNM
    go_enter Tryd.func51, Tryd.ntmps51
    go_wp2_with fail
    refine q.mono ?_
    rintro e w' ⟨rfl, hw⟩
    have hB3 := bstep hB2 hw.below
    clear q hw
    go_wp2_with fail
    go_ret
    exact ⟨rfl, hB3⟩
  · have hb : (N == M) = false := by simpa using hNM
    have hd : decide (N = M) = false := by simpa using hNM
    rw [hd, Bool.false_and]
    clear q hd hNM
    go_enter Tryd.func51, Tryd.ntmps51
    go_wp2_with fail
    go_ret
    exact ⟨rfl, hB2⟩
end Go.Proofs.YtcdjfgkjllonhaaDoor
