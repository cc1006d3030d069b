/-
  The walk of the law on numbers of fixed bytes. No condition but those in each statement.
-/
import Derived.Test.YtakpockkagfphaaCnt
namespace Go.Proofs.Ytakpockkagfphaa
open Go.RowKit Go.Shelf

theorem cut_20 (len : Nat) : (min (len : Int) 20).toNat = min len 20 := by omega
theorem fits_bytes {l : List Int} (h : Fits .u8 l) : Bytes l := fun c hc => bounds_u8 (h c hc)
theorem leB_at (x : Int) : ∀ n j : Nat, j < n → (leB n x)[j]?.getD 0 = x / 256 ^ j % 256 := by
  intro n j h
  unfold leB
  rw [List.getElem?_map, List.getElem?_range h]
  rfl
/-- Which numbers fit: less than 256^n. -/
theorem fit_iff {x : Int} {n : Nat} : 0 < x / 256 ^ n ↔ 256 ^ n ≤ x := by
  have hp : (0 : Int) < 256 ^ n := Int.pow_pos (by omega)
  constructor
  · intro h
    have := (Int.le_ediv_iff_mul_le hp (a := 1) (b := x)).1 (by omega)
    omega
  · intro h
    have := (Int.le_ediv_iff_mul_le hp (a := 1) (b := x)).2 (by omega)
    omega
theorem fit_8 {x : Int} (h0 : 0 ≤ x) (h : x ≤ 18446744073709551615) : ¬ 0 < x / 256 ^ 8 := by
  have : x / 256 ^ 8 = 0 := Int.ediv_eq_zero_of_lt h0 (by simpa using (by omega : x < 18446744073709551616))
  omega
theorem fx_form {x : Int} {n : Nat} (b : List Int) (h0 : 0 ≤ x) (hn1 : 1 ≤ n) (hn8 : n ≤ 8) (hf : ¬ 0 < x / 256 ^ n) : fxR (leB n x ++ b) 0 n = (n, x, 0) := by
  have hp : (0 : Int) < 256 ^ n := Int.pow_pos (by omega)
  have hlen := leB_length n x
  obtain ⟨he, hl⟩ := tk_ok (l := leB n x ++ b) (ix := 0) (m := n) (by simp; omega)
  rw [fxR_go (by omega), he, hl]
  have e1 : (List.drop 0 (leB n x ++ b)).take n = leB n x := by
    rw [List.drop_zero]; conv => lhs; rw [← hlen]
    simp [hlen]
  rw [e1, leV_leB, hlen]
  have : x < 256 ^ n := by
    rcases Int.lt_or_le x (256 ^ n) with h | h
    · exact h
    · exact absurd (fit_iff.2 h) hf
  rw [Int.emod_eq_of_lt h0 this]

theorem wrap_pow (n : Nat) (h : n < 8) : IntKind.u64.wrap (2 ^ (8 * n)) = 256 ^ n := by
  match n, h with
  | 0, _ => decide
  | 1, _ => decide
  | 2, _ => decide
  | 3, _ => decide
  | 4, _ => decide
  | 5, _ => decide
  | 6, _ => decide
  | 7, _ => decide

set_option maxRecDepth 100000 in
set_option maxHeartbeats 1000000 in
theorem fixed_walk (W : World) (x k : Int) (a : Option Addr) (len cap : Nat) (l : List Int) (wx : (Lit.int .u64 x).wf = true) (wk : (Lit.int .u8 k).wf = true) (hs : Sl .u8 W a len cap l) (hf : Fits .u8 l) :
    Calls Try.prog 9 #[.int .u64 x, .int .u8 k, .slice a len cap] W fun e w' => e = .returned (.bool true) ∧ Below W.heap.size W w' := by
  obtain ⟨hx0, hx1⟩ := bounds_u64 wx
  obtain ⟨hk0, hk1⟩ := bounds_u8 wk
  clear wx wk
  have hlc := hs.2.1
  have hcm := hs.2.2.1
  have hsm := hs.upto (min len 20) (Nat.min_le_left _ _)
  have hby := (fits_bytes hf).take (min len 20)
  have hm20 : min len 20 ≤ 20 := Nat.min_le_right _ _
  have hc20 := cut_20 len
  obtain ⟨b, hb⟩ : ∃ b, b = l.take (min len 20) := ⟨_, rfl⟩
  rw [← hb] at hsm hby
  generalize min len 20 = m at *
  have hbl := hsm.1
  clear hb hs hf
  have hw64 : wrap64 k = k := IntWalk.wrap64_in k ⟨by omega, by omega⟩
  obtain ⟨n, hn⟩ : ∃ q : Nat, 1 + k % 8 = (q : Int) := ⟨(1 + k % 8).toNat, by omega⟩
  have hn1 : 1 ≤ n := by omega
  have hn8 : n ≤ 8 := by omega
  go_enter Try.func9, Try.ntmps9
  go_wp2_with fail
  refine (awake_any W).mono ?_
  rintro e w1 ⟨rfl, hB1⟩
  have hsm1 := hsm.below hB1
  go_wp2_with fail
  refine (newWriter_ok w1 ((n : Int) + m) (by omega)).mono ?_
  rintro e w2 ⟨rfl, hW2, hB2⟩
  have hsm2 := hsm1.below hB2
  have hbel2 := step_below hB1 hB2 (Nat.le_refl _)
  have hr2 := hB1.size
  clear hB1 hB2 hsm1 hsm2 hn hw64
  go_wp2_with fail
  by_cases ho : 0 < x / 256 ^ n
  · have hn7 : n < 8 := by
      rcases Nat.lt_or_ge n 8 with h | h
      · exact h
      · obtain rfl : n = 8 := by omega
        exact absurd ho (fit_8 hx0 hx1)
    refine (wfixed_over w2 _ _ _ _ x n hW2 hn1 hn8 ho).mono ?_
    rintro e w' ⟨rfl, rfl⟩
    have hge := fit_iff.1 ho
    have hd : decide (IntKind.u64.wrap (2 ^ (8 * n)) ≤ x) = true := by rw [wrap_pow n hn7]; simp; exact hge
    clear ho hge
    go_wp2_with fail
    refine (len_wr w2 _ _ _ _ hW2).mono ?_
    rintro e w' ⟨rfl, rfl⟩
    go_wp2_with fail
    go_ret
    exact ⟨rfl, hbel2⟩
  · have hLl : (leB n x ++ b).length = n + m := by rw [List.length_append, leB_length, hbl]
    have hbyL : Bytes (leB n x ++ b) := (leB_bytes n x).append hby
    have hdrop : ((leB n x ++ b).drop n).take m = b := by
      rw [List.drop_append_of_le_length (by rw [leB_length]; omega), List.drop_eq_nil_of_le (by rw [leB_length]; omega), List.nil_append, ← hbl, List.take_length]
    by_cases hn7 : n < 8
    · have hd : decide (IntKind.u64.wrap (2 ^ (8 * n)) ≤ x) = false := by
        rw [wrap_pow n hn7]
        simp
        rcases Int.lt_or_le x (256 ^ n) with h | h
        · exact h
        · exact absurd (fit_iff.2 h) ho

      refine (wfixed_fit w2 _ _ _ _ x n hW2 hn1 hn8 hx0 ho).mono ?_
      intro e w3 hM
      obtain ⟨rfl, v3, hW3, hX3, _⟩ := hM.fits (by rw [leB_length]; simp; omega)
      have hbel3 := step_wr hbel2 hW2 hX3 hr2 (Nat.le_refl _)
      simp only [List.nil_append] at hW3
      clear hX3 hM hW2 hbel2
      go_wp2_with fail
      have hN4 := wbytes_any w3 _ _ _ _ b a cap hW3 (by rw [hbl]; exact hsm.below hbel3) (by omega)
      rw [hbl] at hN4
      refine hN4.mono ?_
      clear hN4
      intro e w4 hM
      obtain ⟨rfl, v4, hW4, hX4, _⟩ := hM.fits (by rw [leB_length, hbl]; omega)
      have hbel4 := step_wr hbel3 hW3 hX4 hr2 (Nat.le_refl _)
      clear hX4 hM hW3 hbel3
      go_wp2_with fail
      refine (wbyte_any w4 _ _ _ _ 0 hW4).mono ?_
      intro e w5 hM
      obtain ⟨rfl, hB5⟩ := hM.full (by rw [hLl]; simp; omega)
      have hbel5 := step_below hbel4 hB5 (Nat.le_refl _)
      have hW5 := hW4.below hB5
      clear hB5 hM hW4 hbel4
      go_wp2_with fail
      refine (out_wr w5 _ _ _ _ hW5).mono ?_
      rintro e w6 ⟨a6, c6, rfl, hown6, hB6⟩
      have hbel6 := step_below hbel5 hB6 (Nat.le_refl _)
      rw [hLl] at hown6
      rw [hLl]
      have hsl6 := own_sl hown6
      have hbk6 := own_block hown6
      clear hB6 hW5 hbel5 hown6
      go_wp2_with fail
      obtain ⟨bb, off, rfl, _⟩ := hsl6.view (by omega)
      go_loopw [11, 82] (fun y i wr => ∃ (j : Nat) (z : Int), y = .int .u64 z ∧ i = .int .i64 j ∧ j ≤ n ∧ Aside (z = x / 256 ^ j) ∧ 0 ≤ z ∧ z ≤ 18446744073709551615 ∧ wr = w6) (fun _ i _ => n - (intOf i).toNat)
      case atStart => exact ⟨0, x, rfl, rfl, by omega, by simp [Aside], hx0, hx1, by first | exact trivial | rfl⟩
      case round =>
        obtain ⟨j, z, rfl, rfl, hj, HZ, hz0, hz1, rfl⟩ := hrel
        by_cases hlt : j < n
        · obtain ⟨b', off', hbb, hcell⟩ := hsl6.view (by omega)
          cases hbb
          have e0 := hcell j (by omega)
          have hat : (leB n x ++ b)[j]?.getD 0 = z % 256 := by
            rw [List.getElem?_append_left (by rw [leB_length]; omega), leB_at x n j hlt, ← show z = x / 256 ^ j from HZ.out]
          rw [hat] at e0
          clear hat hcell
          have hzn : Aside (z / 256 = x / 256 ^ (j + 1)) := by
            have := HZ.out; unfold Aside at this ⊢; rw [this]; exact div_step x j
          go_wp2_with fail
          go_roundw
          case rel => exact ⟨j + 1, z / 256, rfl, by go_num, by omega, hzn, by omega, by omega, by first | exact trivial | rfl⟩
          case measure => simp [intOf]; omega
        · obtain rfl : j = n := by omega
          have hN6 := newReader_any _ (some ⟨bb, off, none⟩) c6 (leB j x ++ b) (by rw [hLl]; exact hsl6) (by rw [hLl]; omega)
          rw [hLl] at hN6
          have HN6 := Lib.hid hN6
          clear hN6
          go_wp2_with fail
          refine HN6.out.mono ?_
          rintro e w7 ⟨r, rfl, hr7, hR7, hB7⟩
          have hbel7 := step_below hbel6 hB7 (Nat.le_refl _)
          have hW7 : W.heap.size ≤ r := Nat.le_trans hbel6.size hr7
          clear HN6 hbel6 hB7 hsl6
          go_wp2_with fail
          refine (fixed_any w7 r _ 0 j hR7 hbyL).mono ?_
          intro e w8 hM
          obtain ⟨rfl, hR8, hX8⟩ := hM.at (fx_form b hx0 hn1 hn8 (Int.not_lt.2 ho)) j (by omega)
          have hbel8 := step_rd hbel7 hX8 hW7 (Nat.le_refl _)
          clear hM hX8 hR7 hbel7
          go_wp2_with fail
          refine (bytes_any w8 r _ j m hR8).mono ?_
          intro e w9 hM
          obtain ⟨a9, c9, rfl, hown9, hR9, hX9⟩ := hM.at (by rw [hLl]; omega) (j + m) rfl
          rw [hdrop] at hown9
          have hbel9 := step_rd hbel8 hX9 hW7 (Nat.le_refl _)
          have hsl9 := own_sl hown9
          clear hM hX9 hR8 hbel8 hown9
          have hN10 := Lib.hid (sameBytes_yes w9 _ _ _ _ _ _ _ _ hsl9 (hsm.below hbel9) rfl)
          go_wp2_with fail
          refine hN10.out.mono ?_
          rintro e w10 ⟨rfl, hD10⟩
          have hbel10 := step_below hbel9 hD10.below (Nat.le_refl _)
          clear hN10 hbel9 hsl9 hD10
          go_wp2_with fail
          go_ret
          exact ⟨rfl, hbel10⟩
    · have hn8' : decide ((n : Int) < 8) = false := by simp; omega

      refine (wfixed_fit w2 _ _ _ _ x n hW2 hn1 hn8 hx0 ho).mono ?_
      intro e w3 hM
      obtain ⟨rfl, v3, hW3, hX3, _⟩ := hM.fits (by rw [leB_length]; simp; omega)
      have hbel3 := step_wr hbel2 hW2 hX3 hr2 (Nat.le_refl _)
      simp only [List.nil_append] at hW3
      clear hX3 hM hW2 hbel2
      go_wp2_with fail
      have hN4 := wbytes_any w3 _ _ _ _ b a cap hW3 (by rw [hbl]; exact hsm.below hbel3) (by omega)
      rw [hbl] at hN4
      refine hN4.mono ?_
      clear hN4
      intro e w4 hM
      obtain ⟨rfl, v4, hW4, hX4, _⟩ := hM.fits (by rw [leB_length, hbl]; omega)
      have hbel4 := step_wr hbel3 hW3 hX4 hr2 (Nat.le_refl _)
      clear hX4 hM hW3 hbel3
      go_wp2_with fail
      refine (wbyte_any w4 _ _ _ _ 0 hW4).mono ?_
      intro e w5 hM
      obtain ⟨rfl, hB5⟩ := hM.full (by rw [hLl]; simp; omega)
      have hbel5 := step_below hbel4 hB5 (Nat.le_refl _)
      have hW5 := hW4.below hB5
      clear hB5 hM hW4 hbel4
      go_wp2_with fail
      refine (out_wr w5 _ _ _ _ hW5).mono ?_
      rintro e w6 ⟨a6, c6, rfl, hown6, hB6⟩
      have hbel6 := step_below hbel5 hB6 (Nat.le_refl _)
      rw [hLl] at hown6
      rw [hLl]
      have hsl6 := own_sl hown6
      have hbk6 := own_block hown6
      clear hB6 hW5 hbel5 hown6
      go_wp2_with fail
      obtain ⟨bb, off, rfl, _⟩ := hsl6.view (by omega)
      go_loopw [11, 82] (fun y i wr => ∃ (j : Nat) (z : Int), y = .int .u64 z ∧ i = .int .i64 j ∧ j ≤ n ∧ Aside (z = x / 256 ^ j) ∧ 0 ≤ z ∧ z ≤ 18446744073709551615 ∧ wr = w6) (fun _ i _ => n - (intOf i).toNat)
      case atStart => exact ⟨0, x, rfl, rfl, by omega, by simp [Aside], hx0, hx1, by first | exact trivial | rfl⟩
      case round =>
        obtain ⟨j, z, rfl, rfl, hj, HZ, hz0, hz1, rfl⟩ := hrel
        by_cases hlt : j < n
        · obtain ⟨b', off', hbb, hcell⟩ := hsl6.view (by omega)
          cases hbb
          have e0 := hcell j (by omega)
          have hat : (leB n x ++ b)[j]?.getD 0 = z % 256 := by
            rw [List.getElem?_append_left (by rw [leB_length]; omega), leB_at x n j hlt, ← show z = x / 256 ^ j from HZ.out]
          rw [hat] at e0
          clear hat hcell
          have hzn : Aside (z / 256 = x / 256 ^ (j + 1)) := by
            have := HZ.out; unfold Aside at this ⊢; rw [this]; exact div_step x j
          go_wp2_with fail
          go_roundw
          case rel => exact ⟨j + 1, z / 256, rfl, by go_num, by omega, hzn, by omega, by omega, by first | exact trivial | rfl⟩
          case measure => simp [intOf]; omega
        · obtain rfl : j = n := by omega
          have hN6 := newReader_any _ (some ⟨bb, off, none⟩) c6 (leB j x ++ b) (by rw [hLl]; exact hsl6) (by rw [hLl]; omega)
          rw [hLl] at hN6
          have HN6 := Lib.hid hN6
          clear hN6
          go_wp2_with fail
          refine HN6.out.mono ?_
          rintro e w7 ⟨r, rfl, hr7, hR7, hB7⟩
          have hbel7 := step_below hbel6 hB7 (Nat.le_refl _)
          have hW7 : W.heap.size ≤ r := Nat.le_trans hbel6.size hr7
          clear HN6 hbel6 hB7 hsl6
          go_wp2_with fail
          refine (fixed_any w7 r _ 0 j hR7 hbyL).mono ?_
          intro e w8 hM
          obtain ⟨rfl, hR8, hX8⟩ := hM.at (fx_form b hx0 hn1 hn8 (Int.not_lt.2 ho)) j (by omega)
          have hbel8 := step_rd hbel7 hX8 hW7 (Nat.le_refl _)
          clear hM hX8 hR7 hbel7
          go_wp2_with fail
          refine (bytes_any w8 r _ j m hR8).mono ?_
          intro e w9 hM
          obtain ⟨a9, c9, rfl, hown9, hR9, hX9⟩ := hM.at (by rw [hLl]; omega) (j + m) rfl
          rw [hdrop] at hown9
          have hbel9 := step_rd hbel8 hX9 hW7 (Nat.le_refl _)
          have hsl9 := own_sl hown9
          clear hM hX9 hR8 hbel8 hown9
          have hN10 := Lib.hid (sameBytes_yes w9 _ _ _ _ _ _ _ _ hsl9 (hsm.below hbel9) rfl)
          go_wp2_with fail
          refine hN10.out.mono ?_
          rintro e w10 ⟨rfl, hD10⟩
          have hbel10 := step_below hbel9 hD10.below (Nat.le_refl _)
          clear hN10 hbel9 hsl9 hD10
          go_wp2_with fail
          go_ret
          exact ⟨rfl, hbel10⟩
end Go.Proofs.Ytakpockkagfphaa
