/-
  The walk of the law on numbers that may be too great. No condition but those in each statement.
-/
import Derived.Test.YtakpockkagfphaaCaw
import Derived.Test.YtakpockkagfphaaNum
namespace Go.Proofs.Ytakpockkagfphaa
open Go.RowKit Go.Shelf

theorem fx_one {l : List Int} {j : Nat} (h : j < l.length) : fxR l j 1 = (1, l[j]?.getD 0, 0) := by
  rw [fxR_go (by omega)]
  have e1 : tkE l.length j 1 = 0 := tkE_ok (by omega) (by omega)
  have e2 : tkL l j 1 = [l[j]?.getD 0] := by
    unfold tkL; rw [if_pos e1, drop_cons l j h]; rfl
  rw [e1, e2]
  simp [leV]

theorem nb_form {x top : Int} (b : List Int) (h0 : 0 ≤ x) (h1 : x ≤ 18446744073709551615) (h : ¬ top < x) : nbR (vform x ++ b) 0 top = (vsize x, x, 0) := by
  have := vread_form x b h0 h1
  exact nbR_ok (by simpa using this) h
theorem nb_most {x top : Int} (b : List Int) (h0 : 0 ≤ x) (h1 : x ≤ 18446744073709551615) (h : top < x) : nbR (vform x ++ b) 0 top = (0, 0, 21) := by
  have := vread_form x b h0 h1
  exact nbR_most (by simpa using this) h

set_option maxRecDepth 100000 in
set_option maxHeartbeats 2000000 in
theorem most_walk (W : World) (x top : Int) (wx : (Lit.int .u64 x).wf = true) (_ : (Lit.int .u64 top).wf = true) :
    Calls Try.prog 8 #[.int .u64 x, .int .u64 top] W fun e w' => e = .returned (.bool true) ∧ Below W.heap.size W w' := by
  obtain ⟨hx0, hx1⟩ := bounds_u64 wx
  clear wx
  have hby : Bytes (vform x) := vform_bytes x hx0
  have h10 : (vform x).length ≤ 10 := vsize_10 hx1
  have hpos := vform_pos x
  have hvs : vsize x = (vform x).length := rfl
  have HF := Lib.hid (fun hh => nb_form (x := x) (top := top) [] hx0 hx1 hh)
  have HM := Lib.hid (fun hh => nb_most (x := x) (top := top) [] hx0 hx1 hh)
  obtain ⟨l, hl⟩ : ∃ l, l = vform x := ⟨_, rfl⟩
  simp only [List.append_nil] at HF HM
  rw [← hl] at hby h10 hpos hvs HF HM
  go_enter Try.func8, Try.ntmps8
  go_wp2_with fail
  refine (awake_any W).mono ?_
  rintro e w1 ⟨rfl, hB1⟩
  go_wp2_with fail
  refine (write_any x w1 hx0 hx1).mono ?_
  rw [← hl]
  clear hl
  rintro e w2 ⟨a2, c2, rfl, hown2, hB2⟩
  have hbel2 := step_below hB1 hB2 (Nat.le_refl _)
  have hsl2 := own_sl hown2
  have hbk2 := own_block hown2
  clear hB1 hB2 hown2
  go_wp2_with fail
  refine (newReader_any w2 a2 c2 l hsl2 (by omega)).mono ?_
  rintro e w3 ⟨r, rfl, hr, hR3, hB3⟩
  have hbel3 := step_below hbel2 hB3 (Nat.le_refl _)
  have hsl3 := hsl2.below hB3
  have hWr : W.heap.size ≤ r := Nat.le_trans hbel2.size hr
  have hbk : ∀ p, a2 = some p → ¬ Only r p.block := fun p hp => Only.ne (by have := (hbk2 p hp).2; omega)
  clear hbel2 hB3 hsl2 hbk2 hr
  go_wp2_with fail
  refine (number_go w3 r l 0 top hR3 hby).mono ?_
  intro e w4 hM
  by_cases hx : top < x
  · have hbx : decide (x ≤ top) = false := by simp; omega
    obtain ⟨rfl, hR4, hX4⟩ := hM.at (m := 0) (z := 0) (er := 21) (HM.out hx) 0 rfl
    have hbel4 := step_rd hbel3 hX4 hWr (Nat.le_refl _)
    have hsl4 := hsl3.bx hX4 hbk
    obtain ⟨bb, off, rfl, hcell4⟩ := hsl4.view (by omega)
    have hHB := Lib.hid hbk
    clear hbel3 hX4 hR3 hM hsl3 hcell4 hx HM HF hbk
    go_wp2_with fail
    refine (at_rd w4 r l 0 hR4).mono ?_
    rintro e w5 ⟨rfl, hD5⟩
    have hbel5 := step_below hbel4 hD5.below (Nat.le_refl _)
    have hsl5 := hsl4.below hD5.below
    have hR5 := hR4.below hD5.below
    clear hbel4 hsl4 hR4 hD5
    go_wp2_with fail
    go_loopw [52] (fun i wr => ∃ j : Nat, i = .int .i64 j ∧ j ≤ l.length ∧ Rd wr r l j ∧ Sl .u8 wr (some ⟨bb, off, none⟩) l.length c2 l ∧ Below W.heap.size W wr) (fun i _ => l.length - (intOf i).toNat)
    case atStart => exact ⟨0, rfl, by omega, hR5, hsl5, hbel5⟩
    case round =>
      obtain ⟨j, rfl, hj, hR, hsl, hbel⟩ := hrel
      by_cases hlt : j < l.length
      · have HO := Lib.hid (fx_one hlt)
        go_wp2_with fail
        refine (byte_any wr r l j hR hby).mono ?_
        intro e w6 hM
        obtain ⟨rfl, hR6, hX6⟩ := hM.at HO.out (j + 1) rfl
        have hbel6 := step_rd hbel hX6 hWr (Nat.le_refl _)
        have hsl6 := hsl.bx hX6 hHB.out
        obtain ⟨b', off', hbb, hcell⟩ := hsl6.view (by omega)
        cases hbb
        have e0 := hcell j hlt
        clear hM hX6 hbel hsl hcell hR HO
        go_wp2_with fail
        go_roundw
        case rel => exact ⟨j + 1, by go_num, by omega, hR6, hsl6, hbel6⟩
        case measure => simp [intOf]; omega
      · obtain rfl : j = l.length := by omega
        go_wp2_with fail
        refine (end_rd wr r l l.length hR).mono ?_
        rintro e w' ⟨rfl, rfl⟩
        have he : endE l.length l.length = 0 := by unfold endE; simp
        rw [he]
        clear he
        go_wp2_with fail
        go_ret
        exact ⟨rfl, hbel⟩
  · have hbx : decide (x ≤ top) = true := by simp; omega
    obtain ⟨rfl, hR4, hX4⟩ := hM.at (m := l.length) (z := x) (er := 0) (by rw [HF.out (Int.not_lt.1 hx), hvs]) l.length (by omega)
    have hbel4 := step_rd hbel3 hX4 hWr (Nat.le_refl _)
    clear hbel3 hX4 hR3 hM hsl3 hx HM HF hbk
    go_wp2_with fail
    refine (end_rd w4 r l l.length hR4).mono ?_
    rintro e w' ⟨rfl, rfl⟩
    have he : endE l.length l.length = 0 := by unfold endE; simp
    rw [he]
    clear he
    go_wp2_with fail
    go_ret
    exact ⟨rfl, hbel4⟩
end Go.Proofs.Ytakpockkagfphaa
