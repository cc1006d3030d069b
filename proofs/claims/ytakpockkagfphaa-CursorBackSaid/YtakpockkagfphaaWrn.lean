/-
  The walk of the law on wrong sizes and limits. No condition but those in each statement.
-/
import Derived.Test.YtakpockkagfphaaFxd
namespace Go.Proofs.Ytakpockkagfphaa
open Go.RowKit Go.Shelf

theorem cut_100 (len : Nat) : (min (len : Int) 100).toNat = min len 100 := by omega
theorem BRes.bad {r : Nat} {l : List Int} {ix : Nat} {n E : Int} {w : World} {e : Ending} {w' : World} (h : BRes r l ix n w e w') (he : tkE l.length ix n = E) (hE : E ≠ 0) :
    ∃ a2 c2, e = .returned (.tuple #[.slice a2 0 c2, .int .i64 E]) ∧ Rd w' r l ix ∧ Bx (Only r) w w' := by
  have h1 : tkL l ix n = [] := by unfold tkL; rw [if_neg (by rw [he]; exact hE)]
  unfold BRes at h
  rw [h1, he] at h
  obtain ⟨a2, c2, h1, _, h3, h4⟩ := h
  exact ⟨a2, c2, h1, h3, h4⟩
theorem fx_end {l : List Int} {ix : Nat} (h : l.length ≤ ix) : fxR l ix 1 = (0, 0, 20) := by
  rw [fxR_go (by omega)]
  have e1 : tkE l.length ix 1 = 20 := tkE_end (by omega) (by omega)
  have e2 : tkL l ix 1 = [] := by unfold tkL; rw [e1]; rfl
  rw [e1, e2]; rfl
theorem nb_end {l : List Int} {ix : Nat} (top : Int) (h : l.length ≤ ix) : nbR l ix top = (0, 0, 10) := by
  have : vread (l.drop ix) = (0, 0, 10) := by rw [List.drop_eq_nil_of_le h]; rfl
  exact nbR_err this (by decide)

set_option maxRecDepth 100000 in
set_option maxHeartbeats 2000000 in
theorem wrong_walk2 (W : World) (a : Option Addr) (len cap : Nat) (l : List Int) (n : Int) (hs : Sl .u8 W a len cap l) (hf : Fits .u8 l) (wn : (Lit.int .i64 n).wf = true) :
    Calls Try.prog 10 #[.slice a len cap, .int .i64 n] W fun e w' => e = .returned (.bool true) ∧ Below W.heap.size W w' := by
  obtain ⟨hn0, hn1⟩ := bounds_i64 wn
  clear wn
  obtain ⟨i0, hinf, hz0, hz1, hz2⟩ := info_parts infoU8
  have hlc := hs.2.1
  have hcm := hs.2.2.1
  have hsm := hs.upto (min len 100) (Nat.min_le_left _ _)
  have hby := (fits_bytes hf).take (min len 100)
  have hm100 : min len 100 ≤ 100 := Nat.min_le_right _ _
  have hmlen : min len 100 ≤ len := Nat.min_le_left _ _
  have hc100 := cut_100 len
  obtain ⟨b, hb⟩ : ∃ b, b = l.take (min len 100) := ⟨_, rfl⟩
  rw [← hb] at hsm hby
  generalize min len 100 = m at *
  have hbl := hsm.1
  clear hb hs hf
  subst hbl
  go_enter Try.func10, Try.ntmps10
  go_wp2_with fail
  refine (awake_any W).mono ?_
  rintro e w1 ⟨rfl, hbel1⟩
  go_wp2_with fail
  refine (newReader_any w1 a cap b (hsm.below hbel1) (by omega)).mono ?_
  rintro e w2 ⟨r, rfl, hr, hR2, hB2⟩
  have hbel2 := step_below hbel1 hB2 (Nat.le_refl _)
  have hWr : W.heap.size ≤ r := Nat.le_trans hbel1.size hr
  clear hB2 hbel1 hr
  go_wp2_with fail
  refine (bytes_any w2 r b 0 (min n (-1)) hR2).mono ?_
  intro e w3 hM
  obtain ⟨a3, c3, rfl, hR3, hX3⟩ := hM.bad (tkE_neg (by omega)) (by decide)
  have hbel3 := step_rd hbel2 hX3 hWr (Nat.le_refl _)
  clear hM hX3 hR2 hbel2
  go_wp2_with fail
  refine (bytes_any w3 r b 0 (max n ((b.length : Int) + 1)) hR3).mono ?_
  intro e w4 hM
  obtain ⟨a4, c4, rfl, hR4, hX4⟩ := hM.bad (tkE_end (by omega) (by omega)) (by decide)
  have hbel4 := step_rd hbel3 hX4 hWr (Nat.le_refl _)
  clear hM hX4 hR3 hbel3
  go_wp2_with fail
  refine (fixed_any w4 r b 0 (min n 0) hR4 hby).mono ?_
  intro e w5 hM
  obtain ⟨rfl, hR5, hX5⟩ := hM.at (fxR_arg (by omega)) 0 rfl
  have hbel5 := step_rd hbel4 hX5 hWr (Nat.le_refl _)
  clear hM hX5 hR4 hbel4
  go_wp2_with fail
  refine (fixed_any w5 r b 0 (max n 9) hR5 hby).mono ?_
  intro e w6 hM
  obtain ⟨rfl, hR6, hX6⟩ := hM.at (fxR_arg (by omega)) 0 rfl
  have hbel6 := step_rd hbel5 hX6 hWr (Nat.le_refl _)
  clear hM hX6 hR5 hbel5
  go_wp2_with fail
  refine (count_any w6 r b 0 (min n (-1)) 1 (by omega) (by omega) hR6 hby).mono ?_
  intro e w7 hM
  obtain ⟨rfl, hR7, hX7⟩ := hM.at (ctR_arg (by omega)) 0 rfl
  have hbel7 := step_rd hbel6 hX7 hWr (Nat.le_refl _)
  clear hM hX7 hR6 hbel6
  go_wp2_with fail
  refine (count_any w7 r b 0 5 (min n 0) (by omega) (by omega) hR7 hby).mono ?_
  intro e w8 hM
  obtain ⟨rfl, hR8, hX8⟩ := hM.at (ctR_arg (by omega)) 0 rfl
  have hbel8 := step_rd hbel7 hX8 hWr (Nat.le_refl _)
  clear hM hX8 hR7 hbel7
  go_wp2_with fail
  refine (at_rd w8 r b 0 hR8).mono ?_
  rintro e w9 ⟨rfl, hD9⟩
  have hbel9 := step_below hbel8 hD9.below (Nat.le_refl _)
  have hR9 := hR8.below hD9.below
  clear hD9 hR8 hbel8
  go_wp2_with fail
  refine (left_rd w9 r b 0 hR9).mono ?_
  rintro e w' ⟨rfl, rfl⟩
  go_wp2_with fail
  refine (end_rd w9 r b 0 hR9).mono ?_
  rintro e w' ⟨rfl, rfl⟩
  have hend : (!(endE b.length 0 == 22) == decide (0 < b.length)) = false := by
    unfold endE
    by_cases h : 0 < b.length
    · have : decide (0 < b.length) = true := decide_eq_true h
      rw [if_pos h, this]; rfl
    · have : decide (0 < b.length) = false := decide_eq_false h
      rw [if_neg h, this]; rfl
  go_wp2_with fail
  refine (bytes_any w9 r b 0 b.length hR9).mono ?_
  intro e w10 hM
  obtain ⟨a10, c10, rfl, hown10, hR10, hX10⟩ := hM.at (by omega) b.length (by omega)
  rw [List.drop_zero, List.take_length] at hown10
  have hbel10 := step_rd hbel9 hX10 hWr (Nat.le_refl _)
  have hsl10 := own_sl hown10
  have hbk10 : ∀ p, a10 = some p → ¬ Only r p.block := fun p hp => Only.ne (by have := (own_block hown10 p hp).1; have := hR9.lt; omega)
  have HBK := Lib.hid hbk10
  clear hM hX10 hR9 hbel9 hown10 hbk10 hend
  go_wp2_with fail
  refine (byte_any w10 r b b.length hR10 hby).mono ?_
  intro e w11 hM
  obtain ⟨rfl, hR11, hX11⟩ := hM.at (fx_end (Nat.le_refl _)) b.length (by omega)
  have hbel11 := step_rd hbel10 hX11 hWr (Nat.le_refl _)
  have hsl11 := hsl10.bx hX11 HBK.out
  clear hM hX11 hR10 hbel10 hsl10
  go_wp2_with fail
  refine (fixed_any w11 r b b.length 1 hR11 hby).mono ?_
  intro e w12 hM
  obtain ⟨rfl, hR12, hX12⟩ := hM.at (fx_end (Nat.le_refl _)) b.length (by omega)
  have hbel12 := step_rd hbel11 hX12 hWr (Nat.le_refl _)
  have hsl12 := hsl11.bx hX12 HBK.out
  clear hM hX12 hR11 hbel11 hsl11
  go_wp2_with fail
  refine (number_go w12 r b b.length 1 hR12 hby).mono ?_
  intro e w13 hM
  obtain ⟨rfl, hR13, hX13⟩ := hM.at (nb_end 1 (Nat.le_refl _)) b.length (by omega)
  have hbel13 := step_rd hbel12 hX13 hWr (Nat.le_refl _)
  have hsl13 := hsl12.bx hX13 HBK.out
  clear hM hX13 hR12 hbel12 hsl12
  go_wp2_with fail
  refine (bytes_any w13 r b b.length ((0 : Nat) : Int) hR13).mono ?_
  intro e w14 hM
  obtain ⟨a14, c14, rfl, _, hR14, hX14⟩ := hM.at (by omega) b.length (by omega)
  have hbel14 := step_rd hbel13 hX14 hWr (Nat.le_refl _)
  have hsl14 := hsl13.bx hX14 HBK.out
  clear hM hX14 hR13 hbel13 hsl13
  go_wp2_with fail
  refine (sameBytes_yes w14 _ _ _ _ _ _ _ _ hsl14 (hsm.below hbel14) rfl).mono ?_
  rintro e w15 ⟨rfl, hD15⟩
  have hbel15 := step_below hbel14 hD15.below (Nat.le_refl _)
  have hR15 := hR14.below hD15.below
  clear hD15 hR14 hbel14 hsl14
  go_wp2_with fail
  refine (end_rd w15 r b b.length hR15).mono ?_
  rintro e w' ⟨rfl, rfl⟩
  have he : endE b.length b.length = 0 := by unfold endE; simp
  rw [he]
  clear he hR15
  go_wp2_with fail
  refine (newWriter_arg w15 (min n (-1)) (by omega)).mono ?_
  rintro e w' ⟨rfl, rfl⟩
  go_wp2_with fail
  refine (newWriter_arg w15 (max n 16777217) (by omega)).mono ?_
  rintro e w' ⟨rfl, rfl⟩
  go_wp2_with fail
  refine (newWriter_ok w15 (b.length : Int) (by omega)).mono ?_
  rintro e w16 ⟨rfl, hW16, hB16⟩
  have hbel16 := step_below hbel15 hB16 (Nat.le_refl _)
  have hr16 := hbel15.size
  have hsm16 := (hsm.below hbel16).capped
  have hBa : Below w16.heap.size w16 (w16.alloc (.cells #[.int .u8 1] 5)) := (Below.refl _ _).alloc (Nat.le_refl _) _
  have hsm17 := hsm16.below hBa
  have hsl17 := (Blk.new .u8 5 w16 [1]).sl (by simp)
  have hbel17 := step_below hbel16 hBa (Nat.le_refl _)
  have hW17 := hW16.below hBa
  clear hB16 hbel15 hbel16 hsm16 hBa hW16
  go_wp2_with (at_builtin; refine wpList_append_full _ rfl (.tmp 224) (.tmp 225) 22 rfl .u8 5 i0 1 Try.underlying22 hinf hz0 hz1 hz2 a _ b.length 1 1 b [1] rfl rfl hsm17 hsl17 (by unfold maxLen; omega) (by omega) ?_)
  intro a18 c18 w18 hsl18 hB18s
  have hB18 : Below (w16.alloc (.cells #[.int .u8 1] 5)).heap.size (w16.alloc (.cells #[.int .u8 1] 5)) w18 := by rw [World.size_alloc]; exact hB18s
  clear hB18s
  have hbel18 := step_below hbel17 hB18 (Nat.le_refl _)
  have hW18 := hW17.below hB18
  have hl18 : (b ++ [1]).length = b.length + 1 := by simp
  have hN18 := wbytes_any w18 _ _ _ _ (b ++ [1]) a18 c18 hW18 (by rw [hl18]; exact hsl18) (by rw [hl18]; omega)
  rw [hl18] at hN18
  have HN18 := Lib.hid hN18
  have HL18 := Lib.hid hl18
  clear hN18 hl18 hsm17 hsl17 hbel17 hW17 hB18 hsl18
  go_wp2_with fail
  refine HN18.out.mono ?_
  intro e w19 hM
  obtain ⟨rfl, hB19⟩ := hM.full (by rw [HL18.out]; simp; omega)
  have hbel19 := step_below hbel18 hB19 (Nat.le_refl _)
  have hW19 := hW18.below hB19
  clear hM hB19 hbel18 hW18 HN18
  go_wp2_with fail
  refine (wfixed_arg w19 _ _ _ _ 0 (min n 0) hW19 (by omega)).mono ?_
  rintro e w' ⟨rfl, rfl⟩
  go_wp2_with fail
  refine (wfixed_arg w19 _ _ _ _ 0 (max n 9) hW19 (by omega)).mono ?_
  rintro e w' ⟨rfl, rfl⟩
  go_wp2_with fail
  refine (len_wr w19 _ _ _ _ hW19).mono ?_
  rintro e w' ⟨rfl, rfl⟩
  go_wp2_with fail
  refine (wbytes_any w19 _ _ _ _ b a cap hW19 (hsm.below hbel19) (by omega)).mono ?_
  intro e w20 hM
  obtain ⟨rfl, v20, hW20, hX20, _⟩ := hM.fits (by simp)
  have hbel20 := step_wr hbel19 hW19 hX20 hr16 (Nat.le_refl _)
  simp only [List.nil_append] at hW20
  clear hM hX20 hbel19 hW19
  go_wp2_with fail
  refine (wnumber_any w20 _ _ _ _ 0 hW20 (by omega) (by omega)).mono ?_
  rw [vform_lt (by omega)]
  intro e w21 hM
  obtain ⟨rfl, hB21⟩ := hM.full (by simp; omega)
  have hbel21 := step_below hbel20 hB21 (Nat.le_refl _)
  have hW21 := hW20.below hB21
  clear hM hB21 hbel20 hW20
  go_wp2_with fail
  refine (out_wr w21 _ _ _ _ hW21).mono ?_
  rintro e w22 ⟨a22, c22, rfl, hown22, hB22⟩
  have hbel22 := step_below hbel21 hB22 (Nat.le_refl _)
  have hsl22 := own_sl hown22
  clear hB22 hbel21 hown22 hW21
  go_wp2_with fail
  refine (sameBytes_yes w22 _ _ _ _ _ _ _ _ hsl22 (hsm.below hbel22) rfl).mono ?_
  rintro e w23 ⟨rfl, hD23⟩
  have hbel23 := step_below hbel22 hD23.below (Nat.le_refl _)
  clear hD23 hbel22 hsl22
  go_wp2_with fail
  go_ret
  exact ⟨rfl, hbel23⟩
end Go.Proofs.Ytakpockkagfphaa
