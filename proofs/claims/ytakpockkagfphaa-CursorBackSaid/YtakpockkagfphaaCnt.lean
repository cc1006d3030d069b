/-
  The walk of the law on counts. No condition but those in each statement.
-/
import Derived.Test.YtakpockkagfphaaMost
import Derived.Test.YtakpockkagfphaaApz
namespace Go.Proofs.Ytakpockkagfphaa
open Go.RowKit Go.Shelf

theorem tk_ok {l : List Int} {ix m : Nat} (h : ix + m ≤ l.length) : tkE l.length ix (m : Int) = 0 ∧ tkL l ix (m : Int) = (l.drop ix).take m := by
  have he : tkE l.length ix (m : Int) = 0 := tkE_ok (by omega) (by omega)
  exact ⟨he, by unfold tkL; rw [if_pos he]; rfl⟩
theorem BRes.at {r : Nat} {l : List Int} {ix m : Nat} {w : World} {e : Ending} {w' : World} (h : BRes r l ix (m : Int) w e w') (hm : ix + m ≤ l.length) (j : Nat) (hj : ix + m = j) :
    ∃ a2 c2, e = .returned (.tuple #[.slice a2 m c2, .int .i64 0]) ∧ w'.ownsRow w.heap.size 5 1 (.slice a2 m c2) m (((l.drop ix).take m).map (Value.int .u8)) ∧ Rd w' r l j ∧ Bx (Only r) w w' := by
  obtain ⟨he, hl⟩ := tk_ok hm
  have hlen : ((l.drop ix).take m).length = m := by simp; omega
  unfold BRes at h
  rw [he, hl, hlen, hj] at h
  exact h
theorem ct_most {l : List Int} {ix : Nat} {top size : Int} (h0 : 0 ≤ top) (h1 : 1 ≤ size) (h : nbR l ix top = (0, 0, 21)) : ctR l ix top size = (0, 0, 21) := ctR_err (by omega) h (by decide)

set_option maxRecDepth 100000 in
set_option maxHeartbeats 4000000 in
theorem counts_walk (W : World) (x size after : Int) (wx : (Lit.int .u64 x).wf = true) (wsz : (Lit.int .i64 size).wf = true) (wa : (Lit.int .u16 after).wf = true) :
    Calls Try.prog 7 #[.int .u64 x, .int .i64 size, .int .u16 after] W fun e w' => e = .returned (.bool true) ∧ Below W.heap.size W w' := by
  obtain ⟨hx0, hx1⟩ := bounds_u64 wx
  obtain ⟨hz0, hz1⟩ := bounds_i64 wsz
  obtain ⟨ha0, ha1⟩ := bounds_u16 wa
  clear wx wsz wa
  obtain ⟨s, hs⟩ : ∃ s : Nat, max size 1 = (s : Int) := ⟨(max size 1).toNat, by omega⟩
  have hs1 : 1 ≤ s := by omega
  have hs2 : s ≤ 9223372036854775807 := by omega
  have hw64 : wrap64 after = after := IntWalk.wrap64_in after ⟨by omega, by omega⟩
  obtain ⟨left, hlf⟩ : ∃ q : Nat, Int.tmod after 401 = (q : Int) := ⟨(Int.tmod after 401).toNat, by rw [Int.tmod_eq_emod_of_nonneg ha0]; omega⟩
  have hl401 : left < 401 := by rw [Int.tmod_eq_emod_of_nonneg ha0] at hlf; omega
  have hwq : wrap64 ((left : Int) / s) = (left : Int) / s := by
    have h0 : 0 ≤ (left : Int) / s := Int.ediv_nonneg (by omega) (by omega)
    have h1 : (left : Int) / s ≤ left := Int.ediv_le_self _ (by omega)
    exact IntWalk.wrap64_in _ ⟨by omega, by omega⟩
  have hsnz : ((s : Int) == 0) = false := by simp; omega
  obtain ⟨i0, hinf, hzz0, hzz1, hzz2⟩ := info_parts infoU8
  have h10 : (vform x).length ≤ 10 := vsize_10 hx1
  have hpos := vform_pos x
  have hvs : vsize x = (vform x).length := rfl
  have hby : Bytes (vform x ++ List.replicate left 0) := Bytes.append (vform_bytes x hx0) (fun c hc => by rw [List.eq_of_mem_replicate hc]; omega)
  have HF := Lib.hid (fun (top : Int) hh => nb_form (x := x) (top := top) (List.replicate left 0) hx0 hx1 hh)
  have HM := Lib.hid (fun (top : Int) hh => nb_most (x := x) (top := top) (List.replicate left 0) hx0 hx1 hh)
  have hbl : (vform x ++ List.replicate left 0).length = (vform x).length + left := by simp
  obtain ⟨b, hb⟩ : ∃ b, b = vform x ++ List.replicate left 0 := ⟨_, rfl⟩
  obtain ⟨v, hv⟩ : ∃ v, v = (vform x).length := ⟨_, rfl⟩
  rw [← hb] at hby HF HM hbl
  have HB := Lib.hid hb
  rw [← hv] at h10 hpos hvs hbl
  have HV := Lib.hid hv
  clear hb hv ha0 ha1 hz0 hz1
  go_enter Try.func7, Try.ntmps7
  go_wp2_with fail
  refine (awake_any W).mono ?_
  rintro e w1 ⟨rfl, hB1⟩
  go_wp2_with fail
  refine (write_any x w1 hx0 hx1).mono ?_
  rintro e w2 ⟨a2, c2, rfl, hown2, hB2⟩
  have hbel2 := step_below hB1 hB2 (Nat.le_refl _)
  rw [← HV.out] at hown2
  rw [← HV.out]
  obtain ⟨g, cap, hgc, hg1, hg2⟩ := hown2.form (by omega)
  rw [hgc] at hown2
  cases hgc
  have hsz2 := hB2.size
  go_wp2_with (at_builtin; refine wpList_append_zeros _ rfl (.tmp 24) (.tmp 25) 22 3 rfl .u8 .i64 .i64 w1.heap.size 5 i0 Try.underlying22 Try.underlying3 hinf hzz0 hzz1 hzz2 g v c2 left (vform x) rfl rfl hown2 (by omega) hsz2 ?_)
  intro v3 w3 hown3s hgrow3
  have hown3 : w3.ownsRow w1.heap.size 5 1 v3 (v + left) (b.map (Value.int .u8)) := by rw [HB.out]; simpa using hown3s
  clear hown3s
  have hbel3 := hbel2.grown hgrow3 hbel2.size (fun k hk => by cases hk; have := hB1.size; omega)
  obtain ⟨a3, c3, rfl⟩ := own_shape hown3
  have hbk3 := own_block hown3
  have hsl3 := own_sl hown3
  clear hown2 hown3 hgrow3 hbel2 hB1 hB2 hsz2
  rw [← hbl] at hsl3
  rw [← hbl]
  have HBL := Lib.hid hbl
  clear hbl
  go_wp2_with fail
  refine (newReader_any w3 a3 c3 b hsl3 (by have := HBL.out; omega)).mono ?_
  rintro e w4 ⟨r, rfl, hr, hR4, hB4⟩
  have hbel4 := step_below hbel3 hB4 (Nat.le_refl _)
  have hsl4 := hsl3.below hB4
  have hWr : W.heap.size ≤ r := Nat.le_trans hbel3.size hr
  have hbk : ∀ p, a3 = some p → ¬ Only r p.block := fun p hp => Only.ne (by have := (hbk3 p hp).2; omega)
  have hHB := Lib.hid hbk
  clear hbel3 hB4 hsl3 hbk3 hr hbk
  go_wp2_with fail
  refine (count_any w4 r b 0 9223372036854775807 s (by omega) (by omega) hR4 hby).mono ?_
  intro e w5 hM
  by_cases hx : 9223372036854775807 < x
  · have hbx : decide (9223372036854775807 < x) = true := by simp; omega
    obtain ⟨rfl, hR5, hX5⟩ := hM.at (m := 0) (z := 0) (er := 21) (ct_most (by omega) (by omega) (HM.out _ hx)) 0 rfl
    have hbel5 := step_rd hbel4 hX5 hWr (Nat.le_refl _)
    clear hbel4 hX5 hR4 hM hsl4 hx HM HF
    go_wp2_with fail
    refine (at_rd w5 r b 0 hR5).mono ?_
    rintro e w6 ⟨rfl, hD6⟩
    have hbel6 := step_below hbel5 hD6.below (Nat.le_refl _)
    go_wp2_with fail
    go_ret
    exact ⟨rfl, hbel6⟩
  have hbx : decide (9223372036854775807 < x) = false := by simp; omega
  have hnb := HF.out 9223372036854775807 (Int.not_lt.1 hx)
  rw [hvs] at hnb
  have hnot : ¬ ((9223372036854775807 : Int) < 0 ∨ (s : Int) < 1) := by omega
  by_cases hq : (left : Int) < x * s
  · have hd : decide (IntKind.u64.wrap ((left : Int) / s) < x) = true := by simp only [decide_eq_true_eq]; exact (quo_lt (by omega) (by omega) (by omega)).2 hq
    obtain ⟨rfl, hR5, hX5⟩ := hM.at (m := 0) (z := 0) (er := 20) (ctR_end hnot hnb (by rw [show (b.length : Int) - ((0 : Nat) + v) = left by have := HBL.out; omega]; exact hq)) 0 rfl
    have hbel5 := step_rd hbel4 hX5 hWr (Nat.le_refl _)
    clear hbel4 hX5 hR4 hM hsl4 hx HM HF hq hnb
    go_wp2_with fail
    refine (at_rd w5 r b 0 hR5).mono ?_
    rintro e w6 ⟨rfl, hD6⟩
    have hbel6 := step_below hbel5 hD6.below (Nat.le_refl _)
    go_wp2_with fail
    go_ret
    exact ⟨rfl, hbel6⟩
  · have hd : decide (IntKind.u64.wrap ((left : Int) / s) < x) = false := by simp only [decide_eq_false_iff_not]; exact fun hh => hq ((quo_lt (by omega) (by omega) (by omega)).1 hh)
    obtain ⟨rfl, hR5, hX5⟩ := hM.at (m := v) (z := x) (er := 0) (ctR_ok hnot hnb (by rw [show (b.length : Int) - ((0 : Nat) + v) = left by have := HBL.out; omega]; exact hq)) v (by omega)
    have hbel5 := step_rd hbel4 hX5 hWr (Nat.le_refl _)
    have hsl5 := hsl4.bx hX5 hHB.out
    have hx2 : x ≤ 9223372036854775807 := by omega
    have hwx : wrap64 x = x := IntWalk.wrap64_in x ⟨by omega, by omega⟩
    have hq2 : x * s ≤ left := by omega
    have HQ := Lib.hid hq2
    have hLf : (b.length : Int) - (v : Int) = left := by have := HBL.out; omega
    clear hbel4 hX5 hR4 hM hsl4 hx hq hnb HF hq2
    go_wp2_with fail
    refine (left_rd w5 r b v hR5).mono ?_
    rintro e w' ⟨rfl, rfl⟩
    clear hwq hd hlf hw64 hs
    go_wp2_with fail
    go_loopw [80] (fun i wr => ∃ j p : Nat, i = .int .i64 j ∧ (j : Int) ≤ x ∧ Aside ((p : Int) = v + j * s) ∧ Rd wr r b p ∧ Sl .u8 wr a3 b.length c3 b ∧ Below W.heap.size W wr) (fun i _ => x.toNat - (intOf i).toNat)
    case atStart => exact ⟨0, v, rfl, by omega, by simp [Aside], hR5, hsl5, hbel5⟩
    case round =>
      obtain ⟨j, p, rfl, hj, HP, hR, hsl, hbel⟩ := hrel
      by_cases hlt : (j : Int) < x
      · have hm1 : ((j : Int) + 1) * s ≤ x * s := Int.mul_le_mul_of_nonneg_right (by omega) (by omega)
        rw [Int.add_mul, Int.one_mul] at hm1
        have hps : p + s ≤ b.length := by have h1 := HP.out; have h2 := HQ.out; have h3 := HBL.out; unfold Aside at h1; omega
        have HM1 := Lib.hid hm1
        clear hm1
        go_wp2_with fail
        refine (bytes_any wr r b p s hR).mono ?_
        intro e w6 hM
        obtain ⟨a6, c6, rfl, _, hR6, hX6⟩ := hM.at hps (p + s) rfl
        have hbel6 := step_rd hbel hX6 hWr (Nat.le_refl _)
        have hsl6 := hsl.bx hX6 hHB.out
        have hHP : Aside (((p + s : Nat) : Int) = v + ((j + 1 : Nat) : Int) * s) := by
          have h1 := HP.out
          unfold Aside at h1 ⊢
          rw [Int.natCast_add, Int.natCast_add j 1, Int.add_mul]
          simp only [Int.natCast_one, Int.one_mul]
          omega
        clear hX6 hbel hsl hR hM hps
        go_wp2_with fail
        go_roundw
        case rel => exact ⟨j + 1, p + s, by go_num, by omega, hHP, hR6, hsl6, hbel6⟩
        case measure => simp [intOf]; omega
      · have hjd : decide ((j : Int) < x) = false := by simp; omega
        have hbel0 := hbel
        clear hj HP hR HQ
        go_wp2_with fail
        refine (newReader_any wr a3 c3 b hsl (by have := HBL.out; omega)).mono ?_
        rintro e w7 ⟨r7, rfl, hr7, hR7, hB7⟩
        have hbel7 := step_below hbel hB7 (Nat.le_refl _)
        have hW7 : W.heap.size ≤ r7 := Nat.le_trans hbel.size hr7
        clear hbel hB7 hsl hr7 hlt hbel0
        go_wp2_with fail
        refine (count_any w7 r7 b 0 (x - 1) s (by omega) (by omega) hR7 hby).mono ?_
        intro e w8 hM
        by_cases hx00 : x = 0
        · obtain ⟨rfl, hR8, hX8⟩ := hM.at (m := 0) (z := 0) (er := 2) (ctR_arg (by omega)) 0 rfl
          have hbel8 := step_rd hbel7 hX8 hW7 (Nat.le_refl _)
          have hb0 : (x == 0) = true := by simp; exact hx00
          clear hM hX8 hbel7 hR7 HM hx00
          go_wp2_with fail
          go_ret
          exact ⟨rfl, hbel8⟩
        · obtain ⟨rfl, hR8, hX8⟩ := hM.at (m := 0) (z := 0) (er := 21) (ct_most (by omega) (by omega) (HM.out (x - 1) (by omega))) 0 rfl
          have hbel8 := step_rd hbel7 hX8 hW7 (Nat.le_refl _)
          have hb0 : (x == 0) = false := by simp; exact hx00
          have hb1 : decide (0 < x) = true := by simp; omega
          clear hM hX8 hbel7 hR7 HM hx00
          go_wp2_with fail
          refine (at_rd w8 r7 b 0 hR8).mono ?_
          rintro e w9 ⟨rfl, hD9⟩
          have hbel9 := step_below hbel8 hD9.below (Nat.le_refl _)
          go_wp2_with fail
          go_ret
          exact ⟨rfl, hbel9⟩
end Go.Proofs.Ytakpockkagfphaa
