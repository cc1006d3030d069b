/-
  Two of the four walks of the law VarintWrong.
-/
import Derived.Test.YteddbpcpllehoaaWrong
namespace Go.Proofs.Yteddbpcpllehoaa
open Go.RowKit Go.Shelf
set_option linter.unusedVariables false

set_option maxHeartbeats 2000000 in
theorem wrong1 (w : World) (x : Int) (a : Option Addr) (len cap : Nat) (l : List Int) (way n : Int) (hx0 : 0 ≤ x) (hx1 : x ≤ 18446744073709551615) (hs : Sl .u64 w a len cap l) (hn : Nums l) (hw0 : 0 ≤ way) (hw1 : way ≤ 255) (hn0 : 0 ≤ n) (hn1 : n ≤ 255) (hway : way % 4 = 1) :
    Calls Try.prog 11 #[.int .u64 x, .slice a len cap, .int .u8 way, .int .u8 n] w fun e w' => e = .returned (.bool true) ∧ Below w.heap.size w w' := by
  obtain ⟨i0, hi, hz0, hz1, hz2⟩ := info_parts infoU8
  have hc1 := hs.2.1
  have hm1 := hs.2.2.1
  have hi10 : (0 : Int) ≤ min (len : Int) 20 := by omega
  have hi11 : min (len : Int) 20 ≤ (cap : Int) := by omega
  have hfp := vform_pos x
  have hf10 : (vform x).length ≤ 10 := vsize_10 hx1
  have hq0 : (way % 4 == 0) = false := by simp; omega
  have hq1 : (way % 4 == 1) = true := by simp; omega
  have HH := Lib.hid (hiL_high (vform x) (vform_bytes x hx0))
  have HLN := Lib.hid (hiL_length (vform x) (vform x).length (Nat.le_refl _))
  clear hway
  go_enter Try.func11, Try.ntmps11
  go_wp2_with fail
  refine (awake_any w).mono ?_
  rintro e w1 ⟨rfl, hB1⟩
  go_wp2_with fail
  refine (write_any x w1 hx0 hx1).mono ?_
  rintro e w2 ⟨a2, c2, rfl, hown2, hB2⟩
  have hBB2 := hB1.trans (hB2.mono hB1.size)
  have hs1 := hs.below hB1
  have hs2 := hs1.below hB2
  have hs2lt := hs1.lt
  have hw1sz := hB1.size
  clear hs hs1 hB1 hB2
  obtain ⟨g, rfl, hg⟩ := own_some hown2 (by omega)
  go_wp2_with fail
  go_loopw [47] (fun i wr => ∃ j : Nat, i = .int .i64 j ∧ j ≤ (vform x).length ∧ wr.ownsRow w1.heap.size 5 1 (.slice (some ⟨g, 0, none⟩) (vform x).length c2) (vform x).length ((hiL (vform x) j).map (Value.int .u8)) ∧ Below w1.heap.size w2 wr) (fun i _ => (vform x).length - (intOf i).toNat)
  case atStart => exact ⟨0, rfl, by omega, by rw [hiL_zero]; exact hown2, Below.refl _ _⟩
  case round =>
    obtain ⟨j, rfl, hj, hownj, hBj⟩ := hrel
    by_cases hlt : j < (vform x).length
    · have hjI : (j : Int) < ((vform x).length : Int) := by omega
      have hcell := hownj.cellAt j (by omega)
      have hfr := hownj.frozenAt j
      have hln := hiL_length (vform x) j hj
      have hat := hiL_at (vform x) j hlt
      rw [List.getElem?_map, List.getElem?_eq_getElem (by omega : j < (hiL (vform x) j).length)] at hcell
      rw [List.getElem?_eq_getElem (by omega : j < (hiL (vform x) j).length)] at hat
      simp only [Option.map_some, Option.getD_some] at hcell hat
      rw [hat] at hcell
      obtain ⟨p, hp⟩ : ∃ p, p = (vform x)[j]?.getD 0 := ⟨_, rfl⟩
      have hst := (hownj.stored j (.int .u8 (bits .or .u8 p 128))).1
      have hb3 : Below w1.heap.size w2 (wr.setCell ⟨g, j, none⟩ (.int .u8 (bits .or .u8 p 128))) := hBj.setCell (p := ⟨g, j, none⟩) hg _
      have hset := hiL_step (vform x) j hlt
      rw [← hp] at hcell hset
      have HST := Lib.hid hst
      have HSET := Lib.hid hset
      clear hst hset hp hat hln hownj hBj hown2
      go_wp2_with fail
      go_roundw
      case rel => exact ⟨j + 1, by go_num, by omega, by rw [← HSET.out, List.map_set]; exact HST.out, hb3⟩
      case measure => simp [intOf]; omega
    · obtain rfl : j = (vform x).length := by omega
      have hsF := own_sl hownj
      have hs3 : Sl .u64 wr a len cap l := hs2.below' hs2lt hBj
      have hBF : Below w.heap.size w wr := hBB2.trans (hBj.mono hw1sz)
      have hsl := hs3
      clear hs2 hBB2 hown2 hownj hBj hs3 hs2lt
      by_cases h10 : (vform x).length = 10
      · have h10b : (((vform x).length : Int) == 10) = true := by simp; omega
        have hvr : vread (hiL (vform x) (vform x).length) = (0, 0, 11) := vread_high10 HH.out.1 (by rw [HLN.out]; exact h10)
        have HVF := Lib.hid hvr
        have HRF := Lib.hid (readRes_eq' hvr)
        have HBY := Lib.hid HH.out.2
        have HNE : Hid (hiL (vform x) (vform x).length ≠ []) := Lib.hid (fun h => by have := congrArg List.length h; rw [HLN.out, List.length_nil] at this; omega)
        clear hvr h10
        obtain ⟨fb, hfb⟩ : ∃ fb, fb = hiL (vform x) (vform x).length := ⟨_, rfl⟩
        rw [← hfb] at HVF HRF HBY HNE hsF
        clear hfb HH HLN
        go_wp2_with fail
        refine (read_any _ _ _ fb _ hsF HBY.out).mono ?_
        rw [HRF.out]
        rintro e wr1 ⟨rfl, hBr1⟩
        have hsF1 := hsF.below hBr1
        have hsl1 := hsl.below hBr1
        have hBF1 := hBF.trans (hBr1.mono hBF.size)
        clear hsF hsl hBF hBr1
        go_wp2_with fail
        have e20 : (min (len : Int) 20).toNat = min len 20 := by omega
        rw [e20]
        have hp := hsl1.upto (min len 20) (Nat.min_le_left _ _)
        have hnk := hn.take (min len 20)
        have hm20 : min len 20 ≤ 20 := Nat.min_le_right _ _
        clear e20 hsl1 hi10 hi11
        generalize l.take (min len 20) = k at *
        generalize min len 20 = m at *
        have hvl : (vwall k).length ≤ 200 := by
          have h1 := vwall_length k
          have h2 := vsizes_le hnk
          have h3 := hp.1
          omega
        have HVR := Lib.hid (vreads_wrong k fb hnk HBY.out HNE.out (by rw [HVF.out]; decide))
        have HB2 := Lib.hid ((vwall_bytes hnk).append HBY.out)
        refine (writeAll_any wr1 a m cap k hp hnk (by omega)).mono ?_
        rintro e wr2 ⟨a5, c5, rfl, hown5, hB5⟩
        have hsF2 := hsF1.below hB5
        have hwr1 := hBF1.size
        have hBF2 := hBF1.trans (hB5.mono hBF1.size)
        have hsz2 := hB5.size
        clear hsF1 hBF1 hB5 hp
        go_wp2_with (at_builtin; refine wpList_append_onsl _ rfl (.tmp 88) (.tmp 89) 25 rfl .u8 wr1.heap.size 5 i0 1 Try.underlying25 hi hz0 hz1 hz2 _ (vwall k) _ _ _ fb rfl rfl hown5 hsF2 (by unfold maxLen; omega) (by omega) hsz2 ?_)
        intro v6 wr3 hown6 hgrow6
        have hBF3 := hBF2.grown hgrow6 hBF2.size (fun g hg => Nat.le_trans hwr1 (hown5.lt g hg).1)
        have hown6' : wr3.ownsRow wr1.heap.size 5 1 v6 ((vwall k).length + fb.length) ((vwall k ++ fb).map (Value.int .u8)) := by simpa using hown6
        obtain ⟨a6, c6, rfl⟩ := own_shape hown6'
        have hr6 := own_sl hown6'
        have hl6 : (vwall k).length + fb.length ≤ 1000000 := by have := hsF2.1; omega
        clear hown6 hown6' hgrow6 hown5 hsF2 hBF2
        go_wp2_with fail
        refine (readAll_any wr3 a6 _ c6 _ hr6 HB2.out hl6).mono ?_
        rw [HVR.out, HVF.out]
        rintro e wr4 ⟨⟨a7, n7, c7, rfl, hs7⟩, hB7⟩
        obtain rfl : n7 = 0 := hs7.1.symm
        have hBF4 := hBF3.trans (hB7.mono hBF3.size)
        clear hs7 hB7 hBF3 hr6
        go_wp2_with fail
        go_ret
        exact ⟨rfl, hBF4⟩
      · have h10b : (((vform x).length : Int) == 10) = false := by simp; omega
        have hvr : vread (hiL (vform x) (vform x).length) = (0, 0, 10) := vread_high HH.out.1 (by rw [HLN.out]; omega)
        have HVF := Lib.hid hvr
        have HRF := Lib.hid (readRes_eq' hvr)
        have HBY := Lib.hid HH.out.2
        have HNE : Hid (hiL (vform x) (vform x).length ≠ []) := Lib.hid (fun h => by have := congrArg List.length h; rw [HLN.out, List.length_nil] at this; omega)
        clear hvr h10
        obtain ⟨fb, hfb⟩ : ∃ fb, fb = hiL (vform x) (vform x).length := ⟨_, rfl⟩
        rw [← hfb] at HVF HRF HBY HNE hsF
        clear hfb HH HLN
        go_wp2_with fail
        refine (read_any _ _ _ fb _ hsF HBY.out).mono ?_
        rw [HRF.out]
        rintro e wr1 ⟨rfl, hBr1⟩
        have hsF1 := hsF.below hBr1
        have hsl1 := hsl.below hBr1
        have hBF1 := hBF.trans (hBr1.mono hBF.size)
        clear hsF hsl hBF hBr1
        go_wp2_with fail
        have e20 : (min (len : Int) 20).toNat = min len 20 := by omega
        rw [e20]
        have hp := hsl1.upto (min len 20) (Nat.min_le_left _ _)
        have hnk := hn.take (min len 20)
        have hm20 : min len 20 ≤ 20 := Nat.min_le_right _ _
        clear e20 hsl1 hi10 hi11
        generalize l.take (min len 20) = k at *
        generalize min len 20 = m at *
        have hvl : (vwall k).length ≤ 200 := by
          have h1 := vwall_length k
          have h2 := vsizes_le hnk
          have h3 := hp.1
          omega
        have HVR := Lib.hid (vreads_wrong k fb hnk HBY.out HNE.out (by rw [HVF.out]; decide))
        have HB2 := Lib.hid ((vwall_bytes hnk).append HBY.out)
        refine (writeAll_any wr1 a m cap k hp hnk (by omega)).mono ?_
        rintro e wr2 ⟨a5, c5, rfl, hown5, hB5⟩
        have hsF2 := hsF1.below hB5
        have hwr1 := hBF1.size
        have hBF2 := hBF1.trans (hB5.mono hBF1.size)
        have hsz2 := hB5.size
        clear hsF1 hBF1 hB5 hp
        go_wp2_with (at_builtin; refine wpList_append_onsl _ rfl (.tmp 88) (.tmp 89) 25 rfl .u8 wr1.heap.size 5 i0 1 Try.underlying25 hi hz0 hz1 hz2 _ (vwall k) _ _ _ fb rfl rfl hown5 hsF2 (by unfold maxLen; omega) (by omega) hsz2 ?_)
        intro v6 wr3 hown6 hgrow6
        have hBF3 := hBF2.grown hgrow6 hBF2.size (fun g hg => Nat.le_trans hwr1 (hown5.lt g hg).1)
        have hown6' : wr3.ownsRow wr1.heap.size 5 1 v6 ((vwall k).length + fb.length) ((vwall k ++ fb).map (Value.int .u8)) := by simpa using hown6
        obtain ⟨a6, c6, rfl⟩ := own_shape hown6'
        have hr6 := own_sl hown6'
        have hl6 : (vwall k).length + fb.length ≤ 1000000 := by have := hsF2.1; omega
        clear hown6 hown6' hgrow6 hown5 hsF2 hBF2
        go_wp2_with fail
        refine (readAll_any wr3 a6 _ c6 _ hr6 HB2.out hl6).mono ?_
        rw [HVR.out, HVF.out]
        rintro e wr4 ⟨⟨a7, n7, c7, rfl, hs7⟩, hB7⟩
        obtain rfl : n7 = 0 := hs7.1.symm
        have hBF4 := hBF3.trans (hB7.mono hBF3.size)
        clear hs7 hB7 hBF3 hr6
        go_wp2_with fail
        go_ret
        exact ⟨rfl, hBF4⟩
end Go.Proofs.Yteddbpcpllehoaa
