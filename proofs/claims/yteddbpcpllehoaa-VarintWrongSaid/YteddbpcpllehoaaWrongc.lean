/-
  The walk of the law VarintWrong: for any number, any numbers before, and each of the four defects it returns true; nothing that was there is changed.
-/
import Derived.Test.YteddbpcpllehoaaWrongb
namespace Go.Proofs.Yteddbpcpllehoaa
open Go.RowKit Go.Shelf
set_option linter.unusedVariables false

set_option maxHeartbeats 2000000 in
theorem wrong3 (w : World) (x : Int) (a : Option Addr) (len cap : Nat) (l : List Int) (way n : Int) (hx0 : 0 ≤ x) (hx1 : x ≤ 18446744073709551615) (hs : Sl .u64 w a len cap l) (hn : Nums l) (hw0 : 0 ≤ way) (hw1 : way ≤ 255) (hn0 : 0 ≤ n) (hn1 : n ≤ 255) (hway : way % 4 = 3) :
    Calls Try.prog 11 #[.int .u64 x, .slice a len cap, .int .u8 way, .int .u8 n] w fun e w' => e = .returned (.bool true) ∧ Below w.heap.size w w' := by
  obtain ⟨i0, hi, hz0, hz1, hz2⟩ := info_parts infoU8
  have hc1 := hs.2.1
  have hm1 := hs.2.2.1
  have hi10 : (0 : Int) ≤ min (len : Int) 20 := by omega
  have hi11 : min (len : Int) 20 ≤ (cap : Int) := by omega
  have hfp := vform_pos x
  have hf10 : (vform x).length ≤ 10 := vsize_10 hx1
  have hq0 : (way % 4 == 0) = false := by simp; omega
  have hq1 : (way % 4 == 1) = false := by simp; omega
  have hq2 : (way % 4 == 2) = false := by simp; omega
  have ho := or128' n hn0 hn1
  obtain ⟨v, hv⟩ : ∃ v, v = bits .or .u8 128 n := ⟨_, rfl⟩
  obtain ⟨u, hu⟩ : ∃ u, u = max n 2 := ⟨_, rfl⟩
  rw [← hv] at ho
  have hub : 2 ≤ u ∧ u ≤ 255 := by omega
  have hvr : vread [v, 255, 128, 128, 255, 129, 128, 128, 200, u] = (0, 0, 11) := vread_over (l := [v, 255, 128, 128, 255, 129, 128, 128, 200]) (fun c hc => by simp at hc; omega) rfl (by omega)
  have hby : Bytes [v, 255, 128, 128, 255, 129, 128, 128, 200, u] := fun c hc => by simp at hc; omega
  have HVF := Lib.hid hvr
  have HRF := Lib.hid (readRes_eq' hvr)
  have HBY := Lib.hid hby
  have HNE : Hid ([v, 255, 128, 128, 255, 129, 128, 128, 200, u] ≠ []) := Lib.hid (by simp)
  rw [eq_comm] at hv hu
  clear hvr hby
  go_enter Try.func11, Try.ntmps11
  go_wp2_with fail
  refine (awake_any w).mono ?_
  rintro e w1 ⟨rfl, hB1⟩
  go_wp2_with fail
  refine (write_any x w1 hx0 hx1).mono ?_
  rintro e w2 ⟨a2, c2, rfl, hown2, hB2⟩
  have hBB2 := hB1.trans (hB2.mono hB1.size)
  have hs2 := (hs.below hB1).below hB2
  clear hs hB1 hB2
  have hblk := (Blk.new .u8 5 w2 [v, 255, 128, 128, 255, 129, 128, 128, 200, u]).sl (by simp)
  have hsl := hs2.below ((Below.refl w2.heap.size w2).alloc (Nat.le_refl _) (.cells (([v, 255, 128, 128, 255, 129, 128, 128, 200, u] : List Int).map (Value.int .u8)).toArray 5))
  have hBF := hBB2.alloc hBB2.size (.cells (([v, 255, 128, 128, 255, 129, 128, 128, 200, u] : List Int).map (Value.int .u8)).toArray 5)
  clear hs2 hBB2 hown2
  have hsF : Sl .u8 _ (some ⟨w2.heap.size, 0, none⟩) 10 10 [v, 255, 128, 128, 255, 129, 128, 128, 200, u] := hblk
  clear hblk
  generalize hwF : w2.alloc (.cells (([v, 255, 128, 128, 255, 129, 128, 128, 200, u] : List Int).map (Value.int .u8)).toArray 5) = wF at hsF hsl hBF
  generalize [v, 255, 128, 128, 255, 129, 128, 128, 200, u] = fb at HVF HRF HBY HNE hsF
  subst hwF
  go_wp2_with fail
  refine (read_any _ _ _ fb _ hsF HBY.out).mono ?_
  rw [HRF.out]
  rintro e wr1 ⟨rfl, hBr1⟩
  have hsF1 := hsF.below hBr1
  have hsl1 := hsl.below hBr1
  have hBF1 := hBF.trans (hBr1.mono hBF.size)
  clear hsF hsl hBF hBr1
  go_wp2_with fail
  have e20 : (min (len : Int) 20).toNat = min len 20 := by omega
  rw [e20]
  have hp := hsl1.upto (min len 20) (Nat.min_le_left _ _)
  have hnk := hn.take (min len 20)
  have hm20 : min len 20 ≤ 20 := Nat.min_le_right _ _
  clear e20 hsl1 hi10 hi11
  generalize l.take (min len 20) = k at *
  generalize min len 20 = m at *
  have hvl : (vwall k).length ≤ 200 := by
    have h1 := vwall_length k
    have h2 := vsizes_le hnk
    have h3 := hp.1
    omega
  have HVR := Lib.hid (vreads_wrong k fb hnk HBY.out HNE.out (by rw [HVF.out]; decide))
  have HB2 := Lib.hid ((vwall_bytes hnk).append HBY.out)
  refine (writeAll_any wr1 a m cap k hp hnk (by omega)).mono ?_
  rintro e wr2 ⟨a5, c5, rfl, hown5, hB5⟩
  have hsF2 := hsF1.below hB5
  have hwr1 := hBF1.size
  have hBF2 := hBF1.trans (hB5.mono hBF1.size)
  have hsz2 := hB5.size
  clear hsF1 hBF1 hB5 hp
  go_wp2_with (at_builtin; refine wpList_append_onsl _ rfl (.tmp 88) (.tmp 89) 25 rfl .u8 wr1.heap.size 5 i0 1 Try.underlying25 hi hz0 hz1 hz2 _ (vwall k) _ _ _ fb rfl rfl hown5 hsF2 (by unfold maxLen; omega) (by omega) hsz2 ?_)
  intro v6 wr3 hown6 hgrow6
  have hBF3 := hBF2.grown hgrow6 hBF2.size (fun g hg => Nat.le_trans hwr1 (hown5.lt g hg).1)
  have hown6' : wr3.ownsRow wr1.heap.size 5 1 v6 ((vwall k).length + fb.length) ((vwall k ++ fb).map (Value.int .u8)) := by simpa using hown6
  obtain ⟨a6, c6, rfl⟩ := own_shape hown6'
  have hr6 := own_sl hown6'
  have hl6 : (vwall k).length + fb.length ≤ 1000000 := by have := hsF2.1; omega
  clear hown6 hown6' hgrow6 hown5 hsF2 hBF2
  go_wp2_with fail
  refine (readAll_any wr3 a6 _ c6 _ hr6 HB2.out hl6).mono ?_
  rw [HVR.out, HVF.out]
  rintro e wr4 ⟨⟨a7, n7, c7, rfl, hs7⟩, hB7⟩
  obtain rfl : n7 = 0 := hs7.1.symm
  have hBF4 := hBF3.trans (hB7.mono hBF3.size)
  clear hs7 hB7 hBF3 hr6
  go_wp2_with fail
  go_ret
  exact ⟨rfl, hBF4⟩

set_option maxHeartbeats 2000000 in
theorem wrong2 (w : World) (x : Int) (a : Option Addr) (len cap : Nat) (l : List Int) (way n : Int) (hx0 : 0 ≤ x) (hx1 : x ≤ 18446744073709551615) (hs : Sl .u64 w a len cap l) (hn : Nums l) (hw0 : 0 ≤ way) (hw1 : way ≤ 255) (hn0 : 0 ≤ n) (hn1 : n ≤ 255) (hway : way % 4 = 2) :
    Calls Try.prog 11 #[.int .u64 x, .slice a len cap, .int .u8 way, .int .u8 n] w fun e w' => e = .returned (.bool true) ∧ Below w.heap.size w w' := by
  obtain ⟨i0, hi, hz0, hz1, hz2⟩ := info_parts infoU8
  have hc1 := hs.2.1
  have hm1 := hs.2.2.1
  have hi10 : (0 : Int) ≤ min (len : Int) 20 := by omega
  have hi11 : min (len : Int) 20 ≤ (cap : Int) := by omega
  have hfp := vform_pos x
  have hf10 : (vform x).length ≤ 10 := vsize_10 hx1
  have hq0 : (way % 4 == 0) = false := by simp; omega
  have hq1 : (way % 4 == 1) = false := by simp; omega
  have hq2 : (way % 4 == 2) = true := by simp; omega
  have HLH := Lib.hid (last_high x hx0)
  have hLm : ((vform x).length : Int) - 1 = (((vform x).length - 1 : Nat) : Int) := by omega
  clear hway
  go_enter Try.func11, Try.ntmps11
  go_wp2_with fail
  refine (awake_any w).mono ?_
  rintro e w1 ⟨rfl, hB1⟩
  go_wp2_with fail
  refine (write_any x w1 hx0 hx1).mono ?_
  rintro e w2 ⟨a2, c2, rfl, hown2, hB2⟩
  have hBB2 := hB1.trans (hB2.mono hB1.size)
  have hs1 := hs.below hB1
  have hs2 := hs1.below hB2
  have hs2lt := hs1.lt
  have hw1sz := hB1.size
  have hw12 := hB2.size
  clear hs hs1 hB1 hB2
  obtain ⟨g, rfl, hg⟩ := own_some hown2 (by omega)
  obtain ⟨j, hjd⟩ : ∃ j, j = (vform x).length - 1 := ⟨_, rfl⟩
  rw [← hjd] at hLm
  rw [← hjd] at HLH
  have hcell := hown2.cellAt j (by omega)
  have hfr := hown2.frozenAt j
  rw [List.getElem?_map, List.getElem?_eq_getElem (by omega : j < (vform x).length)] at hcell
  obtain ⟨p, hp⟩ : ∃ p, p = (vform x)[j]?.getD 0 := ⟨_, rfl⟩
  rw [← hp] at HLH
  have hp2 := hp
  rw [List.getElem?_eq_getElem (by omega : j < (vform x).length)] at hp2
  simp only [Option.map_some, Option.getD_some] at hcell hp2
  rw [← hp2] at hcell
  have hst := (hown2.stored j (.int .u8 (bits .or .u8 p 128))).1
  have hb3 : Below w1.heap.size w2 (w2.setCell ⟨g, j, none⟩ (.int .u8 (bits .or .u8 p 128))) := (Below.refl _ _).setCell (p := ⟨g, j, none⟩) hg _
  have hjI : (j : Int) < ((vform x).length : Int) := by omega
  have HST := Lib.hid hst
  have HJD := Lib.hid hjd
  clear hst hp hp2 hjd hown2
  by_cases h10 : (vform x).length = 10
  · have h10b : (((vform x).length : Int) == 10) = true := by simp; omega
    clear h10
    go_wp2_with fail
    go_ret
    exact ⟨rfl, hBB2.trans (hb3.mono hw1sz)⟩
  · have h10b : (((vform x).length : Int) == 10) = false := by simp; omega
    have h9 : (vform x).length ≤ 9 := by omega
    clear h10
    have hszS : (w2.setCell ⟨g, j, none⟩ (.int .u8 (bits .or .u8 p 128))).heap.size = w2.heap.size := by simp [World.setCell]
    have hone := one_cell (w2.setCell ⟨g, j, none⟩ (.int .u8 (bits .or .u8 p 128))) .u8 0 5
    rw [hszS] at hone
    have hownS := HST.out
    rw [← List.map_set] at hownS
    have HZ := Lib.hid (vread_zero HLH.out.1 (by simp; exact h9) (by simp; omega))
    have HZB : Hid (Bytes ((vform x).set j (bits .or .u8 p 128) ++ [0])) := Lib.hid (Bytes.append HLH.out.2 (fun c hc => by simp at hc; omega))
    have hsl0 : ((vform x).set j (bits .or .u8 p 128)).length = (vform x).length := by simp
    obtain ⟨xs, hxs⟩ : ∃ xs, xs = (vform x).set j (bits .or .u8 p 128) := ⟨_, rfl⟩
    rw [← hxs] at hownS HZ HZB hsl0
    have HS0 := Lib.hid hsl0
    have hw1w2 : w1.heap.size ≤ w2.heap.size := hw12
    clear hxs hsl0 HST
    go_wp2_with (at_builtin; refine wpList_append_own _ rfl (.tmp 73) (.tmp 74) 25 rfl w1.heap.size 5 i0 (.int .u8 0) 1 1 Try.underlying25 hi hz0 hz1 hz2 rfl (by decide) _ (vform x).length (xs.map (Value.int .u8)) rfl (hownS.alloc _) ⟨w2.heap.size, 0, none⟩ 1 1 [.int .u8 0] rfl rfl ?e1 ?e2 ?e3 ?e4 ?e5 ?_)
    case e1 => exact hone
    case e2 => first | rfl | exact one_one _ _
    case e3 => unfold maxLen; omega
    case e4 => omega
    case e5 => first | omega | (simp; omega)
    intro v4 w4 hown4 hgrow4 _
    have hb4 : Below w1.heap.size w2 w4 := (hb3.alloc (by rw [hszS]; exact hw1w2) _).grown hgrow4 (by simp; omega) (fun k hk => (hownS.lt k hk).1)
    have hs3 : Sl .u64 w4 a len cap l := hs2.below' hs2lt hb4
    have hBF : Below w.heap.size w w4 := hBB2.trans (hb4.mono hw1sz)
    have hown4' : w4.ownsRow w1.heap.size 5 1 v4 ((vform x).length + 1) ((xs ++ [0]).map (Value.int .u8)) := by simpa using hown4
    obtain ⟨a4, c4, rfl⟩ := own_shape hown4'
    have hsF := own_sl hown4'
    have hsl := hs3
    have HVF := HZ
    have HRF := Lib.hid (readRes_eq' HZ.out)
    have HBY := HZB
    have HNE : Hid (xs ++ [0] ≠ []) := Lib.hid (by simp)
    clear hown4 hown4' hgrow4 hb4 hs3 hs2 hs2lt hBB2 hb3 hownS hone hcell hfr hszS HLH HZ HZB
    obtain ⟨fb, hfb⟩ : ∃ fb, fb = xs ++ [0] := ⟨_, rfl⟩
    rw [← hfb] at HVF HRF HBY HNE hsF
    clear hfb HS0
    go_wp2_with fail
    refine (read_any _ _ _ fb _ hsF HBY.out).mono ?_
    rw [HRF.out]
    rintro e wr1 ⟨rfl, hBr1⟩
    have hsF1 := hsF.below hBr1
    have hsl1 := hsl.below hBr1
    have hBF1 := hBF.trans (hBr1.mono hBF.size)
    clear hsF hsl hBF hBr1
    go_wp2_with fail
    have e20 : (min (len : Int) 20).toNat = min len 20 := by omega
    rw [e20]
    have hp := hsl1.upto (min len 20) (Nat.min_le_left _ _)
    have hnk := hn.take (min len 20)
    have hm20 : min len 20 ≤ 20 := Nat.min_le_right _ _
    clear e20 hsl1 hi10 hi11
    generalize l.take (min len 20) = k at *
    generalize min len 20 = m at *
    have hvl : (vwall k).length ≤ 200 := by
      have h1 := vwall_length k
      have h2 := vsizes_le hnk
      have h3 := hp.1
      omega
    have HVR := Lib.hid (vreads_wrong k fb hnk HBY.out HNE.out (by rw [HVF.out]; decide))
    have HB2 := Lib.hid ((vwall_bytes hnk).append HBY.out)
    refine (writeAll_any wr1 a m cap k hp hnk (by omega)).mono ?_
    rintro e wr2 ⟨a5, c5, rfl, hown5, hB5⟩
    have hsF2 := hsF1.below hB5
    have hwr1 := hBF1.size
    have hBF2 := hBF1.trans (hB5.mono hBF1.size)
    have hsz2 := hB5.size
    clear hsF1 hBF1 hB5 hp
    go_wp2_with (at_builtin; refine wpList_append_onsl _ rfl (.tmp 88) (.tmp 89) 25 rfl .u8 wr1.heap.size 5 i0 1 Try.underlying25 hi hz0 hz1 hz2 _ (vwall k) _ _ _ fb rfl rfl hown5 hsF2 (by unfold maxLen; omega) (by omega) hsz2 ?_)
    intro v6 wr3 hown6 hgrow6
    have hBF3 := hBF2.grown hgrow6 hBF2.size (fun g hg => Nat.le_trans hwr1 (hown5.lt g hg).1)
    have hown6' : wr3.ownsRow wr1.heap.size 5 1 v6 ((vwall k).length + fb.length) ((vwall k ++ fb).map (Value.int .u8)) := by simpa using hown6
    obtain ⟨a6, c6, rfl⟩ := own_shape hown6'
    have hr6 := own_sl hown6'
    have hl6 : (vwall k).length + fb.length ≤ 1000000 := by have := hsF2.1; omega
    clear hown6 hown6' hgrow6 hown5 hsF2 hBF2
    go_wp2_with fail
    refine (readAll_any wr3 a6 _ c6 _ hr6 HB2.out hl6).mono ?_
    rw [HVR.out, HVF.out]
    rintro e wr4 ⟨⟨a7, n7, c7, rfl, hs7⟩, hB7⟩
    obtain rfl : n7 = 0 := hs7.1.symm
    have hBF4 := hBF3.trans (hB7.mono hBF3.size)
    clear hs7 hB7 hBF3 hr6
    go_wp2_with fail
    go_ret
    exact ⟨rfl, hBF4⟩

theorem wrong_walk (w : World) (x : Int) (a : Option Addr) (len cap : Nat) (l : List Int) (way n : Int) (wx : (Lit.int .u64 x).wf = true) (hs : Sl .u64 w a len cap l) (hf : Fits .u64 l) (ww : (Lit.int .u8 way).wf = true) (wn : (Lit.int .u8 n).wf = true) :
    Calls Try.prog 11 #[.int .u64 x, .slice a len cap, .int .u8 way, .int .u8 n] w fun e w' => e = .returned (.bool true) ∧ Below w.heap.size w w' := by
  obtain ⟨hx0, hx1⟩ := bounds_u64 wx
  obtain ⟨hw0, hw1⟩ := bounds_u8 ww
  obtain ⟨hn0, hn1⟩ := bounds_u8 wn
  rcases (show way % 4 = 0 ∨ way % 4 = 1 ∨ way % 4 = 2 ∨ way % 4 = 3 from by omega) with h | h | h | h
  · exact wrong0 w x a len cap l way n hx0 hx1 hs hf.nums hw0 hw1 hn0 hn1 h
  · exact wrong1 w x a len cap l way n hx0 hx1 hs hf.nums hw0 hw1 hn0 hn1 h
  · exact wrong2 w x a len cap l way n hx0 hx1 hs hf.nums hw0 hw1 hn0 hn1 h
  · exact wrong3 w x a len cap l way n hx0 hx1 hs hf.nums hw0 hw1 hn0 hn1 h
end Go.Proofs.Yteddbpcpllehoaa
