/-
  The walk of the law VarintAll: for any numbers and any bytes it returns true; nothing that was there is changed.
-/
import Derived.Test.YteddbpcpllehoaaAwake
import Derived.Test.YteddbpcpllehoaaRra
import Derived.Test.YteddbpcpllehoaaLists
namespace Go.Proofs.Yteddbpcpllehoaa
open Go.RowKit Go.Shelf

theorem Fits.bytes'' {l : List Int} (h : Fits .u8 l) : Bytes l := fun c hc => bounds_u8 (h c hc)

set_option maxHeartbeats 2000000 in
theorem all_walk (w : World) (a1 : Option Addr) (len1 cap1 : Nat) (l1 : List Int) (a2 : Option Addr) (len2 cap2 : Nat) (l2 : List Int) (hs1 : Sl .u64 w a1 len1 cap1 l1) (hf1 : Fits .u64 l1) (hs2 : Sl .u8 w a2 len2 cap2 l2) (hf2 : Fits .u8 l2) :
    Calls Try.prog 8 #[.slice a1 len1 cap1, .slice a2 len2 cap2] w fun e w' => e = .returned (.bool true) ∧ Below w.heap.size w w' := by
  have hc1 := hs1.2.1
  have hm1 := hs1.2.2.1
  have hc2 := hs2.2.1
  have hm2 := hs2.2.2.1
  have hi10 : (0 : Int) ≤ min (len1 : Int) 200 := by omega
  have hi11 : min (len1 : Int) 200 ≤ (cap1 : Int) := by omega
  have hi20 : (0 : Int) ≤ min (len2 : Int) 400 := by omega
  have hi21 : min (len2 : Int) 400 ≤ (cap2 : Int) := by omega
  go_enter Try.func8, Try.ntmps8
  go_wp2_with fail
  refine (awake_any w).mono ?_
  rintro e w1 ⟨rfl, hB1⟩
  go_wp2_with fail
  go_quiet (fail)
  go_wp2_with fail
  have e1 : (min (len1 : Int) 200).toNat = min len1 200 := by omega
  have e2 : (min (len2 : Int) 400).toNat = min len2 400 := by omega
  rw [e1, e2]
  have hp1 := hs1.upto (min len1 200) (Nat.min_le_left _ _)
  have hp2 := hs2.upto (min len2 400) (Nat.min_le_left _ _)
  have hn1 := hf1.nums.take (min len1 200)
  have hn2 := hf2.bytes''.take (min len2 400)
  have hb1 : min len1 200 ≤ 200 := Nat.min_le_right _ _
  have hb2 : min len2 400 ≤ 400 := Nat.min_le_right _ _
  clear e1 e2 hi10 hi11 hi20 hi21 hs1 hs2 hf1 hf2 hc1 hc2
  generalize l1.take (min len1 200) = k1 at *
  generalize l2.take (min len2 400) = k2 at *
  generalize min len1 200 = m1 at *
  generalize min len2 400 = m2 at *
  have hB1' : Below w.heap.size w (w1.drewN nq) := below_drewN hB1 nq
  generalize w1.drewN nq = w2 at *
  have hq1 := hp1.below hB1'
  have hq2 := hp2.below hB1'
  clear hp1 hp2 hB1
  have hvall := vreads_all k1 hn1
  have hvl := vwall_length k1
  have hvs := vsizes_le hn1
  have hkl := hq1.1
  have hcc1 := hq1.2.1
  have HVA := Lib.hid hvall
  have HVL := Lib.hid hvl
  have HKL := Lib.hid hkl
  have hvb : vsizes k1 ≤ 2000 := by omega
  have hvwl : (vwall k1).length ≤ 2000 := by omega
  have hvsj : ∀ j, vsizes (k1.take j) ≤ 2000 := fun j => by
    have h1 := vsizes_le (hn1.take j)
    have h2 : (k1.take j).length ≤ k1.length := by simp; omega
    omega
  have HVSJ := Lib.hid hvsj
  clear hvall hvl hvs hkl hvsj
  refine (writeAll_any w2 a1 m1 cap1 k1 hq1 hn1 (by omega)).mono ?_
  rintro e w3 ⟨a3, c3, rfl, hown3, hB3⟩
  have hr3 := own_sl hown3
  have hq13 := hq1.below hB3
  have hq23 := hq2.below hB3
  have hBB3 := hB1'.trans (hB3.mono hB1'.size)
  clear hown3 hq1 hq2 hB1' hB3
  go_wp2_with fail
  refine (readAll_any w3 a3 _ c3 (vwall k1) hr3 (vwall_bytes hn1) (by omega)).mono ?_
  rw [HVA.out]
  rintro e w4 ⟨⟨a4, n4, c4, rfl, hs4⟩, hB4⟩
  have hq14 := hq13.below hB4
  have hq24 := hq23.below hB4
  have hBB4 := hBB3.trans (hB4.mono hBB3.size)
  clear hr3 hq13 hq23 hBB3 hB4
  go_wp2_with fail
  go_loop [8, 34] (fun s i => ∃ j : Nat, i = .int .i64 j ∧ j ≤ m1 ∧ s = .int .i64 (vsizes (k1.take j))) (fun _ i => m1 - (intOf i).toNat)
  case atStart => exact ⟨0, rfl, by omega, rfl⟩
  case round =>
    obtain ⟨j, rfl, hj, rfl⟩ := hrel
    by_cases hlt : j < m1
    · obtain ⟨b, off, rfl, hcell⟩ := hq14.idx hlt
      obtain ⟨x, hx⟩ : ∃ x, x = k1[j]?.getD 0 := ⟨_, rfl⟩
      have hxb := hn1.at j (by rw [HKL.out]; exact hlt)
      have hst := vsizes_step k1 j (by rw [HKL.out]; exact hlt)
      rw [← hx] at hcell hxb hst
      have hb3 := HVSJ.out j
      have hb4 : vsize x ≤ 10 := vsize_10 hxb.2
      have HST := Lib.hid hst
      clear hst hx
      go_wp2_with (go_at_call 17; refine (size_any x _ hxb.1 hxb.2).mono ?_; rintro e w' ⟨rfl, rfl⟩)
      go_round
      case rel => exact ⟨j + 1, by go_num, by omega, by rw [HST.out]; go_num⟩
      case measure => simp [intOf]; omega
    · obtain rfl : j = m1 := by omega
      have htk : k1.take j = k1 := List.take_of_length_le (by rw [HKL.out]; exact Nat.le_refl _)
      have hsz : (((vwall k1).length : Int) != ((vsizes (k1.take j) : Nat) : Int)) = false := by rw [htk, HVL.out]; simp
      clear htk
      go_wp2_with fail
      refine (sameNums_yes _ _ _ _ _ _ _ _ _ hs4 hq14 rfl).mono ?_
      rintro e w5 ⟨rfl, hD⟩
      have hq25 := hq24.below hD.below
      have hBB5 := hBB4.trans (hD.below.mono hBB4.size)
      clear hs4 hq14 hq24 hBB4 hD
      go_wp2_with fail
      have hri := vreads_inv k2.length k2 (Nat.le_refl _) hn2
      refine (readAll_any w5 a2 m2 cap2 k2 hq25 hn2 (by omega)).mono ?_
      rcases hri with ⟨h1, h2, h3, h4⟩ | ⟨h1, h2⟩
      · rw [h1]
        rintro e w6 ⟨⟨a6, n6, c6, rfl, hs6⟩, hB6⟩
        have hq26 := hq25.below hB6
        have hBB6 := hBB5.trans (hB6.mono hBB5.size)
        have hl2 := hq25.1
        have hn6 : n6 ≤ 1000000 := by have := hs6.1; omega
        have H2 := Lib.hid h2
        clear hq25 hBB5 hB6 h1 h2 hl2
        go_wp2_with fail
        refine (writeAll_any w6 a6 n6 c6 _ hs6 h3 hn6).mono ?_
        rintro e w7 ⟨a7, c7, rfl, hown7, hB7⟩
        have hr7 := own_sl hown7
        have hq27 := hq26.below hB7
        have hBB7 := hBB6.trans (hB7.mono hBB6.size)
        clear hown7 hq26 hBB6 hB7 hs6
        go_wp2_with fail
        refine (sameBytes_yes w7 _ _ _ _ _ _ _ _ hr7 hq27 H2.out).mono ?_
        rintro e w8 ⟨rfl, hD8⟩
        have hBB8 := hBB7.trans (hD8.below.mono hBB7.size)
        clear hr7 hq27 hBB7 hD8
        go_wp2_with fail
        go_ret
        exact ⟨rfl, hBB8⟩
      · rw [h1]
        rintro e w6 ⟨⟨a6, n6, c6, rfl, hs6⟩, hB6⟩
        have hBB6 := hBB5.trans (hB6.mono hBB5.size)
        obtain rfl : n6 = 0 := hs6.1.symm
        have hne : ((vreads k2).2 != 0) = true := by simp; omega
        clear hq25 hBB5 hB6 h1 h2 hs6
        go_wp2_with fail
        go_ret
        exact ⟨rfl, hBB6⟩
end Go.Proofs.Yteddbpcpllehoaa
