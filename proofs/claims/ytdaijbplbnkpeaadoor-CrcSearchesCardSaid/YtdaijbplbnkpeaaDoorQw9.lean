/-
  The walk of CrcFinds.
-/
import Derived.Test.YtdaijbplbnkpeaaDoorFne
import Derived.Test.YtdaijbplbnkpeaaDoorQw8
namespace Go.Proofs.YtdaijbplbnkpeaaDoor
open Go.RowKit Go.Shelf

theorem find_any (a : Option Addr) (n cap : Nat) (l : List Int) (w : World) (hT : Tab w) (hS : Sl .u8 w a n cap l) (hB : Bys l) (h4 : 4 ≤ n) (hn65 : n ≤ 65536) :
    Calls Tryd.prog 20 #[.slice a n cap] w fun e w' => ((∃ k : Nat, k < 8 * n ∧ prt n k = chg l ∧ (∀ j, j < k → prt n j ≠ chg l) ∧ e = .returned (.tuple #[.int .i64 (k : Int), .int .i64 0])) ∨ ((∀ k, k < 8 * n → prt n k ≠ chg l) ∧ e = .returned (.tuple #[.int .i64 0, .int .i64 6]))) ∧ Below w.heap.size w w' :=
  callsIn_wide.1 (find_in a n cap l w hT hS hB h4 hn65)

theorem find_none (a : Option Addr) (n cap : Nat) (l : List Int) (w : World) (hT : Tab w) (hS : Sl .u8 w a n cap l) (hB : Bys l) (h4 : 4 ≤ n) (hn65 : n ≤ 65536) (hno : ∀ k, k < 8 * n → prt n k ≠ chg l) :
    Calls Tryd.prog 20 #[.slice a n cap] w fun e w' => e = .returned (.tuple #[.int .i64 0, .int .i64 6]) ∧ Below w.heap.size w w' := by
  refine (find_any a n cap l w hT hS hB h4 hn65).mono ?_
  rintro e w' ⟨⟨k, hk, he, _⟩ | ⟨_, rfl⟩, hb⟩
  · exact (hno k hk he).elim
  · exact ⟨rfl, hb⟩
theorem find_one (a : Option Addr) (n cap : Nat) (l : List Int) (w : World) (hT : Tab w) (hS : Sl .u8 w a n cap l) (hB : Bys l) (h4 : 4 ≤ n) (hn65 : n ≤ 65536) (k : Nat) (hk : k < 8 * n) (he : prt n k = chg l) (hlt : ∀ j, j < k → prt n j ≠ chg l) :
    Calls Tryd.prog 20 #[.slice a n cap] w fun e w' => e = .returned (.tuple #[.int .i64 (k : Int), .int .i64 0]) ∧ Below w.heap.size w w' := by
  refine (find_any a n cap l w hT hS hB h4 hn65).mono ?_
  rintro e w' ⟨⟨j, hj, hje, hjl, rfl⟩ | ⟨hno, rfl⟩, hb⟩
  · obtain rfl : j = k := by
      rcases Nat.lt_trichotomy j k with h | h | h
      · exact (hlt j h hje).elim
      · exact h
      · exact (hjl k h he).elim
    exact ⟨rfl, hb⟩
  · exact (hno k hk he).elim

theorem own_drewN {w : World} {base : Nat} {e : TypeId} {size : Nat} {v : Value} {n : Nat} {xs : List Value} (h : w.ownsRow base e size v n xs) (q : Nat) : (w.drewN q).ownsRow base e size v n xs :=
  ownsRow_below h (below_drewN (Below.refl _ _) q)

set_option maxRecDepth 100000 in
set_option maxHeartbeats 4000000 in
theorem finds_walk (W : World) (hT : Tab W) (a : Option Addr) (len cap : Nat) (l : List Int) (n x y : Int) (hs : Sl .u8 W a len cap l) (hf : Fits .u8 l) (wn : (Lit.int .u16 n).wf = true) (wx : (Lit.int .u16 x).wf = true) (wy : (Lit.int .u16 y).wf = true) :
    Calls Tryd.prog 13 #[.slice a len cap, .int .u16 n, .int .u16 x, .int .u16 y] W fun e w' => e = .returned (.bool true) ∧ Below W.heap.size W w' := by
  have hby := bys_fits hf
  have hn := bounds_u16 wn
  have hx := bounds_u16 wx
  have hy := bounds_u16 wy
  obtain ⟨k, hk⟩ : ∃ k : Nat, (k : Int) = n % 997 := ⟨(n % 997).toNat, by omega⟩
  have hkl : k ≤ 996 := by omega
  have hkn : n.tmod 997 = (k : Int) := by rw [hk, Int.tmod_eq_emod_of_nonneg hn.1]
  clear wn wx wy hf hk
  go_enter Tryd.func13, Tryd.ntmps13
  go_wp2_with fail
  refine (long_all a len cap k l W hs hby (by omega)).mono ?_
  rintro e w1 ⟨v1, L, rfl, hbL, hlL, hm1⟩
  obtain ⟨a1, c1, rfl, hs1, _, hB1⟩ := hm1.view k hlL
  clear hm1
  go_wp2_with fail
  refine (seal_any a1 k c1 L w1 (hT.step hB1) hs1 hbL (by omega)).mono ?_
  rintro e w2 ⟨v2, rfl, hm2⟩
  obtain ⟨N, hN⟩ : ∃ N, N = k + 4 := ⟨_, rfl⟩
  obtain ⟨a2, c2, rfl, _, hown2, hB2⟩ := hm2.view N (by rw [List.length_append, le4_len, hlL]; omega)
  have hsea := sealed_of hbL
  have hbS := hbL.append (le4_bys (upd 0 L))
  obtain ⟨S, hS⟩ : ∃ S, S = L ++ le4 (upd 0 L) := ⟨_, rfl⟩
  rw [← hS] at hown2 hsea hbS
  have hB := below_step hB1 hB2
  have hN4 : decide ((N : Int) < 4) = false := by simp; omega
  have hNl : N ≤ 1000 := by omega
  have hN4n : 4 ≤ N := by omega
  have hnz : ¬ (8 * (N : Int)) = 0 := by omega
  have mods : ∀ v : Int, 0 ≤ v → ∃ b : Nat, b < 8 * N ∧ v.tmod (8 * (N : Int)) = (b : Int) := by
    intro v hv
    have h1 := Int.emod_nonneg v (show 8 * (N : Int) ≠ 0 by omega)
    have h2 := Int.emod_lt_of_pos v (show 0 < 8 * (N : Int) by omega)
    exact ⟨(v % (8 * (N : Int))).toNat, by omega, by rw [Int.tmod_eq_emod_of_nonneg hv]; omega⟩
  obtain ⟨bx, hbx, ex⟩ := mods x hx.1
  obtain ⟨by', hby', ey⟩ := mods y hy.1
  have hgS : S.length = N := by rw [hS, List.length_append, le4_len, hlL]; omega
  obtain ⟨g, c2', hgg⟩ := ownsRow_form' hown2 (by omega)
  cases hgg
  have hs2 := own_sl hown2
  have hc0 : chg S = 0 := hsea.2
  have f1 := find_none _ N c2 S w2 (hT.step hB) hs2 hbS hN4n (by omega) (fun k _ => by rw [hc0]; exact prt_ne _ _)
  have hT2 := hT.step hB
  have hW1 := hB1.size
  clear hm2 hs1 hB1 hB2 hkn hS hN hkl hlL hbL mods
  go_wp2_with fail
  refine f1.mono ?_
  rintro e w3 ⟨rfl, hb3⟩
  have hown3 := ownsRow_below hown2 hb3
  have hB3 := below_step hB hb3
  have hT3 := hT.step hB3
  clear hown2 hs2 hb3 f1 hT2 hB
  go_wp2_with fail
  go_quiet (fail)
  have hown4 := own_drewN hown3 nq
  obtain ⟨w4, hw4⟩ : ∃ w4, w4 = w3.drewN nq := ⟨_, rfl⟩
  have hB4 : Below W.heap.size W w4 := by rw [hw4]; exact below_drewN hB3 nq
  rw [← hw4] at hown4 ⊢
  clear hown3 hw4 hB3 hT3
  obtain ⟨y1, z1, _, p1, p2, p3, p4, hA1, hg1, hgB1⟩ := flip_facts hown4 hbS hbx
  have i1 : (bx : Int) / 8 < (N : Int) := by omega
  have i2 : (0 : Int) ≤ (bx : Int) / 8 := by omega
  have i3 : (0 : Int) ≤ (bx : Int) % 8 := by omega
  have i4 : ((bx : Int) / 8).toNat = bx / 8 := by omega
  have i5 : ((bx : Int) % 8).toNat = bx % 8 := by omega
  have hbS1 := flp_bys hbS bx
  have hch1 : chg (flp S bx) = prt N bx := by rw [chg_flp bx (by omega), hgS, hc0, Nat.zero_xor]
  have hl1 : (flp S bx).length = N := by rw [flp_len, hgS]
  have hmin : ∀ j, j < bx → prt N j ≠ chg (flp S bx) := by
    intro j hj e
    rw [hch1] at e
    exact prt_two (N := N) (x := j) (y := bx) (by omega) (by omega) hbx (by omega) (by rw [e, Nat.xor_self])
  have hB5 : Below W.heap.size W (w4.setCell ⟨g, bx / 8, none⟩ (.int .u8 (z1 : Int))).drew := (hB4.setCell (p := ⟨g, bx / 8, none⟩) (Nat.le_trans hW1 hgB1) _).drew
  have hA5 := hA1.drew
  obtain ⟨w5, hw5⟩ : ∃ w5, w5 = (w4.setCell ⟨g, bx / 8, none⟩ (.int .u8 (z1 : Int))).drew := ⟨_, rfl⟩
  rw [← hw5] at hA5 hB5
  have f2 := find_one _ N c2 (flp S bx) w5 (hT.step hB5) (own_sl hA5) hbS1 hN4n (by omega) bx hbx hch1.symm hmin
  have HW5 := Lib.hid hw5
  clear hw5 hA1 hown4 hmin hB4
  go_wp2_with fail
  go_region
  rw [← HW5.out]
  clear p1 p2 p3 p4 hg1 hgB1 i1 i2 i3 i4 i5 HW5
  go_wp2_with fail
  refine f2.mono ?_
  rintro e w6 ⟨rfl, hb6⟩
  have hown6 := ownsRow_below hA5 hb6
  have hB6 := below_step hB5 hb6
  clear f2 hb6 hA5 hB5
  obtain ⟨y2, z2, _, p1, p2, p3, p4, hA2, hg2, hgB2⟩ := flip_facts hown6 hbS1 hby'
  have hbS2 := flp_bys hbS1 by'
  have hch2 : chg (flp (flp S bx) by') = prt N bx ^^^ prt N by' := by rw [chg_flp by' (by omega), hl1, hch1]
  have hl2 : (flp (flp S bx) by').length = N := by rw [flp_len, hl1]
  have hB7 : Below W.heap.size W (w6.setCell ⟨g, by' / 8, none⟩ (.int .u8 (z2 : Int))).drew := (hB6.setCell (p := ⟨g, by' / 8, none⟩) (Nat.le_trans hW1 hgB2) _).drew
  have hA7 := hA2.drew
  obtain ⟨w7, hw7⟩ : ∃ w7, w7 = (w6.setCell ⟨g, by' / 8, none⟩ (.int .u8 (z2 : Int))).drew := ⟨_, rfl⟩
  rw [← hw7] at hA7 hB7
  have f3 := find_any _ N c2 (flp (flp S bx) by') w7 (hT.step hB7) (own_sl hA7) hbS2 hN4n (by omega)
  have HW7 := Lib.hid hw7
  have i1 : (by' : Int) / 8 < (N : Int) := by omega
  have i2 : (0 : Int) ≤ (by' : Int) / 8 := by omega
  have i3 : (0 : Int) ≤ (by' : Int) % 8 := by omega
  have i4 : ((by' : Int) / 8).toNat = by' / 8 := by omega
  have i5 : ((by' : Int) % 8).toNat = by' % 8 := by omega
  clear hw7 hA2 hown6 hB6 hch1 hch2
  go_wp2_with fail
  go_region
  rw [← HW7.out]
  clear p1 p2 p3 p4 hg2 hgB2 i1 i2 i3 i4 i5 HW7
  go_wp2_with fail
  refine f3.mono ?_
  rintro e w8 ⟨⟨k3, hk3, hke, _, rfl⟩ | ⟨_, rfl⟩, hb8⟩
  · have hown8 := ownsRow_below hA7 hb8
    have hB8 := below_step hB7 hb8
    clear f3 hb8 hA7 hB7
    obtain ⟨y3, z3, _, p1, p2, p3, p4, hA3, hg3, hgB3⟩ := flip_facts hown8 hbS2 hk3
    have hbS3 := flp_bys hbS2 k3
    have hch3 : chg (flp (flp (flp S bx) by') k3) = 0 := by rw [chg_flp k3 (by omega), hl2, hke, Nat.xor_self]
    have hl3 : (flp (flp (flp S bx) by') k3).length = N := by rw [flp_len, hl2]
    have hse : seaB (flp (flp (flp S bx) by') k3) = true := seaB_yes ⟨by omega, hch3⟩
    have hB9 : Below W.heap.size W (w8.setCell ⟨g, k3 / 8, none⟩ (.int .u8 (z3 : Int))).drew := (hB8.setCell (p := ⟨g, k3 / 8, none⟩) (Nat.le_trans hW1 hgB3) _).drew
    have hA9 := hA3.drew
    obtain ⟨w9, hw9⟩ : ∃ w9, w9 = (w8.setCell ⟨g, k3 / 8, none⟩ (.int .u8 (z3 : Int))).drew := ⟨_, rfl⟩
    rw [← hw9] at hA9 hB9
    have f4 := sealed_any _ N c2 _ w9 (hT.step hB9) (own_sl hA9) hbS3
    rw [hse] at f4
    have HW9 := Lib.hid hw9
    have i0 : decide ((k3 : Int) < 0) = false := by simp
    have i1 : (k3 : Int) / 8 < (N : Int) := by omega
    have i2 : (0 : Int) ≤ (k3 : Int) / 8 := by omega
    have i3 : (0 : Int) ≤ (k3 : Int) % 8 := by omega
    have i4 : ((k3 : Int) / 8).toNat = k3 / 8 := by omega
    have i5 : ((k3 : Int) % 8).toNat = k3 % 8 := by omega
    have i6 : decide (8 * (N : Int) ≤ (k3 : Int)) = false := by simp; omega
    clear hw9 hA3 hown8 hB8 hke hch3 hse
    go_wp2_with fail
    go_region
    rw [← HW9.out]
    clear p1 p2 p3 p4 hg3 hgB3 i1 i2 i3 i4 i5 HW9
    go_wp2_with fail
    refine f4.mono ?_
    rintro e w' ⟨rfl, rfl⟩
    go_wp2_with fail
    refine (awake_any _ (hT.step hB9)).mono ?_
    rintro e w' ⟨rfl, hb3⟩
    go_wp2_with fail
    go_ret
    exact ⟨rfl, below_step hB9 hb3⟩
  · have hB8 := below_step hB7 hb8
    clear f3 hb8 hA7 hB7
    go_wp2_with fail
    refine (awake_any _ (hT.step hB8)).mono ?_
    rintro e w' ⟨rfl, hb3⟩
    go_wp2_with fail
    go_ret
    exact ⟨rfl, below_step hB8 hb3⟩
end Go.Proofs.YtdaijbplbnkpeaaDoor
