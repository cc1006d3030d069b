/-
  The library's sort at uint32: pdqsortOrdered leaves a permutation.
-/
import Derived.Test.YtdaijbplbnkpeaaDoorSrm
import Derived.Deep.Cut
import Derived.Deep.CutRange
namespace Go.Proofs.YtdaijbplbnkpeaaDoor
open Go.RowKit Go.Shelf

/-- A permutation of what was there lies in the row. -/
def Ps (base g n c : Nat) (M : List Int) (w wr : World) : Prop := ∃ M' : List Int, M'.Perm M ∧ Rw base g n c wr M' ∧ Below base w wr
theorem Ps.step {base g n c : Nat} {M M1 : List Int} {w w1 w2 : World} (hP : M1.Perm M) (hB : Below base w w1) {M2 : List Int} (hP2 : M2.Perm M1) (hR2 : Rw base g n c w2 M2) (hB2 : Below base w1 w2) : Ps base g n c M w w2 :=
  ⟨M2, hP2.trans hP, hR2, hB.trans hB2⟩

set_option maxRecDepth 1000000 in
set_option maxHeartbeats 32000000 in
theorem pdq_any (base g n c : Nat) (hn' : n ≤ 4294967296) (z : Nat) : ∀ (a b : Nat) (L : Int) (M : List Int) (w : World), Rw base g n c w M → a ≤ b → b ≤ n → 0 ≤ L → L ≤ 64 → b - a ≤ z →
    Calls Tryd.prog 51 #[.slice (some ⟨g, 0, none⟩) n c, .int .i64 (a : Int), .int .i64 (b : Int), .int .i64 L] w fun e w' => (∃ v, e = .returned v) ∧ ∃ M', M'.Perm M ∧ Rw base g n c w' M' ∧ Below base w w' := by
  induction z using Nat.strongRecOn with | ind z IH' =>
  have IH := Lib.hid IH'
  clear IH'
  intro a0 b0 L0 M w hA hab0 hbn0 hL00 hL064 hz
  go_enter Tryd.func51, Tryd.ntmps51
  go_wp2_with fail
  go_loopg [1, 2, 3, 8, 9] (b0 - a0) (fun k I J LL P Q wr => ∃ (a b : Nat) (L : Int) (p q : Bool), I = .int .i64 (a : Int) ∧ J = .int .i64 (b : Int) ∧ LL = .int .i64 L ∧ P = .bool p ∧ Q = .bool q ∧ a ≤ b ∧ b ≤ n ∧ 0 ≤ L ∧ L ≤ 64 ∧ b - a ≤ z ∧ b - a ≤ k ∧ Ps base g n c M w wr)
  case atStart => exact ⟨a0, b0, L0, true, true, rfl, rfl, rfl, rfl, rfl, hab0, hbn0, hL00, hL064, hz, Nat.le_refl _, M, List.Perm.refl _, hA, Below.refl _ _⟩
  case round =>
    obtain ⟨a, b, L, p, q, rfl, rfl, rfl, rfl, rfl, hab, hbn, hL0, hL64, hz, hk, M1, hP, hR, hB⟩ := hrel
    clear hA hab0 hbn0 hL00 hL064
    obtain ⟨l, hl⟩ : ∃ l : Nat, b - a = l := ⟨_, rfl⟩
    have el : (b : Int) - (a : Int) = (l : Int) := by omega
    by_cases h12 : l ≤ 12
    · have hd12 : decide ((l : Int) ≤ (12 : Int)) = true := by simp; omega
      clear hl
      go_wp2_with fail
      refine (ins_any base g n c a b M1 wr hR hab hbn hn').mono ?_
      rintro e w2 ⟨⟨v, rfl⟩, M2, hPn, hRn, hBn⟩
      go_wp2_with fail
      first | go_end0 | refine bodyPost_ret (results_none rfl _ _ _) rfl ?_
      exact ⟨⟨_, rfl⟩, M2, hPn.trans hP, hRn, hB.trans hBn⟩
    · have hd12 : decide ((l : Int) ≤ (12 : Int)) = false := by simp; omega
      have hab12 : a + 12 < b := by omega
      clear hl
      by_cases hLz : L = 0
      · subst hLz
        go_wp2_with fail
        refine (heap_any base g n c a b M1 wr hR hab hbn hn').mono ?_
        rintro e w2 ⟨⟨v, rfl⟩, M2, hPn, hRn, hBn⟩
        go_wp2_with fail
        first | go_end0 | refine bodyPost_ret (results_none rfl _ _ _) rfl ?_
        exact ⟨⟨_, rfl⟩, M2, hPn.trans hP, hRn, hB.trans hBn⟩
      · have hLd : decide (L = 0) = false := by simpa using hLz
        have hLe : (L == 0) = false := by simpa using hLz
        go_upto_if 35 with fail
        go_cut [3, 8] from 19 to 133 (fun s3 s8 wx => ∃ L' : Int, s3 = .int .i64 L' ∧ s8 = .bool p ∧ 0 ≤ L' ∧ L' ≤ 64 ∧ Ps base g n c M w wx)
        case first =>
          cases p with
          | false =>
            go_wp2_with fail
            refine (brk_any base g n c a b M1 wr hR hab12 hbn hn').mono ?_
            rintro e w2 ⟨⟨v, rfl⟩, M2, hPn, hRn, hBn⟩
            go_wp2_with fail
            go_meet
            case rel => exact ⟨L - 1, by go_num, rfl, by omega, by omega, Ps.step hP hB hPn hRn hBn⟩
          | true =>
            go_wp2_with fail
            go_meet
            case rel => exact ⟨L, rfl, rfl, hL0, hL64, M1, hP, hR, hB⟩
        case rest =>
          clear hLd hLe hLz hL0 hL64 hP hR hB
          obtain ⟨L', rfl, rfl, hL0, hL64, M2, hP, hR, hB⟩ := hcut
          go_upto_if 50 with (go_at_call 67; refine (piv_any base g n c a b M2 _ hR hab12 hbn hn').mono ?_; rintro e w2 ⟨m, h, rfl, hma, hmb, hh0, hh2, hRn, hBn⟩)
          replace hB := hB.trans hBn
          replace hR := hRn
          clear hRn hBn
          go_cut [11, 12] from 19 to 133 (fun s11 s12 wx => ∃ (m : Nat) (h : Int), s11 = .int .i64 (m : Int) ∧ s12 = .int .i64 h ∧ a ≤ m ∧ m < b ∧ Ps base g n c M w wx)
          case first =>
            by_cases hhd : h = 2
            · subst hhd
              obtain ⟨b1, hb1⟩ : ∃ x : Nat, b - 1 = x := ⟨_, rfl⟩
              obtain ⟨d, hd⟩ : ∃ x : Nat, m - a = x := ⟨_, rfl⟩
              obtain ⟨m2, hm2⟩ : ∃ x : Nat, b1 - d = x := ⟨_, rfl⟩
              have eb1 : (b : Int) - 1 = (b1 : Int) := by omega
              have ed : (m : Int) - (a : Int) = (d : Int) := by omega
              have em2 : (b1 : Int) - (d : Int) = (m2 : Int) := by omega
              have hm2b : a ≤ m2 ∧ m2 < b := by omega
              clear hb1 hd hm2
              go_wp2_with fail
              refine (rev_any base g n c a b M2 _ hR hab hbn hn').mono ?_
              rintro e w3 ⟨⟨v, rfl⟩, M3, hPn, hRn, hBn⟩
              go_wp2_with fail
              go_meet
              case rel => exact ⟨m2, 1, rfl, rfl, hm2b.1, hm2b.2, Ps.step hP hB hPn hRn hBn⟩
            · have hhdd : decide (h = 2) = false := by simpa using hhd
              have hhde : (h == 2) = false := by simpa using hhd
              go_wp2_with fail
              go_meet
              case rel => exact ⟨m, h, rfl, rfl, hma, hmb, M2, hP, hR, hB⟩
          case rest =>
            clear hma hmb hh0 hh2 hP hR hB
            obtain ⟨m, h, rfl, rfl, hma, hmb, M3, hP, hR, hB⟩ := hcut
            go_upto_region 15 with fail
            go_cut [8, 9, 12, 68] from 19 to 133 (fun s8 s9 s12 s68 wx => s8 = .bool p ∧ s9 = .bool q ∧ s12 = .int .i64 h ∧ (∃ t : Bool, s68 = .bool t) ∧ wc = wx)
            case first =>
              cases p with
              | false =>
                go_wp2_with fail
                go_meet
                case rel => exact ⟨rfl, rfl, rfl, ⟨_, rfl⟩, rfl⟩
              | true =>
                cases q with
                | false =>
                  go_wp2_with fail
                  go_meet
                  case rel => exact ⟨rfl, rfl, rfl, ⟨_, rfl⟩, rfl⟩
                | true =>
                  go_wp2_with fail
                  go_meet
                  case rel => exact ⟨rfl, rfl, rfl, ⟨_, rfl⟩, rfl⟩
            case rest =>
              obtain ⟨rfl, rfl, rfl, ⟨t, rfl⟩, hwx⟩ := hcut
              rw [← hwx]
              clear hwx
              go_upto_if 68 with fail
              go_cut [] from 19 to 133 (fun wx => Ps base g n c M w wx)
              case first =>
                cases t with
                | false =>
                  go_wp2_with fail
                  go_meet
                  case rel => exact ⟨M3, hP, hR, hB⟩
                | true =>
                  go_wp2_with fail
                  refine (pis_any base g n c a b M3 _ hR hab12 hbn hn').mono ?_
                  rintro e w3 ⟨qp, M4, rfl, hPn, hRn, hBn⟩
                  cases qp with
                  | true =>
                    go_wp2_with fail
                    first | go_end0 | refine bodyPost_ret (results_none rfl _ _ _) rfl ?_
                    exact ⟨⟨_, rfl⟩, M4, hPn.trans hP, hRn, hB.trans hBn⟩
                  | false =>
                    go_wp2_with fail
                    go_meet
                    case rel => exact Ps.step hP hB hPn hRn hBn
              case rest =>
                clear hP hR hB
                obtain ⟨M4, hP, hR, hB⟩ := hcut
                go_upto_region 17 with fail
                go_cut [87] from 19 to 133 (fun s87 wx => ∃ (t : Bool), s87 = .bool t ∧ (t = true → 0 < a) ∧ Rw base g n c wx M4 ∧ Below base w wx)
                case first =>
                  by_cases ha0 : 0 < a
                  · have hda : decide ((0 : Int) < (a : Int)) = true := by simp; omega
                    have hdan : decide (0 < a) = true := by simp; omega
                    obtain ⟨ap, hap⟩ : ∃ x : Nat, x = a - 1 := ⟨_, rfl⟩
                    have eap : (a : Int) - 1 = (ap : Int) := by omega
                    have wap := wrapI ap (by omega)
                    have i1 : (ap : Int) < (n : Int) := by omega
                    have i2 : (m : Int) < (n : Int) := by omega
                    have cX := hR.at (j := ap) (by omega)
                    have cY := hR.at (j := m) (by omega)
                    clear hap
                    obtain ⟨VX, hVX⟩ : ∃ v, v = M4[ap]?.getD 0 := ⟨_, rfl⟩
                    obtain ⟨VY, hVY⟩ : ∃ v, v = M4[m]?.getD 0 := ⟨_, rfl⟩
                    rw [← hVX] at cX
                    rw [← hVY] at cY
                    have ql := fun w => less_q VX VY w
                    obtain ⟨bb, hbb⟩ : ∃ bb, bb = decide (VX < VY) := ⟨_, rfl⟩
                    simp only [← hbb] at ql
                    clear hVX hVY hbb
                    go_quiet ((go_at_call 53; exact Calls.quiet_of_same (ql _)))
                    go_wp2_with fail
                    go_meet
                    case rel => exact ⟨_, rfl, fun _ => ha0, hR.drewN nq, below_drewN hB nq⟩
                  · have hda : decide ((0 : Int) < (a : Int)) = false := by simp; omega
                    have hdan : decide (0 < a) = false := by simp; omega
                    go_quiet (fail)
                    go_wp2_with fail
                    go_meet
                    case rel => exact ⟨false, rfl, (fun h => by simp at h), hR.drewN nq, below_drewN hB nq⟩
                case rest =>
                  clear hR hB
                  obtain ⟨t, rfl, ht, hR, hB⟩ := hcut
                  cases t with
                  | true =>
                    go_wp2_with fail
                    refine (pareq_any base g n c a b m M4 _ hR hma hmb hbn hn').mono ?_
                    rintro e w5 ⟨mid, M5, rfl, hm1, hm2, hPn, hRn, hBn⟩
                    go_wp2_with fail
                    go_roundg (b - mid)
                    case measure => omega
                    case rel => exact ⟨mid, b, L', p, q, rfl, rfl, rfl, rfl, rfl, hm2, hbn, hL0, hL64, by omega, Nat.le_refl _, Ps.step hP hB hPn hRn hBn⟩
                  | false =>
                    clear ht
                    go_wp2_with fail
                    refine (part_any' base g n c a b m M4 _ hR hma hmb hbn hn').mono ?_
                    rintro e w5 ⟨mid, q2, M5, rfl, hm1, hm2, hPn, hRn, hBn⟩
                    replace hB := hB.trans hBn
                    replace hP := hPn.trans hP
                    clear hR hBn hPn
                    obtain ⟨x, hx⟩ : ∃ x : Nat, mid - a = x := ⟨_, rfl⟩
                    obtain ⟨y, hy⟩ : ∃ y : Nat, b - mid = y := ⟨_, rfl⟩
                    obtain ⟨mp, hmp⟩ : ∃ y : Nat, mid + 1 = y := ⟨_, rfl⟩
                    have ex : (mid : Int) - (a : Int) = (x : Int) := by omega
                    have ey : (b : Int) - (mid : Int) = (y : Int) := by omega
                    have emp : (mid : Int) + 1 = (mp : Int) := by omega
                    have hmp1 : a < mp ∧ mp ≤ b ∧ mid < mp := by omega
                    clear hx hy hmp
                    by_cases hxy : x < y
                    · have hdx : decide ((x : Int) < (y : Int)) = true := by simp; omega
                      have hdxn : decide (x < y) = true := by simp; omega
                      go_wp2_with fail
                      refine (IH.out (mid - a) (by omega) a mid L' M5 _ hRn (by omega) (by omega) hL0 hL64 (by omega)).mono ?_
                      rintro e w6 ⟨⟨v, rfl⟩, M6, hPn, hRn, hBn⟩
                      go_wp2_with fail
                      go_roundg (b - mp)
                      case measure => omega
                      case rel => exact ⟨mp, b, L', _, q2, rfl, rfl, rfl, rfl, rfl, hmp1.2.1, hbn, hL0, hL64, by omega, Nat.le_refl _, Ps.step hP hB hPn hRn hBn⟩
                    · have hdx : decide ((x : Int) < (y : Int)) = false := by simp; omega
                      have hdxn : decide (x < y) = false := by simp; omega
                      go_wp2_with fail
                      refine (IH.out (b - mp) (by omega) mp b L' M5 _ hRn (by omega) (by omega) hL0 hL64 (by omega)).mono ?_
                      rintro e w6 ⟨⟨v, rfl⟩, M6, hPn, hRn, hBn⟩
                      go_wp2_with fail
                      go_roundg (mid - a)
                      case measure => omega
                      case rel => exact ⟨a, mid, L', _, q2, rfl, rfl, rfl, rfl, rfl, hm1, by omega, hL0, hL64, by omega, Nat.le_refl _, Ps.step hP hB hPn hRn hBn⟩
end Go.Proofs.YtdaijbplbnkpeaaDoor
