/-
  The contract of the reference's Sum; for all lists that are short enough. No condition but those in each statement.
-/
import Derived.Test.YtdaijbplbnkpeaaDoorRfa
namespace Go.Proofs.YtdaijbplbnkpeaaDoor
open Go.RowKit Go.Shelf

/-- What a sum has at place k. -/
theorem sum_cf (A B d k : Nat) : cf (A ^^^ B * 2 ^ d) k = (cf A k + if d ≤ k then cf B (k - d) else 0) % 2 := by rw [cf_xor, cf_shift]

set_option maxHeartbeats 4000000 in
theorem sum_any (w : World) (aa ab : Option Addr) (la ca lb cb A B d : Nat) (hA : Cfs w aa la ca A) (hB : Cfs w ab lb cb B) (hla : la ≤ 1000000) (hlb : lb + d ≤ 1000000) :
    Calls Tryd.prog 75 #[.slice aa la ca, .slice ab lb cb, .int .i64 (d : Int)] w (GivesP w (A ^^^ B * 2 ^ d)) := by
  obtain ⟨i0, hi, hz0, hz1, hz2⟩ := info_parts infoInt
  obtain ⟨R, hR⟩ : ∃ R, R = A ^^^ B * 2 ^ d := ⟨_, rfl⟩
  have hbR : bl R ≤ max la (lb + d) := by
    have h1 := bl_xor_le A (B * 2 ^ d)
    have h2 : bl (B * 2 ^ d) ≤ lb + d := by
      rw [← cm_pow]
      by_cases h0 : B = 0
      · subst h0; simp
      · have h3 := (bl_cm h0 (Nat.ne_of_gt (Nat.two_pow_pos d))).1
        rw [bl_two_pow] at h3
        have := hB.1; omega
    have := hA.1
    rw [← hR] at h1; omega
  rw [← hR]
  have HSC := Lib.hid (fun k => by have := sum_cf A B d k; rwa [← hR] at this : ∀ k, cf R k = (cf A k + if d ≤ k then cf B (k - d) else 0) % 2)
  have ca1 := hA.2.1
  have ca2 := hA.2.2.1
  have cb1 := hB.2.1
  have cb2 := hB.2.2.1
  clear hR
  go_enter Tryd.func75, Tryd.ntmps75
  go_wp2_with fail
  go_loopw [7, 8] (fun v i wr => ∃ k : Nat, k ≤ max la (lb + d) ∧ i = .int .i64 (k : Int) ∧ wr.ownsRow w.heap.size 3 1 v k (cfV R k) ∧ Below w.heap.size w wr) (fun _ i _ => max la (lb + d) - (intOf i).toNat)
  case atStart => exact ⟨0, by omega, rfl, World.ownsRow_nil _ _ _ _, Below.refl _ _⟩
  case round =>
    obtain ⟨k, hk, rfl, hown, hBl⟩ := hrel
    obtain ⟨a, cap, rfl⟩ := own_shape' hown
    have hsz := hBl.size
    by_cases hlt : k < la ∨ k < lb + d
    · have HS := Lib.hid (cfV_succ R k)
      have hsc := HSC.out k
      have hkl : k ≤ 1000000 := by omega
      by_cases hina : k < la
      · by_cases hinb : d ≤ k ∧ k - d < lb
        · obtain ⟨hb1', hb2'⟩ := hinb
          have hd1 : decide (k < la) = true := by simp; omega
          have hd1i : decide ((k : Int) < (la : Int)) = true := by simp; omega
          obtain ⟨ba, oa, rfl, hbal, hcA⟩ := (hA.below hBl).view (by omega)
          have eA := hcA k (by omega)
          have rA := cf_range A k
          have hd3 : decide (d ≤ k) = true := by simp; omega
          have hd4 : decide ((k : Int) - (d : Int) < (lb : Int)) = true := by simp; omega
          obtain ⟨bb, ob, rfl, hbbl, hcB⟩ := (hB.below hBl).view (by omega)
          have eB := hcB (k - d) (by omega)
          have rB := cf_range B (k - d)
          have hdk : (d : Int) ≤ (k : Int) := by omega
          have hkd : (k : Int) - (d : Int) < (lb : Int) := by omega
          rw [if_pos (by omega : d ≤ k)] at hsc
          have HV := Lib.hid hsc
          clear hsc hcA hcB
          go_wp2_with (at_builtin; refine wpList_append_own _ rfl _ _ 82 rfl w.heap.size 3 i0 (.int .i64 0) 1 8 Tryd.underlying82 hi hz0 hz1 hz2 rfl (by decide) _ _ _ rfl (hown.alloc _) ⟨wr.heap.size, 0, none⟩ 1 1 [.int .i64 ((cf A k + cf B (k - d)) % 2)] rfl rfl ?c1 ?c2 ?c3 ?c4 ?c5 ?_)
          case c1 => exact one_cellI _ _
          case c2 => exact one_oneI _
          case c3 => unfold maxLen; omega
          case c4 => omega
          case c5 => simp; omega
          · intro v' w1 hown' hgrow _
            have hb1 : Below w.heap.size w w1 := (hBl.alloc hsz _).grown hgrow (by simp; omega) (fun k hk => (hown.lt k hk).1)
            clear hown hgrow
            go_wp2_with fail
            go_roundw
            case rel => exact ⟨k + 1, by omega, by go_num, by rw [HS.out, HV.out]; exact hown', hb1⟩
            case measure => simp [intOf]; omega
        · have hq : k < d ∨ lb ≤ k - d := by omega
          have hd1 : decide (k < la) = true := by simp; omega
          have hd1i : decide ((k : Int) < (la : Int)) = true := by simp; omega
          obtain ⟨ba, oa, rfl, hbal, hcA⟩ := (hA.below hBl).view (by omega)
          have eA := hcA k (by omega)
          have rA := cf_range A k
          rw [show (if d ≤ k then cf B (k - d) else 0) = 0 from by split <;> first | rfl | exact cf_high (by have := hB.1; omega)] at hsc
          have hsc2 : cf R k = cf A k := by omega
          have hdB : ¬ (d ≤ k ∧ k - d < lb) := by omega
          have HV := Lib.hid hsc2
          clear hsc hsc2 hcA
          by_cases hdk : d ≤ k
          · have hd3 : decide (d ≤ k) = true := by simp; omega
            have hd4 : decide ((k : Int) - (d : Int) < (lb : Int)) = false := by simp; omega
            go_wp2_with (at_builtin; refine wpList_append_own _ rfl _ _ 82 rfl w.heap.size 3 i0 (.int .i64 0) 1 8 Tryd.underlying82 hi hz0 hz1 hz2 rfl (by decide) _ _ _ rfl (hown.alloc _) ⟨wr.heap.size, 0, none⟩ 1 1 [.int .i64 (cf A k)] rfl rfl ?c1 ?c2 ?c3 ?c4 ?c5 ?_)
            case c1 => exact one_cellI _ _
            case c2 => exact one_oneI _
            case c3 => unfold maxLen; omega
            case c4 => omega
            case c5 => simp; omega
            · intro v' w1 hown' hgrow _
              have hb1 : Below w.heap.size w w1 := (hBl.alloc hsz _).grown hgrow (by simp; omega) (fun k hk => (hown.lt k hk).1)
              clear hown hgrow
              go_wp2_with fail
              go_roundw
              case rel => exact ⟨k + 1, by omega, by go_num, by rw [HS.out, HV.out]; exact hown', hb1⟩
              case measure => simp [intOf]; omega
          · have hd3 : decide (d ≤ k) = false := by simp; omega
            go_wp2_with (at_builtin; refine wpList_append_own _ rfl _ _ 82 rfl w.heap.size 3 i0 (.int .i64 0) 1 8 Tryd.underlying82 hi hz0 hz1 hz2 rfl (by decide) _ _ _ rfl (hown.alloc _) ⟨wr.heap.size, 0, none⟩ 1 1 [.int .i64 (cf A k)] rfl rfl ?c1 ?c2 ?c3 ?c4 ?c5 ?_)
            case c1 => exact one_cellI _ _
            case c2 => exact one_oneI _
            case c3 => unfold maxLen; omega
            case c4 => omega
            case c5 => simp; omega
            · intro v' w1 hown' hgrow _
              have hb1 : Below w.heap.size w w1 := (hBl.alloc hsz _).grown hgrow (by simp; omega) (fun k hk => (hown.lt k hk).1)
              clear hown hgrow
              go_wp2_with fail
              go_roundw
              case rel => exact ⟨k + 1, by omega, by go_num, by rw [HS.out, HV.out]; exact hown', hb1⟩
              case measure => simp [intOf]; omega
      · by_cases hinb : d ≤ k ∧ k - d < lb
        · obtain ⟨hb1', hb2'⟩ := hinb
          have hd1 : decide (k < la) = false := by simp; omega
          have hd1i : decide ((k : Int) < (la : Int)) = false := by simp; omega
          have hd2 : decide ((k : Int) < (lb : Int) + (d : Int)) = true := by simp; omega
          have hA0 : cf A k = 0 := cf_high (by have := hA.1; omega)
          have hd3 : decide (d ≤ k) = true := by simp; omega
          have hd4 : decide ((k : Int) - (d : Int) < (lb : Int)) = true := by simp; omega
          obtain ⟨bb, ob, rfl, hbbl, hcB⟩ := (hB.below hBl).view (by omega)
          have eB := hcB (k - d) (by omega)
          have rB := cf_range B (k - d)
          have hdk : (d : Int) ≤ (k : Int) := by omega
          have hkd : (k : Int) - (d : Int) < (lb : Int) := by omega
          rw [if_pos (by omega : d ≤ k)] at hsc
          rw [hA0, Int.zero_add] at hsc
          have HV := Lib.hid hsc
          clear hsc hcB hA0
          go_wp2_with (at_builtin; refine wpList_append_own _ rfl _ _ 82 rfl w.heap.size 3 i0 (.int .i64 0) 1 8 Tryd.underlying82 hi hz0 hz1 hz2 rfl (by decide) _ _ _ rfl (hown.alloc _) ⟨wr.heap.size, 0, none⟩ 1 1 [.int .i64 (cf B (k - d) % 2)] rfl rfl ?c1 ?c2 ?c3 ?c4 ?c5 ?_)
          case c1 => exact one_cellI _ _
          case c2 => exact one_oneI _
          case c3 => unfold maxLen; omega
          case c4 => omega
          case c5 => simp; omega
          · intro v' w1 hown' hgrow _
            have hb1 : Below w.heap.size w w1 := (hBl.alloc hsz _).grown hgrow (by simp; omega) (fun k hk => (hown.lt k hk).1)
            clear hown hgrow
            go_wp2_with fail
            go_roundw
            case rel => exact ⟨k + 1, by omega, by go_num, by rw [HS.out, HV.out]; exact hown', hb1⟩
            case measure => simp [intOf]; omega
        · have hq : k < d := by omega
          have hd1 : decide (k < la) = false := by simp; omega
          have hd1i : decide ((k : Int) < (la : Int)) = false := by simp; omega
          have hd2 : decide ((k : Int) < (lb : Int) + (d : Int)) = true := by simp; omega
          have hA0 : cf A k = 0 := cf_high (by have := hA.1; omega)
          rw [show (if d ≤ k then cf B (k - d) else 0) = 0 from by split <;> first | rfl | exact cf_high (by have := hB.1; omega)] at hsc
          rw [hA0] at hsc
          have hsc2 : cf R k = 0 := hsc
          have hdB : ¬ (d ≤ k ∧ k - d < lb) := by omega
          have HV := Lib.hid hsc2
          clear hsc hsc2 hA0
          have hd3 : decide (d ≤ k) = false := by simp; omega
          go_wp2_with (at_builtin; refine wpList_append_own _ rfl _ _ 82 rfl w.heap.size 3 i0 (.int .i64 0) 1 8 Tryd.underlying82 hi hz0 hz1 hz2 rfl (by decide) _ _ _ rfl (hown.alloc _) ⟨wr.heap.size, 0, none⟩ 1 1 [.int .i64 (0)] rfl rfl ?c1 ?c2 ?c3 ?c4 ?c5 ?_)
          case c1 => exact one_cellI _ _
          case c2 => exact one_oneI _
          case c3 => unfold maxLen; omega
          case c4 => omega
          case c5 => simp; omega
          · intro v' w1 hown' hgrow _
            have hb1 : Below w.heap.size w w1 := (hBl.alloc hsz _).grown hgrow (by simp; omega) (fun k hk => (hown.lt k hk).1)
            clear hown hgrow
            go_wp2_with fail
            go_roundw
            case rel => exact ⟨k + 1, by omega, by go_num, by rw [HS.out, HV.out]; exact hown', hb1⟩
            case measure => simp [intOf]; omega
    · have hke : k = max la (lb + d) := by omega
      have hd1 : decide (k < la) = false := by simp; omega
      have hd2 : decide ((k : Int) < (lb : Int) + (d : Int)) = false := by simp; omega
      obtain ⟨a', cap', hv, hC⟩ := own_cfs hown (by omega)
      cases hv
      clear hown hke
      go_wp2_with fail
      (with_reducible refine (trim_any _ _ _ _ _ hC).mono ?_)
      rintro e w' ⟨⟨rfl, hC2⟩, rfl⟩
      go_wp2_with fail
      go_ret
      exact ⟨_, _, rfl, hC2, hBl⟩
end Go.Proofs.YtdaijbplbnkpeaaDoor
