/-
  The walk of the law VarintOne: for every number and any bytes it returns true; nothing that was there is changed.
-/
import Derived.Test.YteddbpcpllehoaaAwake
import Derived.Test.YteddbpcpllehoaaApp
import Derived.Deep.RegionHeld3
namespace Go.Proofs.Yteddbpcpllehoaa
open Go.RowKit Go.Shelf

theorem Fits.bytes {l : List Int} (h : Fits .u8 l) : Bytes l := fun c hc => bounds_u8 (h c hc)
theorem Fits.takes {k : IntKind} {l : List Int} (h : Fits k l) (m : Nat) : Fits k (l.take m) := fun n hn => h n (List.mem_of_mem_take hn)

theorem readRes_eq {l : List Int} {z : Int} {n : Nat} {e : Int} (h : vread l = (z, n, e)) : ReadRes l = .returned (.tuple #[.int .u64 z, .int .i64 n, .int .i64 e]) := by
  unfold ReadRes; rw [h]

theorem Bytes.form {x : Int} (h : 0 ≤ x) : Bytes (vform x) := vform_bytes x h

theorem cut20 (len : Nat) : (min (len : Int) 20).toNat = min len 20 := by omega

set_option maxHeartbeats 600000 in
theorem one_walk (w : World) (x : Int) (a : Option Addr) (len cap : Nat) (l : List Int) (wx : (Lit.int .u64 x).wf = true) (hs : Sl .u8 w a len cap l) (hf : Fits .u8 l) :
    Calls Try.prog 7 #[.int .u64 x, .slice a len cap] w fun e w' => e = .returned (.bool true) ∧ Below w.heap.size w w' := by
  obtain ⟨hx0, hx1⟩ := bounds_u64 wx
  clear wx
  have hlc := hs.2.1
  have hcm := hs.2.2.1
  obtain ⟨i0, hi, hz0, hz1, hz2⟩ := info_parts infoU8
  have hsm := hs.upto (min len 20) (Nat.min_le_left _ _)
  have hby := hf.bytes.take (min len 20)
  have hm20 : min len 20 ≤ 20 := Nat.min_le_right _ _
  have hc20 := cut20 len
  obtain ⟨b, hb⟩ : ∃ b, b = l.take (min len 20) := ⟨_, rfl⟩
  rw [← hb] at hsm hby
  generalize min len 20 = m at *
  have hfp := vform_pos x
  have hf10 : (vform x).length ≤ 10 := vsize_10 hx1
  have hvs : vsize x = (vform x).length := rfl
  have HRF := Lib.hid (readRes_eq (vread_form x b hx0 hx1))
  have hbf := (Bytes.form hx0).append hby
  clear hb hs hf
  go_enter Try.func7, Try.ntmps7
  go_wp2_with fail
  refine (awake_any w).mono ?_
  rintro e w1 ⟨rfl, hB1⟩
  have hsm1 := hsm.below hB1
  go_wp2_with fail
  refine (write_any x w1 hx0 hx1).mono ?_
  rintro e w2 ⟨a2, cap2, rfl, hown2, hB2⟩
  have hsm2 := hsm1.below hB2
  have hsl2 := (own_sl hown2)
  have hcap2 := hsl2.2.1
  have hcap2' := hsl2.2.2.1
  have hBB := hB1.trans (hB2.mono hB1.size)
  clear hsm hsm1 hown2 hB1 hB2
  go_wp2_with fail
  refine (size_any x w2 hx0 hx1).mono ?_
  rintro e w3 ⟨rfl, rfl⟩
  have hsc := hsl2.capped
  go_wp2_with (at_builtin; refine wpList_append_full _ rfl (.tmp 42) (.tmp 43) 25 rfl .u8 5 i0 1 Try.underlying25 hi hz0 hz1 hz2 a2 a (vform x).length m cap (vform x) b rfl rfl hsc hsm2 (by unfold maxLen; omega) (by omega) ?_)
  intro a3 c3 w3 hsl3 hB3
  have hsm3 := hsm2.below hB3
  have hBB3 := hBB.trans (hB3.mono hBB.size)
  clear hsc hsl2 hsm2 hBB hB3
  go_wp2_with fail
  refine (read_any a3 _ c3 _ w3 hsl3 hbf).mono ?_
  rw [HRF.out]
  rintro e w4 ⟨rfl, hB4⟩
  have hsm4 := hsm3.below hB4
  have hBB4 := hBB3.trans (hB4.mono hBB3.size)
  clear hsl3 hsm3 hBB3 hB4
  go_wp2_with fail
  rcases rdA_err b 0 1 0 with he | ⟨E, hE, he⟩
  · obtain ⟨z, n, hzn⟩ : ∃ z n, vread b = (z, n, 0) := ⟨(vread b).1, (vread b).2.1, by rw [← he]; rfl⟩
    obtain ⟨r, hz0', hz1', hbz, hnz⟩ := vread_inv hby hzn
    have HR2 := Lib.hid (readRes_eq hzn)
    have hn1 : 1 ≤ n := by rw [hnz]; exact vsize_pos z
    have hnm : n ≤ m := by rw [← hsm4.1, hbz, hnz]; unfold vsize; simp
    have htk : vform z = b.take n := by rw [hbz, hnz]; unfold vsize; simp
    have HT := Lib.hid htk
    clear he hzn hbz htk hnz
    refine (read_any a m cap b w4 hsm4 hby).mono ?_
    rw [HR2.out]
    rintro e w5 ⟨rfl, hB5⟩
    have hsm5 := (hsm4.below hB5).upto n hnm
    have hBB5 := hBB4.trans (hB5.mono hBB4.size)
    have hcapm := hsm4.2.1
    clear hsm4 hBB4 hB5
    have hnmI : (n : Int) ≤ (m : Int) := by omega
    have hn1I : (1 : Int) ≤ (n : Int) := by omega
    have hncI : (n : Int) ≤ (cap : Int) := by omega
    have hn0I : (0 : Int) ≤ (n : Int) := by omega
    have hd1 : decide ((1 : Int) ≤ (n : Int)) = true := by simp; omega
    have hd2 : decide ((n : Int) ≤ (m : Int)) = true := by simp; omega
    go_wp2_with fail
    have hsm5d : Sl .u8 w5.drew a n cap (b.take n) := hsm5
    have hBB5d : Below w.heap.size w w5.drew := hBB5.drew
    clear hsm5 hBB5
    go_region_held3 (fun _ => True) (trivial) (first
      | (go_at_call 16; refine (write_any z w5.drew hz0' hz1').mono ?_; rintro e w6 ⟨a6, cap6, rfl, hown6, hB6⟩)
      | (go_at_call 19; refine (sameBytes_yes _ _ _ _ _ _ _ _ _ (own_sl hown6) (hsm5d.below hB6) HT.out).mono ?_; rintro e w7 ⟨rfl, hD⟩))
    have hBB6 := hBB5d.trans (hB6.mono hBB5d.size)
    have hBB7 := hBB6.trans (hD.below.mono hBB6.size)
    clear hB6 hBB5d hBB6 hD
    go_wp2
    go_ret
    exact ⟨rfl, hBB7⟩
  · have HR2 := Lib.hid (readRes_eq (l := b) he)
    refine (read_any a m cap b w4 hsm4 hby).mono ?_
    rw [HR2.out]
    rintro e w5 ⟨rfl, hB5⟩
    have hBB5 := hBB4.trans (hB5.mono hBB4.size)
    clear he hsm4 hBB4 hB5
    rcases hE with rfl | rfl | rfl
    · go_wp2_with fail
      go_ret
      exact ⟨rfl, hBB5⟩
    · go_wp2_with fail
      go_ret
      exact ⟨rfl, hBB5⟩
    · go_wp2_with fail
      go_ret
      exact ⟨rfl, hBB5⟩
end Go.Proofs.Yteddbpcpllehoaa
