/-
  The walk of the law VarintWrong: for any number, any numbers before, and each of the four defects it returns true; nothing that was there is changed.
-/
import Derived.Test.YteddbpcpllehoaaAwake
import Derived.Test.YteddbpcpllehoaaRra
import Derived.Test.YteddbpcpllehoaaLists
import Derived.Test.YteddbpcpllehoaaBad
namespace Go.Proofs.Yteddbpcpllehoaa
open Go.RowKit Go.Shelf

theorem bytes_fits {l : List Int} (h : Fits .u8 l) : Bytes l := fun c hc => bounds_u8 (h c hc)

theorem own_some {w : World} {base : Nat} {e : TypeId} {s : Nat} {a : Option Addr} {n cap : Nat} {xs : List Value} (h : w.ownsRow base e s (.slice a n cap) n xs) (hn : 0 < n) : ∃ g, a = some ⟨g, 0, none⟩ ∧ base ≤ g := by
  rcases h.2 with ⟨_, h0⟩ | ⟨g, cap', cur, hv, hb, _⟩
  · omega
  · cases hv; exact ⟨g, rfl, hb⟩

/-- A slice that lies below B reads as it did. -/
theorem Sl.below' {k : IntKind} {w w' : World} {a : Option Addr} {len cap B : Nat} {l : List Int} (h : Sl k w a len cap l) (hlt : ∀ x, a = some x → 0 < cap → x.block < B) (hb : Below B w w') : Sl k w' a len cap l := by
  obtain ⟨h1, h2, h3, h4⟩ := h
  refine ⟨h1, h2, h3, ?_⟩
  by_cases h0 : cap = 0
  · exact .inl ⟨by omega, h0⟩
  · rcases h4 with ⟨_, h6⟩ | ⟨b, off, ha, hl, hc⟩
    · exact absurd h6 h0
    · have hx := hlt _ ha (by omega)
      exact .inr ⟨b, off, ha, Nat.lt_of_lt_of_le hl hb.size, fun i hi => (hb.cell (p := ⟨b, off + i, none⟩) hx).trans (hc i hi)⟩
theorem Sl.lt {k : IntKind} {w : World} {a : Option Addr} {len cap : Nat} {l : List Int} (h : Sl k w a len cap l) : ∀ x, a = some x → 0 < cap → x.block < w.heap.size := by
  intro x hx hc
  rcases h.2.2.2 with ⟨_, h6⟩ | ⟨b, off, ha, hl, _⟩
  · omega
  · rw [ha] at hx; cases hx; exact hl

set_option maxHeartbeats 2000000 in
theorem wrong0 (w : World) (x : Int) (a : Option Addr) (len cap : Nat) (l : List Int) (way n : Int) (hx0 : 0 ≤ x) (hx1 : x ≤ 18446744073709551615) (hs : Sl .u64 w a len cap l) (hn : Nums l) (hw0 : 0 ≤ way) (hw1 : way ≤ 255) (hn0 : 0 ≤ n) (hn1 : n ≤ 255) (hway : way % 4 = 0) :
    Calls Try.prog 11 #[.int .u64 x, .slice a len cap, .int .u8 way, .int .u8 n] w fun e w' => e = .returned (.bool true) ∧ Below w.heap.size w w' := by
  obtain ⟨i0, hi, hz0, hz1, hz2⟩ := info_parts infoU8
  have hc1 := hs.2.1
  have hm1 := hs.2.2.1
  have hi10 : (0 : Int) ≤ min (len : Int) 20 := by omega
  have hi11 : min (len : Int) 20 ≤ (cap : Int) := by omega
  have hfp := vform_pos x
  have hf10 : (vform x).length ≤ 10 := vsize_10 hx1
  have hq0 : (way % 4 == 0) = true := by simp; omega
  obtain ⟨c, hc⟩ : ∃ c : Nat, n % ((vform x).length : Int) = (c : Int) := Int.eq_ofNat_of_zero_le (Int.emod_nonneg _ (by omega))
  have hcL : c < (vform x).length := by have := Int.emod_lt_of_pos n (show (0 : Int) < ((vform x).length : Int) by omega); omega
  have hcLI : (c : Int) < ((vform x).length : Int) := by omega
  have hLI : (1 : Int) ≤ ((vform x).length : Int) := by omega
  clear hway
  by_cases hc0 : c = 0
  · have hcb : ((c : Int) == 0) = true := by simp; exact hc0
    have ho := or128' n hn0 hn1
    obtain ⟨v, hv⟩ : ∃ v, v = bits .or .u8 128 n := ⟨_, rfl⟩
    rw [← hv] at ho
    have hvr : vread [v] = (0, 0, 10) := vread_high (fun d hd => by simp at hd; omega) (by simp)
    have hby : Bytes [v] := fun d hd => by simp at hd; omega
    have HVF := Lib.hid hvr
    have HRF := Lib.hid (readRes_eq' hvr)
    have HBY := Lib.hid hby
    have HNE : Hid ([v] ≠ []) := Lib.hid (by simp)
    rw [eq_comm] at hv
    clear hvr hby hc0
    go_enter Try.func11, Try.ntmps11
    go_wp2_with fail
    refine (awake_any w).mono ?_
    rintro e w1 ⟨rfl, hB1⟩
    go_wp2_with fail
    refine (write_any x w1 hx0 hx1).mono ?_
    rintro e w2 ⟨a2, c2, rfl, hown2, hB2⟩
    have hBB2 := hB1.trans (hB2.mono hB1.size)
    have hs2 := (hs.below hB1).below hB2
    clear hs hB1 hB2
    have hc2 := (own_sl hown2).2.1
    have hc2I : (c : Int) ≤ (c2 : Int) := by omega
    have hsF : Sl .u8 _ (some ⟨w2.heap.size, 0, none⟩) 1 1 [v] := (Blk.new .u8 5 w2 [v]).sl (by simp)
    have hsl := hs2.below ((Below.refl w2.heap.size w2).alloc (Nat.le_refl _) (.cells (([v] : List Int).map (Value.int .u8)).toArray 5))
    have hBF := hBB2.alloc hBB2.size (.cells (([v] : List Int).map (Value.int .u8)).toArray 5)
    clear hs2 hBB2 hown2
    generalize hwF : w2.alloc (.cells (([v] : List Int).map (Value.int .u8)).toArray 5) = wF at hsF hsl hBF
    generalize [v] = fb at HVF HRF HBY HNE hsF
    subst hwF
    go_wp2_with fail
    refine (read_any _ _ _ fb _ hsF HBY.out).mono ?_
    rw [HRF.out]
    rintro e wr1 ⟨rfl, hBr1⟩
    have hsF1 := hsF.below hBr1
    have hsl1 := hsl.below hBr1
    have hBF1 := hBF.trans (hBr1.mono hBF.size)
    clear hsF hsl hBF hBr1
    go_wp2_with fail
    have e20 : (min (len : Int) 20).toNat = min len 20 := by omega
    rw [e20]
    have hp := hsl1.upto (min len 20) (Nat.min_le_left _ _)
    have hnk := hn.take (min len 20)
    have hm20 : min len 20 ≤ 20 := Nat.min_le_right _ _
    clear e20 hsl1 hi10 hi11
    generalize l.take (min len 20) = k at *
    generalize min len 20 = m at *
    have hvl : (vwall k).length ≤ 200 := by
      have h1 := vwall_length k
      have h2 := vsizes_le hnk
      have h3 := hp.1
      omega
    have HVR := Lib.hid (vreads_wrong k fb hnk HBY.out HNE.out (by rw [HVF.out]; decide))
    have HB2 := Lib.hid ((vwall_bytes hnk).append HBY.out)
    refine (writeAll_any wr1 a m cap k hp hnk (by omega)).mono ?_
    rintro e wr2 ⟨a5, c5, rfl, hown5, hB5⟩
    have hsF2 := hsF1.below hB5
    have hwr1 := hBF1.size
    have hBF2 := hBF1.trans (hB5.mono hBF1.size)
    have hsz2 := hB5.size
    clear hsF1 hBF1 hB5 hp
    go_wp2_with (at_builtin; refine wpList_append_onsl _ rfl (.tmp 88) (.tmp 89) 25 rfl .u8 wr1.heap.size 5 i0 1 Try.underlying25 hi hz0 hz1 hz2 _ (vwall k) _ _ _ fb rfl rfl hown5 hsF2 (by unfold maxLen; omega) (by omega) hsz2 ?_)
    intro v6 wr3 hown6 hgrow6
    have hBF3 := hBF2.grown hgrow6 hBF2.size (fun g hg => Nat.le_trans hwr1 (hown5.lt g hg).1)
    have hown6' : wr3.ownsRow wr1.heap.size 5 1 v6 ((vwall k).length + fb.length) ((vwall k ++ fb).map (Value.int .u8)) := by simpa using hown6
    obtain ⟨a6, c6, rfl⟩ := own_shape hown6'
    have hr6 := own_sl hown6'
    have hl6 : (vwall k).length + fb.length ≤ 1000000 := by have := hsF2.1; omega
    clear hown6 hown6' hgrow6 hown5 hsF2 hBF2
    go_wp2_with fail
    refine (readAll_any wr3 a6 _ c6 _ hr6 HB2.out hl6).mono ?_
    rw [HVR.out, HVF.out]
    rintro e wr4 ⟨⟨a7, n7, c7, rfl, hs7⟩, hB7⟩
    obtain rfl : n7 = 0 := hs7.1.symm
    have hBF4 := hBF3.trans (hB7.mono hBF3.size)
    clear hs7 hB7 hBF3 hr6
    go_wp2_with fail
    go_ret
    exact ⟨rfl, hBF4⟩
  · have hcb : ((c : Int) == 0) = false := by simp; exact hc0
    have hvr := vread_cut x c hx0 hx1 hcL
    have hby := (vform_bytes x hx0)
    have HVF := Lib.hid hvr
    have HRF := Lib.hid (readRes_eq' hvr)
    have HBY : Hid (Bytes ((vform x).take c)) := Lib.hid (Bytes.take hby c)
    have HNE : Hid ((vform x).take c ≠ []) := Lib.hid (fun h => by have := congrArg List.length h; rw [List.length_take, List.length_nil] at this; omega)
    clear hvr hby hc0
    go_enter Try.func11, Try.ntmps11
    go_wp2_with fail
    refine (awake_any w).mono ?_
    rintro e w1 ⟨rfl, hB1⟩
    go_wp2_with fail
    refine (write_any x w1 hx0 hx1).mono ?_
    rintro e w2 ⟨a2, c2, rfl, hown2, hB2⟩
    have hBB2 := hB1.trans (hB2.mono hB1.size)
    have hs2 := (hs.below hB1).below hB2
    clear hs hB1 hB2
    have hc2 := (own_sl hown2).2.1
    have hc2I : (c : Int) ≤ (c2 : Int) := by omega
    have hsF := (own_sl hown2).upto c (by omega)
    have hsl := hs2
    have hBF := hBB2
    clear hs2 hBB2 hown2
    obtain ⟨fb, hfb⟩ : ∃ fb, fb = (vform x).take c := ⟨_, rfl⟩
    rw [← hfb] at HVF HRF HBY HNE hsF
    clear hfb
    go_wp2_with fail
    refine (read_any _ _ _ fb _ hsF HBY.out).mono ?_
    rw [HRF.out]
    rintro e wr1 ⟨rfl, hBr1⟩
    have hsF1 := hsF.below hBr1
    have hsl1 := hsl.below hBr1
    have hBF1 := hBF.trans (hBr1.mono hBF.size)
    clear hsF hsl hBF hBr1
    go_wp2_with fail
    have e20 : (min (len : Int) 20).toNat = min len 20 := by omega
    rw [e20]
    have hp := hsl1.upto (min len 20) (Nat.min_le_left _ _)
    have hnk := hn.take (min len 20)
    have hm20 : min len 20 ≤ 20 := Nat.min_le_right _ _
    clear e20 hsl1 hi10 hi11
    generalize l.take (min len 20) = k at *
    generalize min len 20 = m at *
    have hvl : (vwall k).length ≤ 200 := by
      have h1 := vwall_length k
      have h2 := vsizes_le hnk
      have h3 := hp.1
      omega
    have HVR := Lib.hid (vreads_wrong k fb hnk HBY.out HNE.out (by rw [HVF.out]; decide))
    have HB2 := Lib.hid ((vwall_bytes hnk).append HBY.out)
    refine (writeAll_any wr1 a m cap k hp hnk (by omega)).mono ?_
    rintro e wr2 ⟨a5, c5, rfl, hown5, hB5⟩
    have hsF2 := hsF1.below hB5
    have hwr1 := hBF1.size
    have hBF2 := hBF1.trans (hB5.mono hBF1.size)
    have hsz2 := hB5.size
    clear hsF1 hBF1 hB5 hp
    go_wp2_with (at_builtin; refine wpList_append_onsl _ rfl (.tmp 88) (.tmp 89) 25 rfl .u8 wr1.heap.size 5 i0 1 Try.underlying25 hi hz0 hz1 hz2 _ (vwall k) _ _ _ fb rfl rfl hown5 hsF2 (by unfold maxLen; omega) (by omega) hsz2 ?_)
    intro v6 wr3 hown6 hgrow6
    have hBF3 := hBF2.grown hgrow6 hBF2.size (fun g hg => Nat.le_trans hwr1 (hown5.lt g hg).1)
    have hown6' : wr3.ownsRow wr1.heap.size 5 1 v6 ((vwall k).length + fb.length) ((vwall k ++ fb).map (Value.int .u8)) := by simpa using hown6
    obtain ⟨a6, c6, rfl⟩ := own_shape hown6'
    have hr6 := own_sl hown6'
    have hl6 : (vwall k).length + fb.length ≤ 1000000 := by have := hsF2.1; omega
    clear hown6 hown6' hgrow6 hown5 hsF2 hBF2
    go_wp2_with fail
    refine (readAll_any wr3 a6 _ c6 _ hr6 HB2.out hl6).mono ?_
    rw [HVR.out, HVF.out]
    rintro e wr4 ⟨⟨a7, n7, c7, rfl, hs7⟩, hB7⟩
    obtain rfl : n7 = 0 := hs7.1.symm
    have hBF4 := hBF3.trans (hB7.mono hBF3.size)
    clear hs7 hB7 hBF3 hr6
    go_wp2_with fail
    go_ret
    exact ⟨rfl, hBF4⟩
end Go.Proofs.Yteddbpcpllehoaa
