/-
  The contracts of the reference's Linear, Update, Sum, Shift. No condition but those in each statement.
-/
import Derived.Test.YtdaijbplbnkpeaaDoorRga
namespace Go.Proofs.YtdaijbplbnkpeaaDoor
open Go.RowKit Go.Shelf

theorem rvn_low (R k : Nat) (hk : k ≤ 32) : rvn (R % 2 ^ k) 32 % 2 ^ (32 - k) = 0 := by
  refine Nat.eq_of_testBit_eq fun i => ?_
  rw [Nat.testBit_mod_two_pow, rvn_bit, Nat.testBit_mod_two_pow, Nat.zero_testBit]
  by_cases h : i < 32 - k
  · have : ¬ 32 - 1 - i < k := by omega
    simp [this]
  · simp [h]
theorem rvn_two (k : Nat) (hk : k < 32) : rvn (2 ^ k) 32 = 2 ^ (31 - k) := by
  refine Nat.eq_of_testBit_eq fun i => ?_
  rw [rvn_bit, Nat.testBit_two_pow, Nat.testBit_two_pow]
  by_cases h : i < 32
  · by_cases h2 : 31 - k = i
    · have : k = 32 - 1 - i := by omega
      simp [h, this]; omega
    · have : ¬ k = 32 - 1 - i := by omega
      simp [this, h2]
  · have : ¬ 31 - k = i := by omega
    simp [h, this]
theorem rvn_step {R k : Nat} (hk : k < 32) (hb : R.testBit k = true) : rvn (R % 2 ^ (k + 1)) 32 = rvn (R % 2 ^ k) 32 + 2 ^ (31 - k) := by
  have h0 := rvn_low R k (by omega)
  have h1 := mod_step R k
  rw [if_pos hb] at h1
  rw [h1, rvn_xor, rvn_two k hk]
  have h2 : rvn (R % 2 ^ k) 32 % 2 ^ (31 - k + 1) = 0 := by rw [show 31 - k + 1 = 32 - k from by omega]; exact h0
  rw [← or_xor h2]
  obtain ⟨t, ht⟩ := Nat.dvd_of_mod_eq_zero h2
  rw [ht]
  exact (Nat.two_pow_add_eq_or_of_lt (i := 31 - k + 1) (b := 2 ^ (31 - k)) (Nat.pow_lt_pow_right (by omega) (by omega)) t).symm
theorem rvn_skip {R k : Nat} (hb : ¬ R.testBit k = true) : rvn (R % 2 ^ (k + 1)) 32 = rvn (R % 2 ^ k) 32 := by
  have h1 := mod_step R k
  rw [if_neg hb] at h1
  rw [h1]

set_option maxRecDepth 100000 in
set_option maxHeartbeats 2000000 in
theorem rlinear_any (a : Option Addr) (m cap : Nat) (l : List Int) (w : World) (hS : Sl .u8 w a m cap l) (hB : Bys l) (hm : m ≤ 1000) :
    Calls Tryd.prog 39 #[.slice a m cap] w fun e w' => e = .returned (.int .u32 ((fol 0 l : Nat) : Int)) ∧ Below w.heap.size w w' := by
  have hl := hS.1
  have hP := bp_bl hB
  have hPb : bl (bp 0 l * 2 ^ 32) ≤ 10000 := Nat.le_trans (bl_le.2 (show bp 0 l * 2 ^ 32 < 2 ^ (8 * m + 32) by rw [Nat.pow_add]; exact Nat.mul_lt_mul_of_pos_right (by rw [← hl]; exact hP) (Nat.two_pow_pos _))) (by omega)
  have hres := bp_lin hB
  have hbits := fun w hS => bits_any a m cap l w hS hB hm
  obtain ⟨P, hPe⟩ : ∃ P, P = bp 0 l * 2 ^ 32 := ⟨_, rfl⟩
  rw [← hPe] at hPb hres
  simp only [← hPe] at hbits
  obtain ⟨R, hR⟩ : ∃ R, R = pm P gP := ⟨_, rfl⟩
  have hRl : bl R ≤ 32 := by rw [hR]; have := pm_bl P gP_ne; rw [gP_bl] at this; omega
  have hRm : R % 2 ^ bl R = R := Nat.mod_eq_of_lt (bl_hi R)
  rw [← hR] at hres
  rw [← hres]
  clear hres hP hPe
  go_enter Tryd.func39, Tryd.ntmps39
  go_wp2_with fail
  refine (hbits w hS).mono ?_
  rintro e w1 ⟨a1, c1, rfl, hC1, hB1⟩
  go_wp2_with fail
  refine (of_any w1 gP (by decide)).mono ?_
  rintro e w2 ⟨a2, c2, rfl, hC2, hb2⟩
  have hB2 := below_step hB1 hb2
  have hC1' := hC1.below hb2
  go_wp2_with fail
  refine (divide_any w2 a1 a2 c1 c2 P gP hC1' hC2 hPb gP_ne (by rw [gP_bl]; omega)).mono ?_
  rintro e w3 ⟨a3, c3, a4, c4, rfl, _, hC4, hb3⟩
  have hB3 := below_step hB2 hb3
  rw [← hR] at hC4
  simp only [← hR]
  have hcc := hC4.2.1
  have hcm := hC4.2.2.1
  have hC := Lib.hid hC4
  clear hC1 hC1' hC2 hb2 hb3 hB1 hB2 hR hC4 hPb
  obtain ⟨n, hn'⟩ : ∃ n, n = bl R := ⟨_, rfl⟩
  rw [← hn'] at hRl hcc hRm
  simp only [← hn']
  go_wp2_with fail
  go_loop [5, 6] (fun C I => ∃ k c : Nat, k ≤ n ∧ I = .int .i64 (k : Int) ∧ C = .int .u32 (c : Int) ∧ c = rvn (R % 2 ^ k) 32) (fun C I => n - (intOf I).toNat)
  case atStart => exact ⟨0, 0, by omega, rfl, rfl, by rw [Nat.pow_zero, Nat.mod_one]; decide +kernel⟩
  case round =>
    obtain ⟨k, c, hk, rfl, rfl, hc⟩ := hrel
    have hcl : c < 4294967296 := by rw [hc]; exact rvn_lt _ _
    have HC := Lib.hid hc
    clear hc
    by_cases hlt : k < n
    · obtain ⟨b, off, rfl, _, hcell⟩ := hC.out.view (by omega)
      have hcB := hcell k (by omega)
      clear hcell
      by_cases hb : R.testBit k = true
      · have hcf : cf R k = 1 := by unfold cf; rw [hb]; rfl
        rw [hcf] at hcB
        have hst := rvn_step (R := R) (k := k) (by omega) hb
        rw [← HC.out] at hst
        have hsl : rvn (R % 2 ^ (k + 1)) 32 < 4294967296 := rvn_lt _ _
        have hpw : 2 ^ (31 - k) < 4294967296 := Nat.pow_lt_pow_right (n := 32) (by omega) (by omega)
        obtain ⟨D, hD⟩ : ∃ D, D = 2 ^ (31 - k) := ⟨_, rfl⟩
        rw [← hD] at hst hpw
        have e1 : (2 : Int) ^ (31 - k) = (D : Int) := by rw [hD]; push_cast; rfl
        have e2 : (31 - (k : Int)).toNat = 31 - k := by omega
        have hcD : c + D < 4294967296 := by omega
        have HST := Lib.hid hst
        clear hb hcf hst hsl hD
        go_wp2_with fail
        go_round
        case rel => exact ⟨k + 1, c + D, by omega, by go_num, by go_num, HST.out.symm⟩
        case measure => simp [intOf]; omega
      · have hcf : cf R k = 0 := by unfold cf; rw [if_neg hb]
        rw [hcf] at hcB
        have hst := rvn_skip (R := R) (k := k) hb
        rw [← HC.out] at hst
        have HST := Lib.hid hst
        clear hb hcf hst
        go_wp2_with fail
        go_round
        case rel => exact ⟨k + 1, c, by omega, by go_num, rfl, HST.out.symm⟩
        case measure => simp [intOf]; omega
    · obtain rfl : k = n := by omega
      have HR := Lib.hid hRm
      clear hRm
      go_wp2_with fail
      go_ret
      exact ⟨retN (by rw [HC.out, HR.out]), hB3⟩

/-- One byte, as the reference takes it. -/
theorem next_parts (c x : Nat) (hx : x < 256) : c / 256 ^^^ hn 8 (c % 256 ^^^ x) = hn 8 (c ^^^ x) := by
  have h := hn_parts (c ^^^ x) 8
  have e1 : (c ^^^ x) / 2 ^ 8 = c / 256 := by
    rw [Nat.xor_div_two_pow, Nat.div_eq_of_lt hx, Nat.xor_zero]
  have e2 : (c ^^^ x) % 2 ^ 8 = c % 256 ^^^ x := by
    rw [Nat.xor_mod_two_pow, Nat.mod_eq_of_lt hx]
  rw [h, e1, e2]

set_option maxRecDepth 100000 in
set_option maxHeartbeats 2000000 in
theorem rupdate_any (c : Nat) (a : Option Addr) (m cap : Nat) (l : List Int) (w : World) (hc : c < 4294967296) (hS : Sl .u8 w a m cap l) (hB : Bys l) :
    Calls Tryd.prog 38 #[.int .u32 (c : Int), .slice a m cap] w fun e w' => e = .returned (.int .u32 ((upd c l : Nat) : Int)) ∧ Below w.heap.size w w' := by
  have hl := hS.1
  have hcap : m ≤ 9223372036854775807 := by have := hS.2.1; have := hS.2.2.1; omega
  have e1 := compl32 (c := c) hc
  have hC : 4294967295 ^^^ c < 4294967296 := Nat.xor_lt_two_pow (n := 32) (by omega) hc
  have hR : upd c l = 4294967295 ^^^ fol (4294967295 ^^^ c) l := rfl
  have hRl : fol (4294967295 ^^^ c) l < 4294967296 := fol_lt hB hC
  have e2 := compl32 hRl
  rw [e2] at hR
  rw [hR]
  obtain ⟨d, hd⟩ : ∃ d, d = 4294967295 ^^^ c := ⟨_, rfl⟩
  rw [← hd] at e1 hC hRl ⊢
  have hdi : (4294967295 : Int) - (c : Int) = (d : Int) := by omega
  obtain ⟨r, hr⟩ : ∃ r, r = fol d l := ⟨_, rfl⟩
  rw [← hr] at hRl ⊢
  have HR := Lib.hid hr
  have HL := Lib.hid hl
  clear hr hl hR e2 e1 hd
  go_enter Tryd.func38, Tryd.ntmps38
  go_wp2_with fail
  go_loopw [0, 5] (fun C I wr => ∃ (x j : Nat), x < 4294967296 ∧ j ≤ m ∧ C = .int .u32 (x : Int) ∧ I = .int .i64 (j : Int) ∧ x = fol d (l.take j) ∧ Below w.heap.size w wr) (fun C I _ => m - (intOf I).toNat)
  case atStart => exact ⟨d, 0, hC, Nat.zero_le _, rfl, rfl, by simp [fol_nil], Below.refl _ _⟩
  case round =>
    obtain ⟨x, j, hx, hj, rfl, rfl, he, hBw⟩ := hrel
    have HE := Lib.hid he
    clear he
    by_cases hlt : j < m
    · obtain ⟨b, o, y, rfl, hy, hy2, hcell⟩ := (hS.below hBw).byte hB hlt
      have HY := Lib.hid hy
      have hnp := next_parts x y hy2
      have hx1 := bits8_xor (x % 256) y (by omega) hy2 ((x : Int) % 256) (y : Int) (by omega) rfl
      obtain ⟨z, hz⟩ : ∃ z, z = x % 256 ^^^ y := ⟨_, rfl⟩
      have hzl : z < 256 := by rw [hz]; exact Nat.xor_lt_two_pow (n := 8) (by omega) hy2
      rw [← hz] at hx1 hnp
      have hx2 := bits32_xor (x / 256) (hn 8 z) (by omega) (hn_lt 8 (by omega)) ((x : Int) / 256) _ (by omega) rfl
      rw [hnp] at hx2
      have hnew : hn 8 (x ^^^ y) < 4294967296 := hn_lt 8 (Nat.xor_lt_two_pow (n := 32) hx (by omega))
      have q := rlinear_any (some ⟨wr.heap.size, 0, none⟩) 1 1 [(z : Int)] (wr.alloc (.cells #[.int .u8 (z : Int)] 5)) (one_sl wr .u8 (z : Int) _) (Bys.cons (by omega) Bys.nil) (by omega)
      rw [fol_cons, fol_nil, Nat.zero_xor, Int.toNat_natCast] at q
      have hBa : Below w.heap.size w (wr.alloc (.cells #[.int .u8 (z : Int)] 5)) := hBw.alloc hBw.size _
      have hm1 : (x : Int).tmod 256 = (x : Int) % 256 := Int.tmod_eq_emod_of_nonneg (by omega)
      have hd1 : (x : Int).tdiv 256 = (x : Int) / 256 := Int.tdiv_eq_ediv_of_nonneg (by omega)
      have HN := Lib.hid hnew
      clear hy hnp hz hnew
      go_wp2_with fail
      refine q.mono ?_
      rintro e w2 ⟨rfl, hb⟩
      have hB2 := below_step hBa hb
      clear q hb hBa hBw
      go_wp2_with fail
      go_roundw
      case rel =>
        refine ⟨hn 8 (x ^^^ y), j + 1, HN.out, by omega, rfl, by go_num, ?_, hB2⟩
        rw [fol_step d (by rw [HL.out]; exact hlt), HY.out, ← HE.out]; rfl
      case measure => simp [intOf]; omega
    · obtain rfl : j = m := by omega
      have hxr : x = r := by rw [HR.out, HE.out, List.take_of_length_le (by rw [HL.out]; exact Nat.le_refl _)]
      subst hxr
      go_wp2_with fail
      go_ret
      exact ⟨retN (by omega), hBw⟩

set_option maxHeartbeats 400000 in
theorem rsum_any (a : Option Addr) (m cap : Nat) (l : List Int) (w : World) (hS : Sl .u8 w a m cap l) (hB : Bys l) :
    Calls Tryd.prog 37 #[.slice a m cap] w fun e w' => e = .returned (.int .u32 ((upd 0 l : Nat) : Int)) ∧ Below w.heap.size w w' := by
  have hf := rupdate_any 0 a m cap l w (by omega) hS hB
  go_enter Tryd.func37, Tryd.ntmps37
  go_wp2_with fail
  refine hf.mono ?_
  rintro e w' ⟨rfl, hb⟩
  go_wp2_with fail
  go_ret
  exact ⟨rfl, hb⟩

set_option maxRecDepth 100000 in
set_option maxHeartbeats 2000000 in
theorem rshift_any (c n : Nat) (w : World) (hc : c < 4294967296) (hn' : n ≤ 16777216) :
    Calls Tryd.prog 41 #[.int .u32 (c : Int), .int .i64 (n : Int)] w fun e w' => e = .returned (.tuple #[.int .u32 ((hn (8 * n) c : Nat) : Int), .int .i64 0]) ∧ Below w.heap.size w w' := by
  have hd0 : decide ((n : Int) < 0) = false := by simp
  have hd1 : decide ((16777216 : Int) < (n : Int)) = false := by simp; omega
  obtain ⟨R, hR⟩ : ∃ R, R = hn (8 * n) c := ⟨_, rfl⟩
  rw [← hR]
  have HR := Lib.hid hR
  clear hR
  go_enter Tryd.func41, Tryd.ntmps41
  go_wp2_with fail
  go_loopw [0, 6] (fun C I wr => ∃ (x j : Nat), x < 4294967296 ∧ j ≤ n ∧ C = .int .u32 (x : Int) ∧ I = .int .i64 (j : Int) ∧ x = hn (8 * j) c ∧ Below w.heap.size w wr) (fun C I _ => n - (intOf I).toNat)
  case atStart => exact ⟨c, 0, hc, Nat.zero_le _, rfl, rfl, rfl, Below.refl _ _⟩
  case round =>
    obtain ⟨x, j, hx, hj, rfl, rfl, he, hBw⟩ := hrel
    have HE := Lib.hid he
    clear he
    by_cases hlt : j < n
    · have hnp := next_parts x 0 (by omega)
      rw [Nat.xor_zero, Nat.xor_zero] at hnp
      obtain ⟨z, hz⟩ : ∃ z, z = x % 256 := ⟨_, rfl⟩
      have hzl : z < 256 := by omega
      have hzi : (x : Int) % 256 = (z : Int) := by omega
      rw [← hz] at hnp
      have hx2 := bits32_xor (x / 256) (hn 8 z) (by omega) (hn_lt 8 (by omega)) ((x : Int) / 256) _ (by omega) rfl
      rw [hnp] at hx2
      have hnew : hn 8 x < 4294967296 := hn_lt 8 hx
      have q := rlinear_any (some ⟨wr.heap.size, 0, none⟩) 1 1 [(z : Int)] (wr.alloc (.cells #[.int .u8 (z : Int)] 5)) (one_sl wr .u8 (z : Int) _) (Bys.cons (by omega) Bys.nil) (by omega)
      rw [fol_cons, fol_nil, Nat.zero_xor, Int.toNat_natCast] at q
      have hBa : Below w.heap.size w (wr.alloc (.cells #[.int .u8 (z : Int)] 5)) := hBw.alloc hBw.size _
      have hm1 : (x : Int).tmod 256 = (z : Int) := by rw [← hzi]; exact Int.tmod_eq_emod_of_nonneg (by omega)
      have hd1 : (x : Int).tdiv 256 = (x : Int) / 256 := Int.tdiv_eq_ediv_of_nonneg (by omega)
      have HN := Lib.hid hnew
      clear hnp hz hnew
      go_wp2_with fail
      refine q.mono ?_
      rintro e w2 ⟨rfl, hb⟩
      have hB2 := below_step hBa hb
      clear q hb hBa hBw
      go_wp2_with fail
      go_roundw
      case rel =>
        refine ⟨hn 8 x, j + 1, HN.out, by omega, rfl, by go_num, ?_, hB2⟩
        rw [HE.out, ← hn_add, Nat.mul_succ]
      case measure => simp [intOf]; omega
    · obtain rfl : j = n := by omega
      have hxr : x = R := by rw [HR.out, HE.out]
      subst hxr
      go_wp2_with fail
      go_ret2
      exact ⟨rfl, hBw⟩
set_option maxHeartbeats 400000 in
theorem rshift_no (c n : Int) (w : World) (h : n < 0 ∨ 16777216 < n) :
    Calls Tryd.prog 41 #[.int .u32 c, .int .i64 n] w fun e w' => e = .returned (.tuple #[.int .u32 0, .int .i64 2]) ∧ w = w' := by
  by_cases h0 : n < 0
  · have hd0 : decide (n < 0) = true := by simpa using h0
    clear h
    go_enter Tryd.func41, Tryd.ntmps41
    go_wp2_with fail
    go_ret2
    exact ⟨rfl, rfl⟩
  · have h1 : 16777216 < n := by omega
    have hd0 : decide (n < 0) = false := by simpa using h0
    have hd1 : decide (16777216 < n) = true := by simpa using h1
    clear h
    go_enter Tryd.func41, Tryd.ntmps41
    go_wp2_with fail
    go_ret2
    exact ⟨rfl, rfl⟩
end Go.Proofs.YtdaijbplbnkpeaaDoor
