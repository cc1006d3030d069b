/-
  The walk of the law on what is written and read back. No condition but those in each statement.
-/
import Derived.Test.YtjajojdlgpmpfaaDoorPaw
import Derived.Test.YtjajojdlgpmpfaaDoorPrd
namespace Go.Proofs.YtjajojdlgpmpfaaDoor
open Go.RowKit Go.Shelf

theorem text_as (p : Nat) (T : ByteArray) (hp : p < 18446744073709551616) (hT : T.data.toList = textT p) (w : World) :
    Calls Tryd.prog 18 #[.int .u64 (p : Int)] w fun e w' => e = .returned (.string T) ∧ Below w.heap.size w w' := by
  refine (text_any p w hp).mono ?_
  rintro e w' ⟨⟨t, ht, rfl⟩, hB⟩
  obtain rfl : t = T := by rw [ht]; exact ByteArray.ext (by rw [← hT])
  exact ⟨rfl, hB⟩
theorem read_as (s : ByteArray) (l : List UInt8) (P : Nat) (E : Int) (hs : s.data.toList = l) (hP : readR l = (P, E)) (w : World) :
    Calls Tryd.prog 16 #[.string s] w fun e w' => e = .returned (.tuple #[.int .u64 (P : Int), .int .i64 E]) ∧ w = w' := by
  have := read_any s l w hs
  rw [hP] at this
  exact this
theorem reverse_as (p k R : Nat) (hp : p < 18446744073709551616) (hk : k ≤ 64) (hR : rvn p k = R) (w : World) :
    Calls Tryd.prog 28 #[.int .u64 (p : Int), .int .i64 (k : Int)] w fun e w' => e = .returned (.tuple #[.int .u64 (R : Int), .int .i64 0]) ∧ w = w' := by
  subst hR; exact reverse_any p k w hp hk

set_option maxRecDepth 100000 in
set_option maxHeartbeats 4000000 in
theorem back_walk (W : World) (a b : Int) (s : ByteArray) (n : Int) (wa : (Lit.int .u64 a).wf = true) (wb : (Lit.int .u64 b).wf = true) (wn : (Lit.int .u8 n).wf = true) :
    Calls Tryd.prog 11 #[.int .u64 a, .int .u64 b, .string s, .int .u8 n] W fun e w' => e = .returned (.bool true) ∧ Below W.heap.size W w' := by
  obtain ⟨a, rfl, ha⟩ := nat_u64 wa
  obtain ⟨b, rfl, hb⟩ := nat_u64 wb
  have hn := bounds_u8 wn
  obtain ⟨n, rfl⟩ := Int.eq_ofNat_of_zero_le hn.1
  clear wa wb wn
  obtain ⟨TA, hTA⟩ : ∃ T : ByteArray, T.data.toList = textT a := ⟨⟨(textT a).toArray⟩, rfl⟩
  obtain ⟨TB, hTB⟩ : ∃ T : ByteArray, T.data.toList = textT b := ⟨⟨(textT b).toArray⟩, rfl⟩
  have c1 := text_as a TA ha hTA
  have c2 := text_as b TB hb hTB
  have c3 := read_as TA (textT a) a 0 hTA (readR_text ha)
  obtain ⟨B, hB1, hB2⟩ : ∃ B : Bool, (TA.toList == TB.toList) = B ∧ ((a : Int) == (b : Int)) = B := by
    by_cases h : a = b
    · refine ⟨true, ?_, by simp [h]⟩
      rw [toL, toL, hTA, hTB, h]; simp
    · refine ⟨false, ?_, by simp; omega⟩
      rw [toL, toL, hTA, hTB]
      simpa using fun e => h (textT_inj ha hb e)
  clear hTA hTB
  obtain ⟨P, E, hPE⟩ : ∃ P E, readR s.data.toList = (P, E) := ⟨_, _, rfl⟩
  have c4 := read_as s _ P E rfl hPE
  have hsp := readR_spec s.data.toList
  rw [hPE] at hsp
  simp only at hsp
  clear hPE
  -- reversing
  obtain ⟨K, hK⟩ : ∃ K, K = n % 65 := ⟨_, rfl⟩
  have iK : (n : Int) % 65 = (K : Int) := by omega
  have hK64 : K ≤ 64 := by omega
  clear hK
  have lY : rvn a K < 18446744073709551616 := Nat.lt_of_lt_of_le (rvn_lt a K) (Nat.pow_le_pow_right (by omega) hK64)
  have c5 := reverse_as a K _ ha hK64 rfl
  have c6 := reverse_as (rvn a K) K _ lY hK64 (rvn_rvn a K)
  have hYlt := rvn_lt a K
  obtain ⟨Y, hY⟩ : ∃ Y, Y = rvn a K := ⟨_, rfl⟩
  obtain ⟨L, hL⟩ : ∃ L, L = a % 2 ^ K := ⟨_, rfl⟩
  obtain ⟨D, hD⟩ : ∃ D, D = 2 ^ K := ⟨_, rfl⟩
  rw [← hY] at c5 c6 hYlt lY
  rw [← hL] at c6
  have hDf : K < 64 → IntKind.u64.wrap ((2 : Int) ^ K) = (D : Int) := fun h => by
    rw [hD]
    exact wrapN _ ((bl_le (k := 64)).1 (by rw [bl_two_pow]; omega)) _ (by push_cast; rfl)
  have hDp : 0 < D := by rw [hD]; exact Nat.two_pow_pos K
  have hLD : (a : Int) % (D : Int) = (L : Int) := by rw [hL, ← hD]; exact (Int.natCast_emod _ _).symm
  have hLa : K = 64 → L = a := fun h => by rw [hL, h]; exact Nat.mod_eq_of_lt ha
  rw [← hD] at hYlt
  clear hD hL hY
  have hYD2 : decide (Y < D) = true := by simp; omega
  have hYD : decide ((Y : Int) < (D : Int)) = true := by simp; omega
  have hDz : ((D : Int) == 0) = false := by simp; omega
  have hD1 : (1 : Int) ≤ (D : Int) := by omega
  have hDne : ¬ (D : Int) = 0 := by omega
  clear hYlt hDp
  have hcase : (E = 0 ∧ textT P = s.data.toList ∧ P < 2 ^ 64) ∨ ((E = 3 ∨ E = 30) ∧ P = 0) := by
    by_cases h : E = 0
    · exact .inl ⟨h, hsp.1 h⟩
    · exact .inr ⟨(hsp.2 h).2, (hsp.2 h).1⟩
  clear hsp
  rcases hcase with ⟨rfl, hPs, hPl⟩ | ⟨hE, rfl⟩
  · have c7 := text_as P s (by simpa using hPl) hPs.symm
    clear hPs hPl
    by_cases hk : K < 64
    · have hDf' := hDf hk
      have hkd : decide ((K : Int) < 64) = true := by simp; omega
      have hke : ((K : Int) == 64) = false := by simp; omega
      clear hDf hLa
      go_enter Tryd.func11, Tryd.ntmps11
      go_wp2_with fail
      refine (c1 _).mono ?_
      rintro e w1 ⟨rfl, hB1'⟩
      go_wp2_with fail
      refine (c2 _).mono ?_
      rintro e w2 ⟨rfl, hB2'⟩
      have hb2 := below_step hB1' hB2'
      clear hB1' hB2'
      go_wp2_with fail
      refine (c3 _).mono ?_
      rintro e w3 ⟨rfl, rfl⟩
      go_wp2_with fail
      refine (c4 _).mono ?_
      rintro e w4 ⟨rfl, rfl⟩
      go_wp2_with fail
      refine (c7 _).mono ?_
      rintro e w4 ⟨rfl, hB4⟩
      have hb4 := below_step hb2 hB4
      clear hb2 hB4
      go_wp2_with fail
      refine (c5 _).mono ?_
      rintro e w5 ⟨rfl, rfl⟩
      go_wp2_with fail
      refine (c6 _).mono ?_
      rintro e w6 ⟨rfl, rfl⟩
      go_wp2_with fail
      refine (awake_any _).mono ?_
      rintro e w7 ⟨rfl, hB7⟩
      have hb7 := below_step hb4 hB7
      go_wp2_with fail
      go_ret
      exact ⟨rfl, hb7⟩
    · obtain rfl : K = 64 := by omega
      obtain rfl := hLa rfl
      clear hDf hLD hYD hYD2 hDz hD1 hDne hk
      go_enter Tryd.func11, Tryd.ntmps11
      go_wp2_with fail
      refine (c1 _).mono ?_
      rintro e w1 ⟨rfl, hB1'⟩
      go_wp2_with fail
      refine (c2 _).mono ?_
      rintro e w2 ⟨rfl, hB2'⟩
      have hb2 := below_step hB1' hB2'
      clear hB1' hB2'
      go_wp2_with fail
      refine (c3 _).mono ?_
      rintro e w3 ⟨rfl, rfl⟩
      go_wp2_with fail
      refine (c4 _).mono ?_
      rintro e w4 ⟨rfl, rfl⟩
      go_wp2_with fail
      refine (c7 _).mono ?_
      rintro e w4 ⟨rfl, hB4⟩
      have hb4 := below_step hb2 hB4
      clear hb2 hB4
      go_wp2_with fail
      refine (c5 _).mono ?_
      rintro e w5 ⟨rfl, rfl⟩
      go_wp2_with fail
      refine (c6 _).mono ?_
      rintro e w6 ⟨rfl, rfl⟩
      go_wp2_with fail
      refine (awake_any _).mono ?_
      rintro e w7 ⟨rfl, hB7⟩
      have hb7 := below_step hb4 hB7
      go_wp2_with fail
      go_ret
      exact ⟨rfl, hb7⟩
  · rcases hE with rfl | rfl <;> by_cases hk : K < 64
    · have hDf' := hDf hk
      have hkd : decide ((K : Int) < 64) = true := by simp; omega
      have hke : ((K : Int) == 64) = false := by simp; omega
      clear hDf hLa
      go_enter Tryd.func11, Tryd.ntmps11
      go_wp2_with fail
      refine (c1 _).mono ?_
      rintro e w1 ⟨rfl, hB1'⟩
      go_wp2_with fail
      refine (c2 _).mono ?_
      rintro e w2 ⟨rfl, hB2'⟩
      have hb2 := below_step hB1' hB2'
      clear hB1' hB2'
      go_wp2_with fail
      refine (c3 _).mono ?_
      rintro e w3 ⟨rfl, rfl⟩
      go_wp2_with fail
      refine (c4 _).mono ?_
      rintro e w4 ⟨rfl, rfl⟩
      go_wp2_with fail
      refine (c5 _).mono ?_
      rintro e w5 ⟨rfl, rfl⟩
      go_wp2_with fail
      refine (c6 _).mono ?_
      rintro e w6 ⟨rfl, rfl⟩
      go_wp2_with fail
      refine (awake_any _).mono ?_
      rintro e w7 ⟨rfl, hB7⟩
      have hb7 := below_step hb2 hB7
      go_wp2_with fail
      go_ret
      exact ⟨rfl, hb7⟩
    · obtain rfl : K = 64 := by omega
      obtain rfl := hLa rfl
      clear hDf hLD hYD hYD2 hDz hD1 hDne hk
      go_enter Tryd.func11, Tryd.ntmps11
      go_wp2_with fail
      refine (c1 _).mono ?_
      rintro e w1 ⟨rfl, hB1'⟩
      go_wp2_with fail
      refine (c2 _).mono ?_
      rintro e w2 ⟨rfl, hB2'⟩
      have hb2 := below_step hB1' hB2'
      clear hB1' hB2'
      go_wp2_with fail
      refine (c3 _).mono ?_
      rintro e w3 ⟨rfl, rfl⟩
      go_wp2_with fail
      refine (c4 _).mono ?_
      rintro e w4 ⟨rfl, rfl⟩
      go_wp2_with fail
      refine (c5 _).mono ?_
      rintro e w5 ⟨rfl, rfl⟩
      go_wp2_with fail
      refine (c6 _).mono ?_
      rintro e w6 ⟨rfl, rfl⟩
      go_wp2_with fail
      refine (awake_any _).mono ?_
      rintro e w7 ⟨rfl, hB7⟩
      have hb7 := below_step hb2 hB7
      go_wp2_with fail
      go_ret
      exact ⟨rfl, hb7⟩
    · have hDf' := hDf hk
      have hkd : decide ((K : Int) < 64) = true := by simp; omega
      have hke : ((K : Int) == 64) = false := by simp; omega
      clear hDf hLa
      go_enter Tryd.func11, Tryd.ntmps11
      go_wp2_with fail
      refine (c1 _).mono ?_
      rintro e w1 ⟨rfl, hB1'⟩
      go_wp2_with fail
      refine (c2 _).mono ?_
      rintro e w2 ⟨rfl, hB2'⟩
      have hb2 := below_step hB1' hB2'
      clear hB1' hB2'
      go_wp2_with fail
      refine (c3 _).mono ?_
      rintro e w3 ⟨rfl, rfl⟩
      go_wp2_with fail
      refine (c4 _).mono ?_
      rintro e w4 ⟨rfl, rfl⟩
      go_wp2_with fail
      refine (c5 _).mono ?_
      rintro e w5 ⟨rfl, rfl⟩
      go_wp2_with fail
      refine (c6 _).mono ?_
      rintro e w6 ⟨rfl, rfl⟩
      go_wp2_with fail
      refine (awake_any _).mono ?_
      rintro e w7 ⟨rfl, hB7⟩
      have hb7 := below_step hb2 hB7
      go_wp2_with fail
      go_ret
      exact ⟨rfl, hb7⟩
    · obtain rfl : K = 64 := by omega
      obtain rfl := hLa rfl
      clear hDf hLD hYD hYD2 hDz hD1 hDne hk
      go_enter Tryd.func11, Tryd.ntmps11
      go_wp2_with fail
      refine (c1 _).mono ?_
      rintro e w1 ⟨rfl, hB1'⟩
      go_wp2_with fail
      refine (c2 _).mono ?_
      rintro e w2 ⟨rfl, hB2'⟩
      have hb2 := below_step hB1' hB2'
      clear hB1' hB2'
      go_wp2_with fail
      refine (c3 _).mono ?_
      rintro e w3 ⟨rfl, rfl⟩
      go_wp2_with fail
      refine (c4 _).mono ?_
      rintro e w4 ⟨rfl, rfl⟩
      go_wp2_with fail
      refine (c5 _).mono ?_
      rintro e w5 ⟨rfl, rfl⟩
      go_wp2_with fail
      refine (c6 _).mono ?_
      rintro e w6 ⟨rfl, rfl⟩
      go_wp2_with fail
      refine (awake_any _).mono ?_
      rintro e w7 ⟨rfl, hB7⟩
      have hb7 := below_step hb2 hB7
      go_wp2_with fail
      go_ret
      exact ⟨rfl, hb7⟩
end Go.Proofs.YtjajojdlgpmpfaaDoor
