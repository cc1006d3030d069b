/-
  The contracts of the reference's decimal, Text and Read.
-/
import Derived.Test.YtjajojdlgpmpfaaDoorPaw
import Derived.Test.YtjajojdlgpmpfaaDoorPrd
import Derived.Test.YtjajojdlgpmpfaaDoorChk
import Derived.Laws.BytesArg
namespace Go.Proofs.YtjajojdlgpmpfaaDoor
open Go.RowKit Go.Shelf

theorem digit_byte : ∀ n : Fin 10, Lib.decDigits n.val = [UInt8.ofNat (48 + n.val)] := by decide +kernel
set_option maxHeartbeats 1000000 in
theorem dec_one (n : Nat) (h : n < 10) (T : ByteArray) (hT : T.data.toList = Lib.decDigits n) (w : World) :
    Calls Tryd.prog 43 #[.int .i64 (n : Int)] w fun e w' => e = .returned (.string T) ∧ Below w.heap.size w w' := by
  have hd : decide ((n : Int) < 10) = true := by simp; omega
  have hd2 : decide (n < 10) = true := by simp; omega
  have hs : strOfNums [48 + (n : Int)] = T := by
    refine ByteArray.ext (Array.toList_inj.1 ?_)
    have := digit_byte ⟨n, h⟩
    rw [strOfNums_data, hT, this]
    simp only [List.map_cons, List.map_nil]
    congr 2
  have q := run_convert_bytes_arg (P := Tryd.prog) (w.alloc (.cells #[.int .u8 (48 + (n : Int))] 5)) 86 5 Tryd.underlying86 Tryd.underlying5 w.heap.size 0 1 1 [48 + (n : Int)] rfl (fun i hi => by
    obtain rfl : i = 0 := by omega
    simp) 9 Tryd.underlying9
  rw [hs] at q
  clear hT hs
  go_enter Tryd.func43, Tryd.ntmps43
  go_wp2_with fail
  go_ret
  exact ⟨rfl, (Below.refl _ w).alloc (Nat.le_refl _) _⟩
theorem dec_two : ∀ n : Fin 64, 10 ≤ n.val → Lib.decDigits n.val = Lib.decDigits (n.val / 10) ++ Lib.decDigits (n.val % 10) := by decide +kernel
theorem dec_len2 : ∀ j : Fin 64, (Lib.decDigits j.val).length ≤ 2 := by decide +kernel
theorem some_text (l : List UInt8) : ∃ T : ByteArray, T.data.toList = l := ⟨⟨l.toArray⟩, rfl⟩

set_option maxHeartbeats 1000000 in
theorem dec_any (n : Nat) (h : n < 64) (T : ByteArray) (hT : T.data.toList = Lib.decDigits n) (w : World) :
    Calls Tryd.prog 43 #[.int .i64 (n : Int)] w fun e w' => e = .returned (.string T) ∧ Below w.heap.size w w' := by
  by_cases h10 : n < 10
  · exact dec_one n h10 T hT w
  have h2 := dec_two ⟨n, h⟩ (by simp; omega)
  simp only at h2
  obtain ⟨A, hA⟩ := some_text (Lib.decDigits (n / 10))
  obtain ⟨B, hB⟩ := some_text (Lib.decDigits (n % 10))
  have c1 := dec_one (n / 10) (by omega) A hA
  have c2 := dec_one (n % 10) (by omega) B hB
  have hAB : A ++ B = T := by
    refine ByteArray.ext (Array.toList_inj.1 ?_)
    simp [hA, hB, hT, h2]
  obtain ⟨Q, hQ⟩ : ∃ Q, Q = n / 10 := ⟨_, rfl⟩
  obtain ⟨R, hR⟩ : ∃ R, R = n % 10 := ⟨_, rfl⟩
  have iQ : (n : Int) / 10 = (Q : Int) := by omega
  have iR : (n : Int) % 10 = (R : Int) := by omega
  rw [← hQ] at c1
  rw [← hR] at c2
  have hd : decide ((n : Int) < 10) = false := by simp; omega
  have hd2 : decide (n < 10) = false := by simp; omega
  have hsz : ¬ 9223372036854775807 < A.size + B.size := by
    have hl : (Lib.decDigits n).length ≤ 2 := by
      have hh := dec_len2
      exact hh ⟨n, h⟩
    have e1 : A.data.toList.length + B.data.toList.length = (Lib.decDigits n).length := by rw [hA, hB, h2, List.length_append]
    simp at e1; omega
  clear hT h2 hA hB hQ hR
  go_enter Tryd.func43, Tryd.ntmps43
  go_wp2_with fail
  refine (c1 _).mono ?_
  rintro e w1 ⟨rfl, hB1⟩
  go_wp2_with fail
  refine (c2 _).mono ?_
  rintro e w2 ⟨rfl, hB2⟩
  have hb2 := below_step hB1 hB2
  clear hB1 hB2
  go_wp2_with fail
  go_ret
  exact ⟨rfl, hb2⟩

theorem hiT_len {p g : Nat} (h : p < 2 ^ 64) : (hiT p g).length ≤ 400 := by
  unfold hiT
  split
  · simp
  · have hq : p ^^^ p % 2 ^ g < 2 ^ 64 := Nat.xor_lt_two_pow h (Nat.lt_of_le_of_lt (Nat.mod_le _ _) h)
    have := textT_len (p := p ^^^ p % 2 ^ g) (by simpa using hq)
    omega
theorem empty_of (S : ByteArray) (h : S.data.toList = []) : S.toList.isEmpty = true := by rw [toL, h]; rfl
theorem full_of (S : ByteArray) (h : S.data.toList ≠ []) : S.toList.isEmpty = false := by
  rw [toL]
  cases hq : S.data.toList with
  | nil => exact absurd hq h
  | cons a t => rfl
theorem app_toL (S : ByteArray) (x : List UInt8) : (S ++ (⟨x.toArray⟩ : ByteArray)).data.toList = S.data.toList ++ x := by simp

set_option maxHeartbeats 4000000 in
theorem rtext_any (p : Nat) (T : ByteArray) (hp : p < 18446744073709551616) (hT : T.data.toList = textT p) (w : World) :
    Calls Tryd.prog 19 #[.int .u64 (p : Int)] w fun e w' => e = .returned (.string T) ∧ Below w.heap.size w w' := by
  have HT := Lib.hid hT
  clear hT
  go_enter Tryd.func19, Tryd.ntmps19
  go_wp2_with fail
  go_loopg [3, 4] 64 (fun g S I wx => ∃ (str : ByteArray) (i0 : Int), g ≤ 64 ∧ i0 = (g : Int) - 1 ∧ S = .string str ∧ I = .int .i64 i0 ∧ Aside (str.data.toList = hiT p g) ∧ Below w.heap.size w wx)
  case atStart => exact ⟨⟨#[]⟩, 63, Nat.le_refl _, by decide, rfl, rfl, (hiT_start hp).symm, Below.refl _ _⟩
  case round =>
    obtain ⟨str, i0, hg, hi0, rfl, rfl, hS, hB⟩ := hrel
    cases gk with
    | zero =>
      obtain rfl : i0 = -1 := by omega
      clear hi0
      by_cases h0 : p = 0
      · have hem := empty_of str (by rw [hS.out, hiT_end, if_pos h0])
        go_wp2_with fail
        try rw [Exit.noGoto_ret]
        go_ret
        exact ⟨by rw [show T = ⟨#[48]⟩ from ByteArray.ext (Array.toList_inj.1 (by rw [HT.out, h0]; rfl))]; rfl, hB⟩
      · have he : str.data.toList = textT p := by rw [hS.out, hiT_end, if_neg h0]
        have hem := full_of str (by
          have := hiT_ne (p := p) (g := 0) (by rw [Nat.pow_zero, Nat.mod_one, Nat.xor_zero]; exact h0)
          rw [← hS.out] at this; exact this)
        have HE := Lib.hid he
        clear he
        go_wp2_with fail
        try rw [Exit.noGoto_ret]
        go_ret
        exact ⟨by rw [show T = str from ByteArray.ext (Array.toList_inj.1 (by rw [HT.out, HE.out]))]; rfl, hB⟩
    | succ i =>
      obtain rfl : i0 = (i : Int) := by omega
      clear hi0
      have hnn : decide ((0 : Int) ≤ (i : Int)) = true := by simp
      have hbt : p.testBit i = decide (p / 2 ^ i % 2 = 1) := by rw [Nat.testBit_eq_decide_div_mod_eq]
      have hcast : (p : Int) / 2 ^ i % 2 = ((p / 2 ^ i % 2 : Nat) : Int) := by push_cast; rfl
      have hlen := hiT_len (p := p) (g := i + 1) (by simpa using hp)
      rw [← hS.out] at hlen
      have hlen' : str.size ≤ 400 := by simpa using hlen
      clear hlen
      have hi64 : i < 64 := by omega
      have hnn2 : 0 ≤ (p : Int) / 2 ^ i := Int.ediv_nonneg (Int.natCast_nonneg p) (Int.pow_nonneg (by omega))
      by_cases hb : p.testBit i = true
      · have hb1 : (((p : Int) / 2 ^ i).tmod 2 == 0) = false := by
          rw [hbt] at hb
          rw [Int.tmod_eq_emod_of_nonneg hnn2, hcast]; have := of_decide_eq_true hb; rw [this]; rfl
        have hon := hiT_on hb
        rw [← hS.out] at hon
        clear hbt hcast hb hnn2
        by_cases h0 : str.data.toList = []
        · have hem := empty_of str h0
          rw [if_pos h0, List.nil_append] at hon
          have HO := Lib.hid hon
          have HP := Lib.hid h0
          clear hon h0
          by_cases h1 : 1 < i
          · have hi1 : decide ((1 : Int) < (i : Int)) = true := by simp; omega
            have hi1' : decide (1 < i) = true := by simp; omega
            obtain ⟨D, hD⟩ := some_text (Lib.decDigits i)
            have c1 := dec_any i hi64 D hD
            obtain ⟨S2, hS2⟩ : ∃ S2, str ++ (⟨#[120, 94]⟩ : ByteArray) = S2 := ⟨_, rfl⟩
            obtain ⟨S3, hS3⟩ : ∃ S3, S2 ++ D = S3 := ⟨_, rfl⟩
            have hDl : D.size ≤ 2 := by
              have hh := dec_len2
              have := hh ⟨i, hi64⟩
              rw [← hD] at this; simpa using this
            have hz2 : ¬ 9223372036854775807 < str.size + 2 := by omega
            have e2 : S2.size = str.size + 2 := by rw [← hS2]; simp; rfl
            have hz3 : ¬ 9223372036854775807 < S2.size + D.size := by omega
            have e3 : S3.data.toList = hiT p i := by
              rw [HO.out, ← hS3, ← hS2]
              simp [hD, termT_big (by omega : 2 ≤ i), HP.out]
            have HE := Lib.hid e3
            clear hD e2 e3 hDl h1
            go_wp2_with fail
            refine (c1 _).mono ?_
            rintro e w1 ⟨rfl, hB1⟩
            have hb1 := below_step hB hB1
            clear hB hB1
            go_wp2_with fail
            go_roundg i
            case measure => omega
            case rel => exact ⟨S3, (i : Int) - 1, by omega, rfl, rfl, by go_num, HE.out, hb1⟩
          · by_cases h2 : i = 1
            · have hi1 : decide ((1 : Int) < (i : Int)) = false := by simp; omega
              have hi1' : decide (1 < i) = false := by simp; omega
              have hie : ((i : Int) == 1) = true := by simp; omega
              obtain ⟨S3, hS3⟩ : ∃ S3, str ++ (⟨#[120]⟩ : ByteArray) = S3 := ⟨_, rfl⟩
              have hz2 : ¬ 9223372036854775807 < str.size + 1 := by omega
              have e3 : S3.data.toList = hiT p i := by
                rw [HO.out, ← hS3]
                simp [h2, termT_one, HP.out]
              have HE := Lib.hid e3
              clear e3 h1 h2
              go_wp2_with fail
              go_roundg i
              case measure => omega
              case rel => exact ⟨S3, (i : Int) - 1, by omega, rfl, rfl, by go_num, HE.out, hB⟩
            · have h3 : i = 0 := by omega
              have hi1 : decide ((1 : Int) < (i : Int)) = false := by simp; omega
              have hi1' : decide (1 < i) = false := by simp; omega
              have hie : ((i : Int) == 1) = false := by simp; omega
              obtain ⟨S3, hS3⟩ : ∃ S3, str ++ (⟨#[49]⟩ : ByteArray) = S3 := ⟨_, rfl⟩
              have hz2 : ¬ 9223372036854775807 < str.size + 1 := by omega
              have e3 : S3.data.toList = hiT p i := by
                rw [HO.out, ← hS3]
                simp [h3, termT_zero, HP.out]
              have HE := Lib.hid e3
              clear e3 h1 h2 h3
              go_wp2_with fail
              go_roundg i
              case measure => omega
              case rel => exact ⟨S3, (i : Int) - 1, by omega, rfl, rfl, by go_num, HE.out, hB⟩
        · have hem := full_of str h0
          rw [if_neg h0] at hon
          have HO := Lib.hid hon
          obtain ⟨S1, hS1⟩ : ∃ S1, str ++ (⟨#[43]⟩ : ByteArray) = S1 := ⟨_, rfl⟩
          have hz1 : ¬ 9223372036854775807 < str.size + 1 := by omega
          have e1 : S1.size = str.size + 1 := by rw [← hS1]; simp; rfl
          have HP := Lib.hid (show S1.data.toList = str.data.toList ++ [43] by rw [← hS1]; simp)
          clear hon h0
          by_cases h1 : 1 < i
          · have hi1 : decide ((1 : Int) < (i : Int)) = true := by simp; omega
            have hi1' : decide (1 < i) = true := by simp; omega
            obtain ⟨D, hD⟩ := some_text (Lib.decDigits i)
            have c1 := dec_any i hi64 D hD
            obtain ⟨S2, hS2⟩ : ∃ S2, S1 ++ (⟨#[120, 94]⟩ : ByteArray) = S2 := ⟨_, rfl⟩
            obtain ⟨S3, hS3⟩ : ∃ S3, S2 ++ D = S3 := ⟨_, rfl⟩
            have hDl : D.size ≤ 2 := by
              have hh := dec_len2
              have := hh ⟨i, hi64⟩
              rw [← hD] at this; simpa using this
            have hz2 : ¬ 9223372036854775807 < S1.size + 2 := by omega
            have e2 : S2.size = S1.size + 2 := by rw [← hS2]; simp; rfl
            have hz3 : ¬ 9223372036854775807 < S2.size + D.size := by omega
            have e3 : S3.data.toList = hiT p i := by
              rw [HO.out, ← hS3, ← hS2]
              simp [hD, termT_big (by omega : 2 ≤ i), HP.out]
            have HE := Lib.hid e3
            clear hD e2 e3 hDl h1
            go_wp2_with fail
            refine (c1 _).mono ?_
            rintro e w1 ⟨rfl, hB1⟩
            have hb1 := below_step hB hB1
            clear hB hB1
            go_wp2_with fail
            go_roundg i
            case measure => omega
            case rel => exact ⟨S3, (i : Int) - 1, by omega, rfl, rfl, by go_num, HE.out, hb1⟩
          · by_cases h2 : i = 1
            · have hi1 : decide ((1 : Int) < (i : Int)) = false := by simp; omega
              have hi1' : decide (1 < i) = false := by simp; omega
              have hie : ((i : Int) == 1) = true := by simp; omega
              obtain ⟨S3, hS3⟩ : ∃ S3, S1 ++ (⟨#[120]⟩ : ByteArray) = S3 := ⟨_, rfl⟩
              have hz2 : ¬ 9223372036854775807 < S1.size + 1 := by omega
              have e3 : S3.data.toList = hiT p i := by
                rw [HO.out, ← hS3]
                simp [h2, termT_one, HP.out]
              have HE := Lib.hid e3
              clear e3 h1 h2
              go_wp2_with fail
              go_roundg i
              case measure => omega
              case rel => exact ⟨S3, (i : Int) - 1, by omega, rfl, rfl, by go_num, HE.out, hB⟩
            · have h3 : i = 0 := by omega
              have hi1 : decide ((1 : Int) < (i : Int)) = false := by simp; omega
              have hi1' : decide (1 < i) = false := by simp; omega
              have hie : ((i : Int) == 1) = false := by simp; omega
              obtain ⟨S3, hS3⟩ : ∃ S3, S1 ++ (⟨#[49]⟩ : ByteArray) = S3 := ⟨_, rfl⟩
              have hz2 : ¬ 9223372036854775807 < S1.size + 1 := by omega
              have e3 : S3.data.toList = hiT p i := by
                rw [HO.out, ← hS3]
                simp [h3, termT_zero, HP.out]
              have HE := Lib.hid e3
              clear e3 h1 h2 h3
              go_wp2_with fail
              go_roundg i
              case measure => omega
              case rel => exact ⟨S3, (i : Int) - 1, by omega, rfl, rfl, by go_num, HE.out, hB⟩
      · have hb0 : (((p : Int) / 2 ^ i).tmod 2 == 0) = true := by
          rw [hbt] at hb
          rw [Int.tmod_eq_emod_of_nonneg hnn2, hcast]; have := of_decide_eq_false (Bool.eq_false_iff.2 hb); rw [show p / 2 ^ i % 2 = 0 from by omega]; rfl
        have hof := hiT_off (Bool.eq_false_iff.2 hb)
        rw [← hS.out] at hof
        have HO := Lib.hid hof
        clear hbt hcast hb hof hnn2
        go_wp2_with fail
        go_roundg i
        case measure => omega
        case rel => exact ⟨str, (i : Int) - 1, by omega, rfl, rfl, by go_num, HO.out.symm, hB⟩
end Go.Proofs.YtjajojdlgpmpfaaDoor
