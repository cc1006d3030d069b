/-
  The contracts of the reference's Read and ReadAll: for any bytes they return what is read out of them; nothing that was there is changed.
-/
import Derived.Test.YtakpockkagfphaaRead
import Derived.Test.YtakpockkagfphaaRall
import Derived.Test.YtakpockkagfphaaWall
namespace Go.Proofs.Ytakpockkagfphaa
open Go.RowKit Go.Shelf

theorem pow_le9 (j : Nat) (hj : j ≤ 9) : (0 : Int) < 128 ^ j ∧ (128 : Int) ^ j ≤ 9223372036854775808 ∧ (j ≤ 8 → (128 : Int) ^ j ≤ 72057594037927936) := by
  have : ∀ m : Fin 10, (0 : Int) < 128 ^ m.val ∧ (128 : Int) ^ m.val ≤ 9223372036854775808 ∧ (m.val ≤ 8 → (128 : Int) ^ m.val ≤ 72057594037927936) := by decide
  exact this ⟨j, by omega⟩

/-- A product of the reference's Read fits. -/
theorem prod_fits {c T acc : Int} {j : Nat} (hj : j ≤ 9) (hT : T = 128 ^ j) (hc0 : 0 ≤ c) (hc1 : c ≤ 127) (h9 : ¬ (j = 9 ∧ 1 < c)) (ha0 : 0 ≤ acc) (ha1 : acc < T) :
    0 ≤ c * T ∧ acc + c * T ≤ 18446744073709551615 ∧ IntKind.u64.wrap (c * T) = c * T := by
  have hp := pow_le9 j hj
  rw [← hT] at hp
  have h0 : 0 ≤ c * T := Int.mul_nonneg hc0 (by omega)
  have h1 : acc + c * T ≤ 18446744073709551615 := by
    by_cases h : j = 9
    · have : c * T ≤ 1 * T := Int.mul_le_mul_of_nonneg_right (by omega) (by omega)
      omega
    · have h8 := hp.2.2 (by omega)
      have : c * T ≤ 127 * T := Int.mul_le_mul_of_nonneg_right hc1 (by omega)
      omega
  exact ⟨h0, h1, by rw [IntKind.wrap_u64]; omega⟩

theorem readRes_eq' {l : List Int} {z : Int} {n : Nat} {e : Int} (h : vread l = (z, n, e)) : ReadRes l = .returned (.tuple #[.int .u64 z, .int .i64 n, .int .i64 e]) := by
  unfold ReadRes; rw [h]

set_option maxHeartbeats 2000000 in
theorem rread_any (a : Option Addr) (len cap : Nat) (l : List Int) (w : World) (hs : Sl .u8 w a len cap l) (hby : Bytes l) :
    Calls Try.prog 67 #[.slice a len cap] w fun e w' => e = ReadRes l ∧ w = w' := by
  have hl := hs.1
  have hlc := hs.2.1
  have hcm := hs.2.2.1
  have HL := Lib.hid hl
  clear hl
  go_enter Try.func67, Try.ntmps67
  go_wp2_with fail
  go_loop [5, 6, 7] (fun x t i => ∃ (j : Nat) (acc T : Int), i = .int .i64 j ∧ x = .int .u64 acc ∧ t = .int .u64 T ∧ j ≤ 9 ∧ j ≤ len ∧ 0 ≤ acc ∧ acc < T ∧ Aside (T = 128 ^ j) ∧ Aside (rdA j (128 ^ j) acc (l.drop j) = vread l)) (fun _ _ i => 10 - (intOf i).toNat)
  case atStart => exact ⟨0, 0, 1, rfl, rfl, rfl, by omega, by omega, by omega, by omega, rfl, rfl⟩
  case round =>
    obtain ⟨j, acc, T, rfl, rfl, rfl, hj9, hjlen, ha0, ha1, HT, HR⟩ := hrel
    have hp := pow_le9 j hj9
    rw [← HT.out] at hp
    obtain ⟨hp0, hp1, hp2⟩ := hp
    have ha1' : acc < 128 ^ j := by rw [← HT.out]; exact ha1
    have HA1 := Lib.hid ha1'
    have HP2 := Lib.hid hp2
    clear ha1' hp2
    by_cases hjl : j < len
    · have hje : ((j : Int) == (len : Int)) = false := by simp; omega
      obtain ⟨b, off, rfl, hcell⟩ := hs.idx hjl
      obtain ⟨c, hcdef⟩ : ∃ c, c = l[j]?.getD 0 := ⟨_, rfl⟩
      rw [← hcdef] at hcell
      have hbc := hby.at j (by rw [HL.out]; omega)
      rw [← hcdef] at hbc
      have hd := drop_cons l j (by rw [HL.out]; omega)
      rw [← hcdef] at hd
      have HD := Lib.hid hd
      have hjlI : (j : Int) < (len : Int) := by omega
      clear hcdef hd
      by_cases h9 : j = 9 ∧ 1 < c
      · have hj9b : ((j : Int) == 9) = true := by simp; omega
        have h9c := h9.2
        have HV := Lib.hid (readRes_eq' (scan_over HR.out HD.out h9))
        clear h9
        go_wp2_with fail
        go_ret3
        exact ⟨HV.out.symm, rfl⟩
      by_cases h128 : 128 ≤ c
      · have hc8 : (j : Int) < 9 := by omega
        have hj9b : ((j : Int) == 9) = false := by simp; omega
        obtain ⟨hm0, hm1, hmw⟩ := prod_fits (c := c - 128) hj9 HT.out (by omega) (by omega) (by omega) ha0 ha1
        have hT8 := HP2.out (by omega)
        have HM := Lib.hid (scan_more HR.out HD.out ha0 HA1.out hbc.2 hj9 h9 h128)
        have HJ := Lib.hid (join_eq ha0 HA1.out (by omega : 0 ≤ c) hbc.2 hj9 h9)
        go_wp2_with fail
        go_round
        case rel =>
          have e2 : c % 128 = c - 128 := by omega
          have hjn : joinB acc c j = acc + (c - 128) * T := by rw [HJ.out, e2, HT.out]
          refine ⟨j + 1, acc + (c - 128) * T, T * 128, by go_num, rfl, rfl, by omega, by omega, by omega, ?_, ?_, ?_⟩
          · have := HM.out.2.1
            rw [hjn, Int.pow_succ, ← HT.out] at this
            exact this
          · show T * 128 = 128 ^ (j + 1)
            rw [HT.out, Int.pow_succ]
          · show rdA (j + 1) (128 ^ (j + 1)) (acc + (c - 128) * T) (l.drop (j + 1)) = vread l
            rw [← hjn]; exact HM.out.2.2
        case measure => simp [intOf]; omega
      · have hlt : c < 128 := by omega
        by_cases h0 : c = 0 ∧ 0 < j
        · have HV := Lib.hid (readRes_eq' (scan_zero HR.out HD.out h0.1 h0.2))
          have hc0b : (c == 0) = true := by simp; exact h0.1
          have hc1 : c ≤ 1 := by omega
          have hj0b : (0 : Int) < (j : Int) := by omega
          clear h0
          by_cases hj9' : j = 9
          · have hj9b : ((j : Int) == 9) = true := by simp; omega
            clear hj9'
            go_wp2_with fail
            go_ret3
            exact ⟨HV.out.symm, rfl⟩
          · have hj9b : ((j : Int) == 9) = false := by simp; omega
            go_wp2_with fail
            go_ret3
            exact ⟨HV.out.symm, rfl⟩
        · obtain ⟨hm0, hm1, hmw⟩ := prod_fits hj9 HT.out hbc.1 (by omega) h9 ha0 ha1
          have hV := readRes_eq' (scan_last HR.out HD.out ha0 HA1.out hbc.1 hj9 h9 hlt h0)
          rw [join_eq ha0 HA1.out hbc.1 hbc.2 hj9 h9, ← HT.out, show c % 128 = c from by omega, show ((j + 1 : Nat) : Int) = (j : Int) + 1 from by omega] at hV
          have HV := Lib.hid hV
          clear hV
          by_cases hc0 : c = 0
          · have hj0 : (j : Int) ≤ 0 := by omega
            have hc0b : (c == 0) = true := by simp; exact hc0
            have hj9b : ((j : Int) == 9) = false := by simp; omega
            clear hc0 h0 h9
            go_wp2_with fail
            go_ret3
            exact ⟨HV.out.symm, rfl⟩
          · have hc0b : (c == 0) = false := by simp; exact hc0
            by_cases hj9' : j = 9
            · have hj9b : ((j : Int) == 9) = true := by simp; omega
              have hc1 : c ≤ 1 := by omega
              clear hc0 h0 h9 hj9'
              go_wp2_with fail
              go_ret3
              exact ⟨HV.out.symm, rfl⟩
            · have hj9b : ((j : Int) == 9) = false := by simp; omega
              clear hc0 h0 h9 hj9'
              go_wp2_with fail
              go_ret3
              exact ⟨HV.out.symm, rfl⟩
    · obtain rfl : j = len := by omega
      have hje : ((j : Int) == (j : Int)) = true := by simp
      have HV := Lib.hid (readRes_eq' (scan_short HR.out (by rw [HL.out]; omega)))
      go_wp2_with fail
      go_ret3
      exact ⟨HV.out.symm, rfl⟩
end Go.Proofs.Ytakpockkagfphaa
