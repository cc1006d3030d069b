/-
  The closed law of the chapter on polynomials: its walk. There are no conditions.
-/
import Derived.Test.YtjajojdlgpmpfaaDoorRft
import Derived.Test.YtjajojdlgpmpfaaDoorRfo
import Derived.Test.YtjajojdlgpmpfaaDoorRtb
import Derived.Test.YtjajojdlgpmpfaaDoorPw6
import Derived.BigRegion
namespace Go.Proofs.YtjajojdlgpmpfaaDoor
open Go.RowKit Go.Shelf

theorem tells_as (W : World) (x y z n : Int) (hx0 : 0 ≤ x) (hx : x < 18446744073709551616) (hy0 : 0 ≤ y) (hy : y < 18446744073709551616) (hz0 : 0 ≤ z) (hz : z < 18446744073709551616) (hn1 : n ≤ 9223372036854775807) :
    Calls Tryd.prog 13 #[.int .u64 x, .int .u64 y, .int .u64 z, .int .i64 n] W fun e w' => e = .returned (.bool true) ∧ Below W.heap.size W w' := by
  obtain ⟨x, rfl⟩ := Int.eq_ofNat_of_zero_le hx0
  obtain ⟨y, rfl⟩ := Int.eq_ofNat_of_zero_le hy0
  obtain ⟨z, rfl⟩ := Int.eq_ofNat_of_zero_le hz0
  exact tells_any W x y z n (by omega) (by omega) (by omega) hn1
theorem orders_as (W : World) (x : Int) (hx0 : 0 ≤ x) (hx : x < 18446744073709551616) :
    Calls Tryd.prog 15 #[.int .u64 x] W fun e w' => e = .returned (.bool true) ∧ Below W.heap.size W w' := by
  obtain ⟨x, rfl⟩ := Int.eq_ofNat_of_zero_le hx0
  exact orders_any W x (by omega)
theorem wrap_ge (x : Int) : 0 ≤ IntKind.u64.wrap x ∧ IntKind.u64.wrap x < 18446744073709551616 := by
  have e : IntKind.u64.wrap x = x % 18446744073709551616 := rfl
  rw [e]; omega
theorem shr_rng (a : Nat) : 0 ≤ (9223372036854775808 : Int) / 2 ^ a ∧ (9223372036854775808 : Int) / 2 ^ a < 18446744073709551616 := by
  have h1 : 0 ≤ (9223372036854775808 : Int) / 2 ^ a := Int.ediv_nonneg (by omega) (Int.pow_nonneg (by omega))
  have h2 : (9223372036854775808 : Int) / 2 ^ a ≤ 9223372036854775808 := Int.ediv_le_self _ (by omega)
  omega
theorem or_rng (b : Nat) (h : b < 32) : 0 ≤ bits .or .u64 9223372036854775808 (b : Int) ∧ bits .or .u64 9223372036854775808 (b : Int) < 18446744073709551616 := by
  have e := or_u64 9223372036854775808 b (by omega) (by omega) 9223372036854775808 (b : Int) rfl rfl
  rw [e]
  have : 9223372036854775808 ||| b < 2 ^ 64 := Nat.or_lt_two_pow (by omega) (by omega)
  omega
theorem row_at {w : World} {g : Nat} {xs : List Value} {t : TypeId} (h : w.heap[g]? = some (.cells xs.toArray t (0, 0))) (i : Nat) (v : Value) (hi : xs[i]? = some v) : w.cell? ⟨g, i, none⟩ = some v := by
  simp [World.cell?, h, hi]
theorem row_below {w w' : World} {g : Nat} {o : Obj} (h : w.heap[g]? = some o) (hb : Below w.heap.size w w') : w'.heap[g]? = some o := (hb.block g (Array.getElem?_eq_some_iff.1 h).1).trans h
def sm4 : List Value := [.int .u64 2097152, .int .u64 2097151, .int .u64 9223372036854775808, .int .u64 18446744073709551615]
theorem sm4_at (j : Nat) (h : j < 4) : ∃ V : Int, 0 ≤ V ∧ V < 18446744073709551616 ∧ sm4[j]? = some (.int .u64 V) := by
  match j, h with
  | 0, _ => exact ⟨_, by decide, by decide, rfl⟩
  | 1, _ => exact ⟨_, by decide, by decide, rfl⟩
  | 2, _ => exact ⟨_, by decide, by decide, rfl⟩
  | 3, _ => exact ⟨_, by decide, by decide, rfl⟩
def sm8 : List Value := [.int .i64 (-9223372036854775808), .int .i64 (-1), .int .i64 0, .int .i64 1, .int .i64 63, .int .i64 64, .int .i64 65, .int .i64 9223372036854775807]
theorem sm8_at (j : Nat) (h : j < 8) : ∃ V : Int, V ≤ 9223372036854775807 ∧ sm8[j]? = some (.int .i64 V) := by
  match j, h with
  | 0, _ => exact ⟨_, by decide, rfl⟩
  | 1, _ => exact ⟨_, by decide, rfl⟩
  | 2, _ => exact ⟨_, by decide, rfl⟩
  | 3, _ => exact ⟨_, by decide, rfl⟩
  | 4, _ => exact ⟨_, by decide, rfl⟩
  | 5, _ => exact ⟨_, by decide, rfl⟩
  | 6, _ => exact ⟨_, by decide, rfl⟩
  | 7, _ => exact ⟨_, by decide, rfl⟩
def sm14 : List Value := [.string ⟨#[48]⟩, .string ⟨#[]⟩, .string ⟨#[49]⟩, .string ⟨#[120]⟩, .string ⟨#[120, 94, 49]⟩, .string ⟨#[120, 94, 48]⟩, .string ⟨#[120, 94, 48, 50]⟩, .string ⟨#[120, 94, 54, 52]⟩, .string ⟨#[48, 43, 49]⟩, .string ⟨#[49, 43, 120]⟩, .string ⟨#[120, 43, 120]⟩, .string ⟨#[120, 94, 50, 43, 120, 94, 51]⟩, .string ⟨#[32, 120]⟩, .string ⟨#[88]⟩]
theorem sm14_at (j : Nat) (h : j < 14) : ∃ S : ByteArray, sm14[j]? = some (.string S) := by
  match j, h with
  | 0, _ => exact ⟨_, rfl⟩
  | 1, _ => exact ⟨_, rfl⟩
  | 2, _ => exact ⟨_, rfl⟩
  | 3, _ => exact ⟨_, rfl⟩
  | 4, _ => exact ⟨_, rfl⟩
  | 5, _ => exact ⟨_, rfl⟩
  | 6, _ => exact ⟨_, rfl⟩
  | 7, _ => exact ⟨_, rfl⟩
  | 8, _ => exact ⟨_, rfl⟩
  | 9, _ => exact ⟨_, rfl⟩
  | 10, _ => exact ⟨_, rfl⟩
  | 11, _ => exact ⟨_, rfl⟩
  | 12, _ => exact ⟨_, rfl⟩
  | 13, _ => exact ⟨_, rfl⟩
theorem sm7_at (S0 S1 S2 S3 S4 S5 S6 : ByteArray) (j : Nat) (h : j < 7) : ∃ S : ByteArray, [Value.string S0, .string S1, .string S2, .string S3, .string S4, .string S5, .string S6][j]? = some (.string S) := by
  match j, h with
  | 0, _ => exact ⟨_, rfl⟩
  | 1, _ => exact ⟨_, rfl⟩
  | 2, _ => exact ⟨_, rfl⟩
  | 3, _ => exact ⟨_, rfl⟩
  | 4, _ => exact ⟨_, rfl⟩
  | 5, _ => exact ⟨_, rfl⟩
  | 6, _ => exact ⟨_, rfl⟩

set_option maxRecDepth 100000 in
set_option maxHeartbeats 4000000 in
theorem small_walk (w : World) : Calls Tryd.prog 6 #[] w fun e w' => e = .returned (.bool true) ∧ Below w.heap.size w w' := by
  go_enter Tryd.func6, Tryd.ntmps6
  go_wp2_with fail
  go_loopw [22] (fun i wr => ∃ a : Nat, i = .int .u64 (a : Int) ∧ a ≤ 32 ∧ Below w.heap.size w wr) (fun i _ => 32 - (intOf i).toNat)
  case atStart => exact ⟨0, rfl, by omega, Below.refl _ _⟩
  case round =>
    obtain ⟨a, rfl, ha, hB⟩ := hrel
    by_cases ha2 : a < 32
    · have hd : decide ((a : Int) < 32) = true := by simp; omega
      have hd2 : decide (a < 32) = true := by simp; omega
      go_wp2_with fail
      obtain ⟨wo, rfl⟩ : ∃ wo : World, wo = wr := ⟨_, rfl⟩
      go_loopw [25] (fun i wr => ∃ b : Nat, i = .int .u64 (b : Int) ∧ b ≤ 32 ∧ Below w.heap.size w wr) (fun i _ => 32 - (intOf i).toNat)
      case atStart => exact ⟨0, rfl, by omega, hB⟩
      case round =>
        obtain ⟨b, rfl, hb, hB2⟩ := hrel
        by_cases hb2 : b < 32
        · have he : decide ((b : Int) < 32) = true := by simp; omega
          have he2 : decide (b < 32) = true := by simp; omega
          go_wp2_with fail
          refine (tells_as _ _ _ _ _ (by omega) (by omega) (by omega) (by omega) (by omega) (by omega) (by omega)).mono ?_
          rintro e w1 ⟨rfl, hB3⟩
          have hb3 := below_step hB2 hB3
          clear hB3
          go_wp2_with fail
          have hr := shr_rng a
          have hq := wrap_ge (IntKind.u64.wrap (2 ^ b) - 1)
          have ho := or_rng b hb2
          refine (tells_as _ _ _ _ _ hr.1 hr.2 hq.1 hq.2 ho.1 ho.2 (by omega)).mono ?_
          rintro e w2 ⟨rfl, hB4⟩
          have hb4 := below_step hb3 hB4
          clear hB4 hr hq ho
          go_wp2_with fail
          go_roundw
          case rel => exact ⟨b + 1, by go_num, by omega, hb4⟩
          case measure => simp [intOf]; omega
        · have he : decide ((b : Int) < 32) = false := by simp; omega
          have he2 : decide (b < 32) = false := by simp; omega
          go_wp2_with fail
          go_roundw
          case rel => exact ⟨a + 1, by go_num, by omega, hB2⟩
          case measure => simp [intOf]; omega
    · have hd : decide ((a : Int) < 32) = false := by simp; omega
      have hd2 : decide (a < 32) = false := by simp; omega
      go_wp2_with fail
      obtain ⟨wo, rfl⟩ : ∃ wo : World, wo = wr := ⟨_, rfl⟩
      go_loopw [55] (fun i wr => ∃ m : Nat, i = .int .u64 (m : Int) ∧ m ≤ 1024 ∧ Below w.heap.size w wr) (fun i _ => 1024 - (intOf i).toNat)
      case atStart => exact ⟨0, rfl, by omega, hB⟩
      case round =>
        obtain ⟨m, rfl, hm, hB2⟩ := hrel
        by_cases hm2 : m < 1024
        · have he : decide ((m : Int) < 1024) = true := by simp; omega
          have he2 : decide (m < 1024) = true := by simp; omega
          go_wp2_with fail
          refine (orders_as _ _ (by omega) (by omega)).mono ?_
          rintro e w1 ⟨rfl, hB3⟩
          have hb3 := below_step hB2 hB3
          clear hB3
          go_wp2_with fail
          go_roundw
          case rel => exact ⟨m + 1, by go_num, by omega, hb3⟩
          case measure => simp [intOf]; omega
        · have he : decide ((m : Int) < 1024) = false := by simp; omega
          have he2 : decide (m < 1024) = false := by simp; omega
          go_wp2_with fail
          obtain ⟨W4, hW4⟩ : ∃ W, W = wr.alloc (.cells sm4.toArray 22) := ⟨_, rfl⟩
          have hr4 : W4.heap[wr.heap.size]? = some (.cells sm4.toArray 22 (0, 0)) := by rw [hW4]; exact heap_alloc_new wr _
          have hB4 : Below w.heap.size w W4 := by rw [hW4]; exact below_step hB2 ((Below.refl _ _).alloc (Nat.le_refl _) _)
          change Code.wp _ _ _ _ (wr.alloc (.cells sm4.toArray 22))
          rw [← hW4]
          clear hW4
          obtain ⟨g4, hg4⟩ : ∃ g, g = wr.heap.size := ⟨_, rfl⟩
          rw [← hg4] at hr4 ⊢
          clear hg4
          go_loopw [64] (fun i wr => ∃ j : Nat, i = .int .i64 (j : Int) ∧ j ≤ 4 ∧ Below W4.heap.size W4 wr) (fun i _ => 4 - (intOf i).toNat)
          case atStart => exact ⟨0, rfl, by omega, Below.refl _ _⟩
          case round =>
            obtain ⟨j, rfl, hj, hB5⟩ := hrel
            have hb5 := below_step hB4 hB5
            by_cases hj2 : j < 4
            · have hf : decide ((j : Int) < 4) = true := by simp; omega
              have hf2 : decide (j < 4) = true := by simp; omega
              have hjI : (j : Int) < 4 := by omega
              obtain ⟨V, hV0, hV1, hV⟩ := sm4_at j hj2
              have hc := row_at (row_below hr4 hB5) j _ hV
              clear hV
              by_cases hV2 : 2097152 ≤ V
              · have hv : decide (2097152 ≤ V) = true := by simp; omega
                go_wp2_with fail
                refine (orders_as _ _ hV0 hV1).mono ?_
                rintro e w1 ⟨rfl, hB6⟩
                have hb6 := below_step hB5 hB6
                clear hB6
                go_wp2_with fail
                go_roundw
                case rel => exact ⟨j + 1, by go_num, by omega, hb6⟩
                case measure => simp [intOf]; omega
              · have hv : decide (2097152 ≤ V) = false := by simp; omega
                go_wp2_with fail
                go_roundw
                case rel => exact ⟨j + 1, by go_num, by omega, hB5⟩
                case measure => simp [intOf]; omega
            · have hf : decide ((j : Int) < 4) = false := by simp; omega
              have hf2 : decide (j < 4) = false := by simp; omega
              go_wp2_with fail
              obtain ⟨W8, hW8⟩ : ∃ W, W = wr.alloc (.cells sm8.toArray 3) := ⟨_, rfl⟩
              have hr8 : W8.heap[wr.heap.size]? = some (.cells sm8.toArray 3 (0, 0)) := by rw [hW8]; exact heap_alloc_new wr _
              have hB8 : Below w.heap.size w W8 := by rw [hW8]; exact below_step hb5 ((Below.refl _ _).alloc (Nat.le_refl _) _)
              change Code.wp _ _ _ _ (wr.alloc (.cells sm8.toArray 3))
              rw [← hW8]
              clear hW8
              obtain ⟨g8, hg8⟩ : ∃ g, g = wr.heap.size := ⟨_, rfl⟩
              rw [← hg8] at hr8 ⊢
              clear hg8 hB5 hb5 hr4 hB4 hB2
              go_loopw [78] (fun i wr => ∃ j : Nat, i = .int .i64 (j : Int) ∧ j ≤ 8 ∧ Below W8.heap.size W8 wr) (fun i _ => 8 - (intOf i).toNat)
              case atStart => exact ⟨0, rfl, by omega, Below.refl _ _⟩
              case round =>
                obtain ⟨j, rfl, hj, hB5⟩ := hrel
                have hb5 := below_step hB8 hB5
                by_cases hj2 : j < 8
                · have hf : decide ((j : Int) < 8) = true := by simp; omega
                  have hf2 : decide (j < 8) = true := by simp; omega
                  have hjI : (j : Int) < 8 := by omega
                  obtain ⟨V, hV1, hV⟩ := sm8_at j hj2
                  have hc := row_at (row_below hr8 hB5) j _ hV
                  clear hV
                  go_wp2_with fail
                  refine (tells_as _ _ _ _ V (by omega) (by omega) (by omega) (by omega) (by omega) (by omega) hV1).mono ?_
                  rintro e w1 ⟨rfl, hB6⟩
                  have hb6 := below_step hB5 hB6
                  clear hB6
                  go_wp2_with fail
                  refine (tells_as _ _ _ _ V (by omega) (by omega) (by omega) (by omega) (by omega) (by omega) hV1).mono ?_
                  rintro e w2 ⟨rfl, hB7⟩
                  have hb7 := below_step hb6 hB7
                  clear hB7 hb6
                  go_wp2_with fail
                  refine (tells_as _ _ _ _ V (by omega) (by omega) (by omega) (by omega) (by omega) (by omega) hV1).mono ?_
                  rintro e w3 ⟨rfl, hB9⟩
                  have hb9 := below_step hb7 hB9
                  clear hB9 hb7
                  go_wp2_with fail
                  go_roundw
                  case rel => exact ⟨j + 1, by go_num, by omega, hb9⟩
                  case measure => simp [intOf]; omega
                · have hf : decide ((j : Int) < 8) = false := by simp; omega
                  have hf2 : decide (j < 8) = false := by simp; omega
                  go_wp2_with fail
                  generalize htt : (⟨#[120, 94, 54, 51, 43, 120, 94, 51, 50, 43, 120, 94, 50, 43, 120, 43, 49]⟩ : ByteArray) = tt
                  have hts : tt.size = 17 := by rw [← htt]; rfl
                  clear htt
                  clear hB5 hr8 hB8
                  obtain ⟨W9, rfl⟩ : ∃ W : World, W = wr := ⟨_, rfl⟩
                  go_loopw [99] (fun i wr => ∃ k : Nat, i = .int .i64 (k : Int) ∧ k ≤ 18 ∧ Below w.heap.size w wr) (fun i _ => 18 - (intOf i).toNat)
                  case atStart => exact ⟨0, rfl, by omega, hb5⟩
                  case round =>
                    obtain ⟨k, rfl, hk, hB5⟩ := hrel
                    by_cases hk2 : k < 18
                    · have hf : decide ((k : Int) < 18) = true := by simp; omega
                      have hf2 : decide (k < 18) = true := by simp; omega
                      go_wp2_with fail
                      have hkI : (k : Int) ≤ 17 := by omega
                      have hkI0 : (0 : Int) ≤ (k : Int) := by omega
                      have hkS : (k : Int) ≤ (tt.size : Int) := by omega
                      have hkN : k ≤ tt.size := by omega
                      have hmx : max ((k : Int) - 1) 0 = ((k - 1 : Nat) : Int) := by omega
                      go_region
                      clear hkI hkI0 hkS hkN hmx
                      generalize tt.extract 0 k ++ (⟨#[43]⟩ : ByteArray) ++ tt.extract k 17 = S2
                      generalize tt.extract 0 k ++ (⟨#[120]⟩ : ByteArray) ++ tt.extract k 17 = S3
                      generalize tt.extract 0 k ++ (⟨#[48]⟩ : ByteArray) ++ tt.extract k 17 = S4
                      generalize tt.extract 0 k ++ (⟨#[49]⟩ : ByteArray) ++ tt.extract k 17 = S5
                      generalize tt.extract 0 (k - 1) ++ tt.extract k 17 = S6
                      generalize tt.extract k 17 = S1
                      generalize tt.extract 0 k ++ (⟨#[43]⟩ : ByteArray) = Z2
                      generalize tt.extract 0 k ++ (⟨#[120]⟩ : ByteArray) = Z3
                      generalize tt.extract 0 k ++ (⟨#[48]⟩ : ByteArray) = Z4
                      generalize tt.extract 0 k ++ (⟨#[49]⟩ : ByteArray) = Z5
                      generalize tt.extract 0 (k - 1) = Z6
                      generalize tt.extract 0 k = S0
                      obtain ⟨W7, hW7⟩ : ∃ W, W = (wr.alloc (.cells #[.string S0, .string S1, .string S2, .string S3, .string S4, .string S5, .string S6] 9)).drew := ⟨_, rfl⟩
                      have hr7 : W7.heap[wr.heap.size]? = some (.cells [Value.string S0, .string S1, .string S2, .string S3, .string S4, .string S5, .string S6].toArray 9 (0, 0)) := by rw [hW7]; exact heap_alloc_new wr _
                      have hB7 : Below w.heap.size w W7 := by rw [hW7]; exact below_step hB5 (((Below.refl _ _).alloc (Nat.le_refl _) _).drew)
                      rw [← hW7]
                      clear hW7
                      obtain ⟨g7, hg7⟩ : ∃ g, g = wr.heap.size := ⟨_, rfl⟩
                      rw [← hg7] at hr7 ⊢
                      clear hg7
                      go_wp2_with fail
                      obtain ⟨wo7, rfl⟩ : ∃ wo : World, wo = wr := ⟨_, rfl⟩
                      go_loopw [151] (fun i wr => ∃ j : Nat, i = .int .i64 (j : Int) ∧ j ≤ 7 ∧ Below W7.heap.size W7 wr) (fun i _ => 7 - (intOf i).toNat)
                      case atStart => exact ⟨0, rfl, by omega, Below.refl _ _⟩
                      case round =>
                        obtain ⟨j, rfl, hj, hB6⟩ := hrel
                        by_cases hj2 : j < 7
                        · have hg : decide ((j : Int) < 7) = true := by simp; omega
                          have hg2 : decide (j < 7) = true := by simp; omega
                          have hjI : (j : Int) < 7 := by omega
                          obtain ⟨S, hV⟩ := sm7_at S0 S1 S2 S3 S4 S5 S6 j hj2
                          have hc := row_at (row_below hr7 hB6) j _ hV
                          obtain ⟨P, E, hPE⟩ : ∃ P E, readR S.data.toList = (P, E) := ⟨_, _, rfl⟩
                          have c1 := read_as S _ P E rfl hPE
                          have c2 := rread_as S _ P E rfl hPE
                          clear hPE hV
                          go_wp2_with fail
                          refine (c1 _).mono ?_
                          rintro e w1 ⟨rfl, rfl⟩
                          go_wp2_with fail
                          refine (c2 _).mono ?_
                          rintro e w2 ⟨rfl, hB7⟩
                          have hb7 := below_step hB6 hB7
                          clear hB7
                          go_wp2_with fail
                          go_roundw
                          case rel => exact ⟨j + 1, by go_num, by omega, hb7⟩
                          case measure => simp [intOf]; omega
                        · have hg : decide ((j : Int) < 7) = false := by simp; omega
                          have hg2 : decide (j < 7) = false := by simp; omega
                          have hb6 := below_step hB7 hB6
                          go_wp2_with fail
                          go_roundw
                          case rel => exact ⟨k + 1, by go_num, by omega, hb6⟩
                          case measure => simp [intOf]; omega
                    · have hf : decide ((k : Int) < 18) = false := by simp; omega
                      have hf2 : decide (k < 18) = false := by simp; omega
                      go_wp2_with fail
                      obtain ⟨W14, hW14⟩ : ∃ W, W = wr.alloc (.cells sm14.toArray 9) := ⟨_, rfl⟩
                      have hr14 : W14.heap[wr.heap.size]? = some (.cells sm14.toArray 9 (0, 0)) := by rw [hW14]; exact heap_alloc_new wr _
                      have hB14 : Below w.heap.size w W14 := by rw [hW14]; exact below_step hB5 ((Below.refl _ _).alloc (Nat.le_refl _) _)
                      change Code.wp _ _ _ _ (wr.alloc (.cells sm14.toArray 9))
                      rw [← hW14]
                      clear hW14
                      obtain ⟨g14, hg14⟩ : ∃ g, g = wr.heap.size := ⟨_, rfl⟩
                      rw [← hg14] at hr14 ⊢
                      clear hg14
                      go_loopw [177] (fun i wr => ∃ j : Nat, i = .int .i64 (j : Int) ∧ j ≤ 14 ∧ Below W14.heap.size W14 wr) (fun i _ => 14 - (intOf i).toNat)
                      case atStart => exact ⟨0, rfl, by omega, Below.refl _ _⟩
                      case round =>
                        obtain ⟨j, rfl, hj, hB6⟩ := hrel
                        by_cases hj2 : j < 14
                        · have hg : decide ((j : Int) < 14) = true := by simp; omega
                          have hg2 : decide (j < 14) = true := by simp; omega
                          have hjI : (j : Int) < 14 := by omega
                          obtain ⟨S, hV⟩ := sm14_at j hj2
                          have hc := row_at (row_below hr14 hB6) j _ hV
                          obtain ⟨P, E, hPE⟩ : ∃ P E, readR S.data.toList = (P, E) := ⟨_, _, rfl⟩
                          have c1 := read_as S _ P E rfl hPE
                          have c2 := rread_as S _ P E rfl hPE
                          clear hPE hV
                          go_wp2_with fail
                          refine (c1 _).mono ?_
                          rintro e w1 ⟨rfl, rfl⟩
                          go_wp2_with fail
                          refine (c2 _).mono ?_
                          rintro e w2 ⟨rfl, hB7⟩
                          have hb7 := below_step hB6 hB7
                          clear hB7
                          go_wp2_with fail
                          go_roundw
                          case rel => exact ⟨j + 1, by go_num, by omega, hb7⟩
                          case measure => simp [intOf]; omega
                        · have hg : decide ((j : Int) < 14) = false := by simp; omega
                          have hg2 : decide (j < 14) = false := by simp; omega
                          have hb6 := below_step hB14 hB6
                          go_wp2_with fail
                          refine (awake_any _).mono ?_
                          rintro e w7 ⟨rfl, hB9⟩
                          have hb9 := below_step hb6 hB9
                          go_wp2_with fail
                          go_ret
                          exact ⟨rfl, hb9⟩
end Go.Proofs.YtjajojdlgpmpfaaDoor
