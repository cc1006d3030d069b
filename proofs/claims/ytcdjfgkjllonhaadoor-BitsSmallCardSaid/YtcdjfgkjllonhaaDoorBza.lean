/-
  The contracts of bits' small helpers, of the library's OnesCount64 and TrailingZeros64 (the latter where the library's table lies as the program's text lays it), and of Right and words.
-/
import Derived.Test.YtcdjfgkjllonhaaDoorBpb
import Derived.Test.YtcdjfgkjllonhaaDoorBra
import Derived.RegionTactic
import Derived.LoopTactic
import Derived.Deep.QuietTactic
import Derived.BigQuiet
namespace Go.Proofs.YtcdjfgkjllonhaaDoor
open Go.RowKit Go.Shelf

/-- The library's table lies where it must. -/
def Tbz (w : World) : Prop := 0 < w.heap.size ∧ ∀ j, j < 64 → w.cell? ⟨0, j, none⟩ = some (.int .u8 ((Lib.deBruijn64tab.getD j 0 : Nat) : Int))
theorem Tbz.below {w w' : World} {n : Nat} (h : Tbz w) (hb : Below n w w') (hn : 0 < n) : Tbz w' :=
  ⟨by have := hb.size; have := h.1; omega, fun j hj => (hb.cell (p := ⟨0, j, none⟩) hn).trans (h.2 j hj)⟩
theorem Tbz.step {w w' : World} (h : Tbz w) (hb : Below w.heap.size w w') : Tbz w' := h.below hb h.1

set_option maxHeartbeats 1000000 in
theorem allowed_any (n : Int) (w : World) : Calls Tryd.prog 55 #[.int .i64 n] w fun e w' => e = .returned (.bool (decide (0 ≤ n) && decide (n ≤ 65536))) ∧ w' = w := by
  by_cases h : 0 ≤ n
  · have hd : decide (0 ≤ n) = true := by simpa using h
    go_enter Tryd.func55, Tryd.ntmps55
    go_wp2_with fail
    go_ret
    exact ⟨by rw [hd]; rfl, rfl⟩
  · have hd : decide (0 ≤ n) = false := by simpa using h
    go_enter Tryd.func55, Tryd.ntmps55
    go_wp2_with fail
    go_ret
    exact ⟨rfl, rfl⟩

set_option maxHeartbeats 1000000 in
theorem wordsFor_any (n : Nat) (w : World) (hn : n ≤ 65536) : Calls Tryd.prog 56 #[.int .i64 (n : Int)] w fun e w' => e = .returned (.int .i64 (((n + 63) / 64 : Nat) : Int)) ∧ w' = w := by
  obtain ⟨W, hW⟩ : ∃ W : Nat, W = (n + 63) / 64 := ⟨_, rfl⟩
  rw [← hW]
  have e0 : (n : Int) + 64 - 1 = (n : Int) + 63 := by omega
  have e1 : ((n : Int) + 63) / 64 = (W : Int) := by omega
  have e2 : ((n : Int) + 63).tdiv 64 = (W : Int) := by rw [Int.tdiv_eq_ediv_of_nonneg (by omega)]; exact e1
  have e3 : ((n : Int) + 64 - 1).tdiv 64 = (W : Int) := by rw [e0]; exact e2
  clear hW
  go_enter Tryd.func56, Tryd.ntmps56
  go_wp2_with fail
  go_ret
  first
    | exact ⟨rfl, rfl⟩
    | exact ⟨ret_num e1, rfl⟩
    | exact ⟨ret_num e2, rfl⟩
    | exact ⟨ret_num e3, rfl⟩
    | exact ⟨ret_num (by omega), rfl⟩

set_option maxHeartbeats 1000000 in
theorem below_any (i n : Int) (w : World) : Calls Tryd.prog 65 #[.int .i64 i, .int .i64 n] w fun e w' => e = .returned (.bool (decide (0 ≤ i) && decide (i < n))) ∧ w' = w := by
  by_cases h : 0 ≤ i
  · have hd : decide (0 ≤ i) = true := by simpa using h
    go_enter Tryd.func65, Tryd.ntmps65
    go_wp2_with fail
    go_ret
    exact ⟨by rw [hd]; rfl, rfl⟩
  · have hd : decide (0 ≤ i) = false := by simpa using h
    go_enter Tryd.func65, Tryd.ntmps65
    go_wp2_with fail
    go_ret
    exact ⟨rfl, rfl⟩

set_option maxHeartbeats 1000000 in
theorem bit_any (i : Nat) (w : World) (hi : i ≤ 9223372036854775807) : Calls Tryd.prog 66 #[.int .i64 (i : Int)] w fun e w' => e = .returned (.int .u64 ((2 ^ (i % 64) : Nat) : Int)) ∧ w' = w := by
  obtain ⟨r, hr⟩ : ∃ r : Nat, r = i % 64 := ⟨_, rfl⟩
  rw [← hr]
  have er : (i : Int) % 64 = (r : Int) := by omega
  have er2 : (i : Int).tmod 64 = (r : Int) := by rw [Int.tmod_eq_emod_of_nonneg (by omega)]; exact er
  have hr64 : r < 64 := by omega
  have hP : 2 ^ r < 18446744073709551616 := Nat.pow_lt_pow_right (n := 64) (by omega) hr64
  clear hr
  go_enter Tryd.func66, Tryd.ntmps66
  go_wp2_with fail
  go_ret
  refine ⟨ret_num ?_, rfl⟩
  obtain ⟨P, hPe⟩ : ∃ P : Nat, P = 2 ^ r := ⟨_, rfl⟩
  have e : (2 : Int) ^ r = (P : Int) := by rw [hPe]; push_cast; rfl
  rw [← hPe] at hP ⊢
  first
    | rw [IntKind.wrap_u64, Int.one_mul, e]; omega
    | rw [IntKind.wrap_u64, e]; omega

set_option maxHeartbeats 1000000 in
theorem lowest_any (n : Int) (k : Nat) (w : World) (hk : (k : Int) = min (max n 0) 64) : Calls Tryd.prog 64 #[.int .i64 n] w fun e w' => e = .returned (.int .u64 ((2 ^ k - 1 : Nat) : Int)) ∧ w' = w := by
  have hk64 : k ≤ 64 := by omega
  obtain ⟨P, hPe⟩ : ∃ P : Nat, P = 2 ^ k := ⟨_, rfl⟩
  have e : (2 : Int) ^ k = (P : Int) := by rw [hPe]; push_cast; rfl
  have hP1 : 1 ≤ P := by rw [hPe]; exact Nat.one_le_two_pow
  have hP : P ≤ 18446744073709551616 := by rw [hPe]; exact (Nat.pow_le_pow_right (by omega) hk64 : 2 ^ k ≤ 2 ^ 64)
  have e1 : IntKind.u64.wrap (IntKind.u64.wrap (P : Int) - 1) = ((P - 1 : Nat) : Int) := by rw [IntKind.wrap_u64, IntKind.wrap_u64]; omega
  have hk' : min (max n 0) 64 = (k : Int) := hk.symm
  rw [← hPe]
  clear hPe hk
  go_enter Tryd.func64, Tryd.ntmps64
  go_wp2_with fail
  go_ret
  refine ⟨ret_num ?_, rfl⟩
  first
    | exact e1
    | (rw [← e1]; simp only [Int.one_mul, e, Int.toNat_natCast])
    | (rw [IntKind.wrap_u64] at *; try omega)

set_option maxHeartbeats 1000000 in
theorem withoutLowest_any (v : Nat) (w : World) (hv : v < 18446744073709551616) : Calls Tryd.prog 60 #[.int .u64 (v : Int)] w fun e w' => e = .returned (.int .u64 ((dl v : Nat) : Int)) ∧ w' = w := by
  obtain ⟨u, hu⟩ : ∃ u : Nat, u = if v = 0 then 18446744073709551615 else v - 1 := ⟨_, rfl⟩
  have e1 : IntKind.u64.wrap ((v : Int) - 1) = (u : Int) := by rw [IntKind.wrap_u64, hu]; split <;> omega
  have e2 := bits_and_u64_nat v u hv (by rw [hu]; split <;> omega)
  have e3 : v &&& u = dl v := by
    rw [hu]; unfold dl
    split
    · rename_i h; rw [h]; simp
    · rfl
  rw [e3] at e2
  clear hu e3
  go_enter Tryd.func60, Tryd.ntmps60
  go_wp2_with fail
  go_ret
  first
    | exact ⟨rfl, rfl⟩
    | exact ⟨ret_num e2, rfl⟩
    | exact ⟨ret_num (by rw [e1]; exact e2), rfl⟩

theorem and127_i64 (b : Nat) (h : b < 18446744073709551616) : bits .and .i64 (wrap64 (b : Int)) 127 = ((b % 128 : Nat) : Int) := by
  have h2 : (BitVec.ofInt 64 (wrap64 (b : Int))).toNat = b := by
    unfold wrap64
    rw [BitVec.toNat_ofInt]; omega
  show IntKind.i64.wrap ((BitVec.ofInt 64 (wrap64 (b : Int)) &&& BitVec.ofInt 64 127).toNat : Int) = _
  have h3 : (BitVec.ofInt 64 127).toNat = 2 ^ 7 - 1 := by decide
  rw [BitVec.toNat_and, h3, h2, Nat.and_two_pow_sub_one_eq_mod, IntKind.wrap_i64]
  omega
theorem and_c {x c y : Nat} (hx : x < 18446744073709551616) (hc : c < 18446744073709551616) (e : x &&& c = y) {C : Int} (hC : C = (c : Int)) : bits .and .u64 (x : Int) C = (y : Int) := by
  rw [hC, bits_and_u64_nat x c hx hc, e]
theorem wsum {y z a : Nat} (h : y + z = a) (ha : a < 18446744073709551616) : IntKind.u64.wrap ((y : Int) + (z : Int)) = (a : Int) := by
  rw [IntKind.wrap_u64]; omega
theorem idiv {x y c : Nat} (h : x / c = y) {C : Int} (hC : C = (c : Int)) : (x : Int) / C = (y : Int) := by
  rw [hC, ← h]; exact (Int.natCast_ediv x c).symm
theorem half_lt {x c : Nat} (h : x < 18446744073709551616) : x / c < 18446744073709551616 := Nat.lt_of_le_of_lt (Nat.div_le_self _ _) h
/-- The steps of OnesCount64, as the program takes them. -/
theorem ones_steps {x : Nat} (hx : x < 18446744073709551616) : ∃ x1 y1 y2 a a1 y3 y4 b b1 bb c c1 d d1 f f1 g : Nat,
    (x : Int) / 2 = (x1 : Int) ∧ bits .and .u64 (x1 : Int) 6148914691236517205 = (y1 : Int) ∧ bits .and .u64 (x : Int) 6148914691236517205 = (y2 : Int) ∧ IntKind.u64.wrap ((y1 : Int) + (y2 : Int)) = (a : Int) ∧
    (a : Int) / 4 = (a1 : Int) ∧ bits .and .u64 (a1 : Int) 3689348814741910323 = (y3 : Int) ∧ bits .and .u64 (a : Int) 3689348814741910323 = (y4 : Int) ∧ IntKind.u64.wrap ((y3 : Int) + (y4 : Int)) = (b : Int) ∧
    (b : Int) / 16 = (b1 : Int) ∧ IntKind.u64.wrap ((b1 : Int) + (b : Int)) = (bb : Int) ∧ bits .and .u64 (bb : Int) 1085102592571150095 = (c : Int) ∧
    (c : Int) / 256 = (c1 : Int) ∧ IntKind.u64.wrap ((c : Int) + (c1 : Int)) = (d : Int) ∧ (d : Int) / 65536 = (d1 : Int) ∧ IntKind.u64.wrap ((d : Int) + (d1 : Int)) = (f : Int) ∧ (f : Int) / 4294967296 = (f1 : Int) ∧ IntKind.u64.wrap ((f : Int) + (f1 : Int)) = (g : Int) ∧
    bits .and .i64 (wrap64 (g : Int)) 127 = ((pop x 64 : Nat) : Int) := by
  obtain ⟨a, b, c, h1, h2, h3, ha, hb, hb2, hc1, hc2, hc3, hr⟩ := swar hx
  refine ⟨x / 2, x / 2 &&& 6148914691236517205, x &&& 6148914691236517205, a, a / 4, a / 4 &&& 3689348814741910323, a &&& 3689348814741910323, b, b / 16, b / 16 + b, c, c / 256, c + c / 256, (c + c / 256) / 65536, (c + c / 256) + (c + c / 256) / 65536, ((c + c / 256) + (c + c / 256) / 65536) / 4294967296, ((c + c / 256) + (c + c / 256) / 65536) + ((c + c / 256) + (c + c / 256) / 65536) / 4294967296, idiv rfl rfl, and_c (half_lt hx) (by decide) rfl rfl, and_c hx (by decide) rfl rfl, wsum h1 ha, idiv rfl rfl, and_c (half_lt ha) (by decide) rfl rfl, and_c ha (by decide) rfl rfl, wsum h2 hb, idiv rfl rfl, wsum rfl hb2, and_c hb2 (by decide) h3 rfl, idiv rfl rfl, wsum rfl hc1, idiv rfl rfl, wsum rfl hc2, idiv rfl rfl, wsum rfl hc3, ?_⟩
  rw [← hr]
  exact and127_i64 _ hc3

set_option maxHeartbeats 1000000 in
/-- math/bits.OnesCount64. -/
theorem ones_any (x : Nat) (w : World) (hx : x < 18446744073709551616) : Calls Tryd.prog 59 #[.int .u64 (x : Int)] w fun e w' => e = .returned (.int .i64 ((pop x 64 : Nat) : Int)) ∧ w' = w := by
  obtain ⟨x1, y1, y2, a, a1, y3, y4, b, b1, bb, c, c1, d, d1, f, f1, g, p1, m1, m2, p2, p3, m3, m4, p4, p5, p6, m5, p7, p8, p9, p10, p11, p12, m6⟩ := ones_steps hx
  obtain ⟨R, hR⟩ : ∃ R, R = pop x 64 := ⟨_, rfl⟩
  rw [← hR] at m6 ⊢
  clear hR hx
  go_enter Tryd.func59, Tryd.ntmps59
  go_wp2_with fail
  go_ret
  exact ⟨rfl, rfl⟩

theorem wmul {P M : Nat} (h : M = P * 285870213051353865 % 18446744073709551616) : IntKind.u64.wrap ((P : Int) * 285870213051353865) = (M : Int) := by
  rw [IntKind.wrap_u64, h]; omega

set_option maxHeartbeats 1000000 in
/-- math/bits.TrailingZeros64 of a word that is not 0. -/
theorem ctz_any (x : Nat) (w : World) (hT : Tbz w) (hx0 : x ≠ 0) (hx : x < 18446744073709551616) : Calls Tryd.prog 61 #[.int .u64 (x : Int)] w fun e w' => e = .returned (.int .i64 ((Lib.ctz 64 x : Nat) : Int)) ∧ w' = w := by
  obtain ⟨hlow, hk⟩ := Lib.lowest_bit 64 x hx0 hx
  obtain ⟨hi, htab⟩ := Lib.deBruijn64_at _ hk
  have hcell := hT.2 _ hi
  rw [htab] at hcell
  have hz : ((x : Int) == 0) = false := by simp; omega
  have e1 : IntKind.u64.wrap (-(x : Int)) = ((18446744073709551616 - x : Nat) : Int) := by rw [IntKind.wrap_u64]; omega
  have e2 := bits_and_u64_nat x (18446744073709551616 - x) hx (by omega)
  rw [show (18446744073709551616 : Nat) = 2 ^ 64 from rfl] at e2
  rw [hlow] at e2
  obtain ⟨k, hke⟩ : ∃ k : Nat, k = Lib.ctz 64 x := ⟨_, rfl⟩
  rw [← hke] at hcell hk e2 hi ⊢
  obtain ⟨P, hP⟩ : ∃ P : Nat, P = 2 ^ k := ⟨_, rfl⟩
  rw [← hP] at hcell e2 hi
  obtain ⟨u, hu⟩ : ∃ u : Nat, u = 18446744073709551616 - x := ⟨_, rfl⟩
  rw [show (2 : Nat) ^ 64 - x = u from by rw [hu]] at e2
  rw [← hu] at e1
  obtain ⟨M, hM⟩ : ∃ M : Nat, M = P * 285870213051353865 % 18446744073709551616 := ⟨_, rfl⟩
  have e3 : IntKind.u64.wrap ((P : Int) * 285870213051353865) = (M : Int) := wmul hM
  obtain ⟨j, hj⟩ : ∃ j : Nat, j = M / 288230376151711744 := ⟨_, rfl⟩
  have e4 : (M : Int) / 288230376151711744 = (j : Int) := idiv hj.symm rfl
  rw [← hM, ← hj] at hcell hi
  clear hM hj hu hP hke hlow htab hT
  go_enter Tryd.func61, Tryd.ntmps61
  go_wp2_with fail
  go_ret
  exact ⟨rfl, rfl⟩
end Go.Proofs.YtcdjfgkjllonhaaDoor
