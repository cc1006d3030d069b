/-
  Plain facts on numbers and lists for the layer of numbers of seven bits a byte: zigzag numbers, the form of a number, and what is read out of bytes. No program is named here; there are no conditions but those in each statement.
-/
import Derived.Laws.Bits64
import Derived.Laws.Bits64b
import Derived.Laws.BitsLemmas
import Derived.Laws.Wrap64
import Derived.Lib.BitFns
import Derived.WalkKit
namespace Go.Proofs.YtcdjfgkjllonhaaDoor
open Go.RowKit

/-! ### zigzag -/
def zig (n : Int) : Int := if 0 ≤ n then 2 * n else -2 * n - 1
def unz (x : Int) : Int := if x % 2 = 0 then x / 2 else -(x / 2) - 1

theorem xor_u64_ones (a : Nat) (ha : a < 18446744073709551616) : bits .xor .u64 (a : Int) 18446744073709551615 = 18446744073709551615 - (a : Int) := by
  have h : bits .xor .u64 (a : Int) ((18446744073709551615 : Nat) : Int) = _ := bits_xor_u64_nat a 18446744073709551615 ha (by omega)
  have h2 : a ^^^ 18446744073709551615 = 18446744073709551615 - a := by
    have := congrArg BitVec.toNat (BitVec.xor_allOnes (x := BitVec.ofNat 64 a))
    rw [BitVec.toNat_xor, BitVec.toNat_not, BitVec.toNat_allOnes, BitVec.toNat_ofNat, Nat.mod_eq_of_lt (by omega)] at this
    simpa using this
  rw [h2] at h
  have e : ((18446744073709551615 : Nat) : Int) = 18446744073709551615 := rfl
  rw [e] at h
  rw [h]; omega

theorem zig_eq (n : Int) (h0 : -9223372036854775808 ≤ n) (h1 : n ≤ 9223372036854775807) :
    bits .xor .u64 (IntKind.u64.wrap (IntKind.u64.wrap n * 2)) (IntKind.u64.wrap (n / 9223372036854775808)) = zig n := by
  simp only [IntKind.wrap_u64]
  unfold zig
  split
  · rename_i h
    have e1 : n / 9223372036854775808 = 0 := by omega
    obtain ⟨m, rfl⟩ := Int.eq_ofNat_of_zero_le h
    have e2 : (m : Int) % 18446744073709551616 * 2 % 18446744073709551616 = ((2 * m : Nat) : Int) := by omega
    rw [e1, e2]
    have := bits_xor_u64_nat (2 * m) 0 (by omega) (by omega)
    simpa using this
  · have e1 : n / 9223372036854775808 = -1 := by omega
    have h : 0 ≤ 2 * n + 18446744073709551616 := by omega
    obtain ⟨m, hm⟩ := Int.eq_ofNat_of_zero_le h
    have e2 : n % 18446744073709551616 * 2 % 18446744073709551616 = (m : Int) := by omega
    have e3 : (-1 : Int) % 18446744073709551616 = 18446744073709551615 := by decide
    rw [e1, e2, e3, xor_u64_ones m (by omega)]
    omega

theorem and1_u64 (n : Int) (h0 : 0 ≤ n) (h1 : n ≤ 18446744073709551615) : bits .and .u64 n 1 = n % 2 := by
  obtain ⟨m, rfl⟩ := Int.eq_ofNat_of_zero_le h0
  have := bits_and_u64_nat m 1 (by omega) (by omega)
  rw [Nat.and_one_is_mod] at this
  simpa using this

theorem xor_i64_zero (n : Int) (h0 : 0 ≤ n) (h1 : n ≤ 9223372036854775807) : bits .xor .i64 n 0 = n := by
  obtain ⟨m, rfl⟩ := Int.eq_ofNat_of_zero_le h0
  have h2 : (BitVec.ofInt 64 (m : Int)).toNat = m := by
    rw [BitVec.ofInt_natCast, BitVec.toNat_ofNat]; exact Nat.mod_eq_of_lt (by omega)
  show IntKind.i64.wrap ((BitVec.ofInt 64 (m : Int) ^^^ BitVec.ofInt 64 0).toNat : Int) = _
  rw [BitVec.toNat_xor, h2, IntKind.wrap_i64]
  simp
  omega

theorem xor_i64_ones (n : Int) (h0 : 0 ≤ n) (h1 : n ≤ 9223372036854775807) : bits .xor .i64 n (-1) = -n - 1 := by
  obtain ⟨m, rfl⟩ := Int.eq_ofNat_of_zero_le h0
  have h2 : (BitVec.ofInt 64 (m : Int)).toNat = m := by
    rw [BitVec.ofInt_natCast, BitVec.toNat_ofNat]; exact Nat.mod_eq_of_lt (by omega)
  have h3 : BitVec.ofInt 64 (-1) = BitVec.allOnes 64 := by decide
  show IntKind.i64.wrap ((BitVec.ofInt 64 (m : Int) ^^^ BitVec.ofInt 64 (-1)).toNat : Int) = _
  rw [h3, BitVec.xor_allOnes, BitVec.toNat_not, h2, IntKind.wrap_i64]
  omega

theorem unz_eq (n : Int) (h0 : 0 ≤ n) (h1 : n ≤ 18446744073709551615) :
    bits .xor .i64 (n / 2) (wrap64 (-wrap64 (bits .and .u64 n 1))) = unz n := by
  rw [and1_u64 n h0 h1]
  unfold unz
  split
  · rename_i h
    rw [h]
    rw [show wrap64 (-wrap64 0) = 0 from by unfold wrap64; decide]
    exact xor_i64_zero _ (by omega) (by omega)
  · have h : n % 2 = 1 := by omega
    rw [h, show wrap64 (-wrap64 1) = -1 from by unfold wrap64; decide]
    rw [xor_i64_ones _ (by omega) (by omega)]

theorem zig_range (n : Int) (h0 : -9223372036854775808 ≤ n) (h1 : n ≤ 9223372036854775807) : 0 ≤ zig n ∧ zig n ≤ 18446744073709551615 := by
  unfold zig; split <;> omega
theorem unz_range (n : Int) (h0 : 0 ≤ n) (h1 : n ≤ 18446744073709551615) : -9223372036854775808 ≤ unz n ∧ unz n ≤ 9223372036854775807 := by
  unfold unz; split <;> omega
theorem zig_unz (x : Int) (h0 : 0 ≤ x) : zig (unz x) = x := by unfold zig unz; split <;> split <;> omega
theorem unz_zig (n : Int) : unz (zig n) = n := by unfold zig unz; split <;> split <;> omega

/-! ### the form of a number -/
def vform (x : Int) : List Int := if h : 128 ≤ x then (128 + x % 128) :: vform (x / 128) else [x]
  termination_by x.toNat
  decreasing_by omega

theorem vform_lt {x : Int} (h : x < 128) : vform x = [x] := by rw [vform, dif_neg (by omega)]
theorem vform_ge {x : Int} (h : 128 ≤ x) : vform x = (128 + x % 128) :: vform (x / 128) := by rw [vform, dif_pos h]

/-- An induction along the form. -/
theorem vform_ind {P : Int → Prop} (lt : ∀ x, x < 128 → P x) (ge : ∀ x, 128 ≤ x → P (x / 128) → P x) (x : Int) : P x := by
  suffices h : ∀ n : Nat, ∀ x : Int, x.toNat ≤ n → P x from h x.toNat x (Nat.le_refl _)
  intro n
  induction n with
  | zero => intro x hx; exact lt x (by omega)
  | succ n ih =>
    intro x hx
    by_cases h : 128 ≤ x
    · exact ge x h (ih (x / 128) (by omega))
    · exact lt x (by omega)

theorem vform_bytes (x : Int) : 0 ≤ x → ∀ c ∈ vform x, 0 ≤ c ∧ c ≤ 255 := by
  refine vform_ind (P := fun x => 0 ≤ x → ∀ c ∈ vform x, 0 ≤ c ∧ c ≤ 255) ?_ ?_ x
  · intro x h h0 c hc; rw [vform_lt h] at hc; simp at hc; omega
  · intro x h ih h0 c hc; rw [vform_ge h] at hc
    rcases List.mem_cons.1 hc with rfl | hc
    · omega
    · exact ih (by omega) c hc

theorem vform_pos (x : Int) : 1 ≤ (vform x).length := by
  by_cases h : 128 ≤ x
  · rw [vform_ge h]; simp
  · rw [vform_lt (by omega)]; simp

theorem vform_ne (x : Int) : vform x ≠ [] := fun h => by have := vform_pos x; rw [h] at this; simp at this

def vsize (x : Int) : Nat := (vform x).length
theorem vsize_lt {x : Int} (h : x < 128) : vsize x = 1 := by unfold vsize; rw [vform_lt h]; rfl
theorem vsize_ge {x : Int} (h : 128 ≤ x) : vsize x = vsize (x / 128) + 1 := by unfold vsize; rw [vform_ge h]; rfl
theorem vsize_pos (x : Int) : 1 ≤ vsize x := vform_pos x

theorem vsize_le (x : Int) : ∀ n : Nat, x < 128 ^ (n + 1) → vsize x ≤ n + 1 := by
  refine vform_ind (P := fun x => ∀ n : Nat, x < 128 ^ (n + 1) → vsize x ≤ n + 1) ?_ ?_ x
  · intro x h n _; rw [vsize_lt h]; omega
  · intro x h ih n hn
    rw [vsize_ge h]
    cases n with
    | zero => simp at hn; omega
    | succ n =>
      have := ih n (by rw [Int.pow_succ] at hn; exact Int.ediv_lt_of_lt_mul (by decide) hn)
      omega

theorem vsize_10 {x : Int} (h : x ≤ 18446744073709551615) : vsize x ≤ 10 := by
  refine vsize_le x 9 ?_
  have : (128 : Int) ^ (9 + 1) = 1180591620717411303424 := by decide
  rw [this]; omega

theorem vsize_mono (x : Int) : ∀ y, x ≤ y → vsize x ≤ vsize y := by
  refine vform_ind (P := fun x => ∀ y, x ≤ y → vsize x ≤ vsize y) ?_ ?_ x
  · intro x h y _; rw [vsize_lt h]; exact vsize_pos y
  · intro x h ih y hy
    rw [vsize_ge h, vsize_ge (by omega : 128 ≤ y)]
    have := ih (y / 128) (by omega)
    omega

theorem bitLen_size (x : Nat) (h0 : 1 ≤ x) (h : x < 18446744073709551616) : ((Lib.bitLen x : Int) + 6) / 7 = vsize x := by
  suffices hs : ∀ n : Nat, ∀ x : Nat, x ≤ n → 1 ≤ x → x < 18446744073709551616 → ((Lib.bitLen x : Int) + 6) / 7 = vsize x from hs x x (Nat.le_refl _) h0 h
  intro n
  induction n with
  | zero => intro x hx h1 _; omega
  | succ n ih =>
    intro x hx h1 hb
    by_cases hx2 : 128 ≤ x
    · rw [vsize_ge (by omega : (128 : Int) ≤ (x : Int)), Lib.bitLen_shift 7 x hx2 hb]
      have h3 := ih (x / 128) (by omega) (by omega) (by omega)
      have e3 : ((x / 128 : Nat) : Int) = (x : Int) / 128 := by omega
      rw [e3] at h3
      have e4 : x / 2 ^ 7 = x / 128 := rfl
      rw [e4]
      omega
    · rw [vsize_lt (by omega : (x : Int) < 128)]
      have : ∀ m : Fin 128, 1 ≤ m.val → ((Lib.bitLen m.val : Int) + 6) / 7 = 1 := by decide +kernel
      exact this ⟨x, by omega⟩ h1

theorem or1_u64 (x : Int) (h0 : 0 ≤ x) (h1 : x ≤ 18446744073709551615) : bits .or .u64 x 1 = 2 * (x / 2) + 1 := by
  obtain ⟨m, rfl⟩ := Int.eq_ofNat_of_zero_le h0
  have := bits_or_u64_nat m 1 (by omega) (by omega)
  have e : m ||| 1 = 2 * (m / 2) + 1 := by
    have a : (m ||| 1) / 2 = m / 2 := by rw [Nat.or_div_two]; simp
    have b : (m ||| 1) % 2 = 1 := Nat.or_mod_two_eq_one.2 (.inr rfl)
    omega
  rw [e] at this
  have e1 : ((1 : Nat) : Int) = 1 := rfl
  rw [e1] at this
  rw [this]
  omega

theorem vsize_or1 (x : Int) (h0 : 0 ≤ x) : vsize (2 * (x / 2) + 1) = vsize x := by
  by_cases h : 128 ≤ x
  · rw [vsize_ge h, vsize_ge (by omega : 128 ≤ 2 * (x / 2) + 1)]
    rw [show (2 * (x / 2) + 1) / 128 = x / 128 from by omega]
  · rw [vsize_lt (by omega), vsize_lt (by omega)]

theorem size_eq (x : Int) (h0 : 0 ≤ x) (h1 : x ≤ 18446744073709551615) : ((Lib.bitLen (bits .or .u64 x 1).toNat : Int) + 6) / 7 = vsize x := by
  rw [or1_u64 x h0 h1, ← vsize_or1 x h0]
  have h := bitLen_size (2 * (x / 2) + 1).toNat (by omega) (by omega)
  rw [h]
  rw [Int.toNat_of_nonneg (by omega)]

end Go.Proofs.YtcdjfgkjllonhaaDoor
