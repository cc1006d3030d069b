/-
  The contracts of math/bits.Reverse64 and of poly's Reverse; for every number of 64 bits.
-/
import Derived.Test.YtdaijbplbnkpeaaDoorPdd
import Derived.Test.YtdaijbplbnkpeaaDoorRev
namespace Go.Proofs.YtdaijbplbnkpeaaDoor
open Go.RowKit Go.Shelf

theorem retN2 {k l : IntKind} {a b c d : Int} (h : a = b) (h2 : c = d) : Ending.returned (.tuple #[.int k a, .int l c]) = .returned (.tuple #[.int k b, .int l d]) := by rw [h, h2]
theorem and_u64 (a b : Nat) (ha : a < 18446744073709551616) (hb : b < 18446744073709551616) (x y : Int) (hx : x = a) (hy : y = b) :
    bits .and .u64 x y = ((a &&& b : Nat) : Int) := by subst hx hy; exact bits_and_u64_nat a b ha hb
/-- A step, as the walk spells it. -/
theorem st_int (M s n : Nat) (x K C : Int) (hx : x = (n : Int)) (hn : n < 18446744073709551616) (hM : M < 18446744073709551616) (hC : C = (M : Int)) (hK : K = ((2 ^ s : Nat) : Int)) :
    bits .or .u64 (bits .and .u64 (x / K) C) (IntKind.u64.wrap (bits .and .u64 x C * K)) = ((st M s n : Nat) : Int) := by
  subst hx hC hK
  have h1 : (n : Int) / ((2 ^ s : Nat) : Int) = ((n / 2 ^ s : Nat) : Int) := by rw [Int.natCast_ediv]
  have h2 : n / 2 ^ s < 18446744073709551616 := Nat.lt_of_le_of_lt (Nat.div_le_self _ _) hn
  rw [h1, and_u64 _ _ h2 hM _ _ rfl rfl, and_u64 _ _ hn hM _ _ rfl rfl, wrapM ((n &&& M) * 2 ^ s) _ (by rw [Int.natCast_mul])]
  exact or_u64 _ _ (Nat.lt_of_le_of_lt Nat.and_le_left h2) (Nat.mod_lt _ (by omega)) _ _ rfl rfl
theorem sw_int (n : Nat) (x : Int) (hx : x = (n : Int)) (hn : n < 18446744073709551616) :
    bits .or .u64 (x / 4294967296) (IntKind.u64.wrap (x * 4294967296)) = ((sw n : Nat) : Int) := by
  subst hx
  rw [wrapM (n * 4294967296) _ (by omega), show (n : Int) / 4294967296 = ((n / 4294967296 : Nat) : Int) from by omega]
  exact or_u64 _ _ (by omega) (Nat.mod_lt _ (by omega)) _ _ rfl rfl

set_option maxHeartbeats 400000 in
theorem revb_any (x : Int) (n : Nat) (w : World) (hx : x = (n : Int)) (hn : n < 18446744073709551616) :
    Calls Tryd.prog 91 #[.int .u64 x] w fun e w' => e = .returned (.int .u64 ((sw (st 281470681808895 16 (st 71777214294589695 8 n)) : Nat) : Int)) ∧ w = w' := by
  subst hx
  have h1 := st_int 71777214294589695 8 n n 256 71777214294589695 rfl hn (by omega) rfl rfl
  have h1l := st_lt 71777214294589695 8 n (by decide)
  have h2 := st_int 281470681808895 16 _ _ 65536 281470681808895 rfl h1l (by omega) rfl rfl
  have h2l := st_lt 281470681808895 16 (st 71777214294589695 8 n) (by decide)
  have h3 := sw_int _ _ rfl h2l
  have H1 := Lib.hid h1
  have H2 := Lib.hid h2
  have H3 := Lib.hid h3
  clear h1 h2 h3 h1l h2l
  go_enter Tryd.func91, Tryd.ntmps91
  go_wp2_with fail
  go_ret
  exact ⟨retN (by rw [H1.out, H2.out, H3.out]), rfl⟩
set_option maxHeartbeats 1000000 in
theorem rev64_any (n : Nat) (w : World) (hn : n < 18446744073709551616) :
    Calls Tryd.prog 86 #[.int .u64 (n : Int)] w fun e w' => e = .returned (.int .u64 ((sw (st 281470681808895 16 (st 71777214294589695 8 (st 1085102592571150095 4 (st 3689348814741910323 2 (st 6148914691236517205 1 n))))) : Nat) : Int)) ∧ w = w' := by
  have h1 := st_int 6148914691236517205 1 n n 2 6148914691236517205 rfl hn (by omega) rfl rfl
  have h1l := st_lt 6148914691236517205 1 n (by decide)
  have h2 := st_int 3689348814741910323 2 _ _ 4 3689348814741910323 rfl h1l (by omega) rfl rfl
  have h2l := st_lt 3689348814741910323 2 (st 6148914691236517205 1 n) (by decide)
  have h3 := st_int 1085102592571150095 4 _ _ 16 1085102592571150095 rfl h2l (by omega) rfl rfl
  have h3l := st_lt 1085102592571150095 4 (st 3689348814741910323 2 (st 6148914691236517205 1 n)) (by decide)
  have H1 := Lib.hid h1
  have H2 := Lib.hid h2
  have H3 := Lib.hid h3
  clear h1 h2 h3 h1l h2l
  go_enter Tryd.func86, Tryd.ntmps86
  go_wp2_with fail
  refine (revb_any _ (st 1085102592571150095 4 (st 3689348814741910323 2 (st 6148914691236517205 1 n))) _ (by rw [H1.out, H2.out, H3.out]) h3l).mono ?_
  rintro e w' ⟨rfl, rfl⟩
  go_wp2_with fail
  go_ret
  exact ⟨rfl, rfl⟩

set_option maxHeartbeats 400000 in
theorem reverse_any (p k : Nat) (w : World) (hp : p < 18446744073709551616) (hk : k ≤ 64) :
    Calls Tryd.prog 77 #[.int .u64 (p : Int), .int .i64 (k : Int)] w fun e w' => e = .returned (.tuple #[.int .u64 ((rvn p k : Nat) : Int), .int .i64 0]) ∧ w = w' := by
  have hch := rev_chain p k hk
  obtain ⟨R, hR⟩ : ∃ R, R = sw (st 281470681808895 16 (st 71777214294589695 8 (st 1085102592571150095 4 (st 3689348814741910323 2 (st 6148914691236517205 1 p))))) := ⟨_, rfl⟩
  have hRl : R < 18446744073709551616 := by rw [hR]; exact sw_lt (st_lt _ _ _ (by decide))
  have hr := rev64_any p w hp
  rw [← hR] at hch hr
  obtain ⟨V, hV⟩ : ∃ V, V = rvn p k := ⟨_, rfl⟩
  rw [← hV] at hch ⊢
  have HC := Lib.hid hch
  clear hch hR hV
  have hd1 : decide ((k : Int) < 0) = false := by simp
  have hd2 : decide (64 < (k : Int)) = false := by simp; omega
  go_enter Tryd.func77, Tryd.ntmps77
  go_wp2_with fail
  refine hr.mono ?_
  rintro e w' ⟨rfl, rfl⟩
  go_wp2_with fail
  go_ret2
  exact ⟨retN2 (by rw [← HC.out, Int.natCast_ediv, Int.natCast_pow]; rfl) rfl, rfl⟩

set_option maxHeartbeats 400000 in
theorem reverse_neg (p n : Int) (w : World) (hd : decide (n < 0) = true) :
    Calls Tryd.prog 77 #[.int .u64 p, .int .i64 n] w fun e w' => e = .returned (.tuple #[.int .u64 0, .int .i64 2]) ∧ w = w' := by
  go_enter Tryd.func77, Tryd.ntmps77
  go_wp2_with fail
  go_ret2
  exact ⟨rfl, rfl⟩
set_option maxHeartbeats 400000 in
theorem reverse_big (p n : Int) (w : World) (hd : decide (n < 0) = false) (hd2 : decide (64 < n) = true) :
    Calls Tryd.prog 77 #[.int .u64 p, .int .i64 n] w fun e w' => e = .returned (.tuple #[.int .u64 0, .int .i64 2]) ∧ w = w' := by
  go_enter Tryd.func77, Tryd.ntmps77
  go_wp2_with fail
  go_ret2
  exact ⟨rfl, rfl⟩
end Go.Proofs.YtdaijbplbnkpeaaDoor
