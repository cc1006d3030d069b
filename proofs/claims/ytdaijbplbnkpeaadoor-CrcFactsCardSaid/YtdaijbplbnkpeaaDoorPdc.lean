/-
  The contracts of poly's squares, Power, Order and Irreducible; for every number of 64 bits.
-/
import Derived.Test.YtdaijbplbnkpeaaDoorPdb
import Derived.Test.YtdaijbplbnkpeaaDoorOrd
import Derived.ChangeAlike
import Derived.RegionTactic
import Derived.LoopTactic
namespace Go.Proofs.YtdaijbplbnkpeaaDoor
open Go.RowKit Go.Shelf

/-- What a closure that squares has: its next answer, its last one, and the polynomial. -/
structure Sqs (w : World) (B : Nat) (x m : Nat) : Prop where
  nxt : Boxed w (B + 1 + 1) 87 (.int .u64 (x : Int))
  las : ∃ y : Int, Boxed w B 87 (.int .u64 y)
  mod : Boxed w (B + 1) 87 (.int .u64 (m : Int))

set_option maxHeartbeats 400000 in
theorem sq1_any (B x m : Nat) (w : World) (hS : Sqs w B x m) (hx : x < 18446744073709551616) (hm : m < 18446744073709551616) (hm0 : m ≠ 0) (W : World) (hW : W.heap.size ≤ B) (hB : Below W.heap.size W w) :
    Calls Tryd.prog 88 #[.pointer (some ⟨B + 1 + 1, 0, none⟩), .pointer (some ⟨B, 0, none⟩), .pointer (some ⟨B + 1, 0, none⟩)] w fun e w' => e = .returned (.int .u64 (x : Int)) ∧ Sqs w' B (pm (cm x x) m) m ∧ Below W.heap.size W w' := by
  obtain ⟨h1, ⟨y, h2⟩, h3⟩ := hS
  have c1 := h1.cell
  have c2 := h2.cell
  have c3 := h3.cell
  have f1 := h1.frozen
  have f2 := h2.frozen
  go_enter Tryd.func88, Tryd.ntmps88
  go_wp2_with fail
  refine (mulMod_any _ _ x x m _ rfl rfl hx hx hm hm0).mono ?_
  rintro e w' ⟨rfl, rfl⟩
  go_wp2_with fail
  go_ret
  refine ⟨rfl, ⟨(h1.other (by omega) _).set _, ⟨x, (h2.set _).other (by omega) _⟩, (h3.other (by omega) _).other (by omega) _⟩, (hB.setCell hW _).setCell ?_ _⟩
  show W.heap.size ≤ B + 1 + 1
  omega

set_option maxHeartbeats 400000 in
theorem squares_any (x : Int) (p m : Nat) (w : World) (hx : x = (p : Int)) (hp : p < 18446744073709551616) (hm : m < 18446744073709551616) (hm0 : m ≠ 0) :
    Calls Tryd.prog 79 #[.int .u64 x, .int .u64 (m : Int)] w fun e w' => e = .returned (.func (.func 88) #[] #[.pointer (some ⟨w.heap.size + 1 + 1, 0, none⟩), .pointer (some ⟨w.heap.size, 0, none⟩), .pointer (some ⟨w.heap.size + 1, 0, none⟩)]) ∧ Sqs w' w.heap.size (pm p m) m ∧ Below w.heap.size w w' := by
  subst hx
  go_enter Tryd.func79, Tryd.ntmps79
  go_wp2_with fail
  refine (modulo_any _ p m _ rfl hp hm hm0).mono ?_
  rintro e w' ⟨rfl, rfl⟩
  go_wp2_with fail
  go_ret
  have b1 := Boxed.new w 87 (.int .u64 (p : Int))
  have b2 := Boxed.new (w.alloc (.cells #[.int .u64 (p : Int)] 87)) 87 (.int .u64 (m : Int))
  have b3 := Boxed.new ((w.alloc (.cells #[.int .u64 (p : Int)] 87)).alloc (.cells #[.int .u64 (m : Int)] 87)) 87 (.int .u64 ((pm p m : Nat) : Int))
  rw [World.size_alloc] at b2
  rw [World.size_alloc, World.size_alloc] at b3
  exact ⟨rfl, ⟨b3, ⟨p, (b1.alloc _).alloc _⟩, b2.alloc _⟩, (((Below.refl _ w).alloc (Nat.le_refl _) _).alloc (by simp) _).alloc (by simp; omega) _⟩

theorem and1_i64 (b : Nat) (h : b ≤ 9223372036854775807) : bits .and .i64 (b : Int) 1 = ((b % 2 : Nat) : Int) := by
  have h2 : (BitVec.ofInt 64 (b : Int)).toNat = b := by
    rw [BitVec.ofInt_natCast, BitVec.toNat_ofNat]; exact Nat.mod_eq_of_lt (by omega)
  show IntKind.i64.wrap ((BitVec.ofInt 64 (b : Int) &&& BitVec.ofInt 64 1).toNat : Int) = _
  have h3 : (BitVec.ofInt 64 1).toNat = 1 := by decide
  rw [BitVec.toNat_and, h2, h3, IntKind.wrap_i64, Nat.and_one_is_mod]
  omega

set_option maxHeartbeats 1000000 in
theorem power_any (n m : Nat) (w : World) (hn : n ≤ 9223372036854775807) (hm : m < 18446744073709551616) (hm0 : m ≠ 0) :
    Calls Tryd.prog 62 #[.int .i64 (n : Int), .int .u64 (m : Int)] w fun e w' => (∃ r : Nat, r = pm (2 ^ n) m ∧ e = .returned (.tuple #[.int .u64 (r : Int), .int .i64 0])) ∧ Below w.heap.size w w' := by
  obtain ⟨R, hR⟩ : ∃ R, R = pm (2 ^ n) m := ⟨_, rfl⟩
  have hst := pow_start n hm0
  rw [← hR] at hst ⊢
  have HST := Lib.hid hst
  clear hst hR
  have hz : ((m : Int) == 0) = false := by simpa using hm0
  have hd : decide ((n : Int) < 0) = false := by simp
  go_enter Tryd.func62, Tryd.ntmps62
  go_wp2_with fail
  refine (modulo_any _ 1 m _ rfl (by omega) hm hm0).mono ?_
  rintro e w' ⟨rfl, rfl⟩
  go_wp2_with fail
  refine (squares_any _ 2 m _ rfl (by omega) hm hm0).mono ?_
  rintro e w1 ⟨rfl, hS, hB⟩
  go_wp2_with fail
  go_loopw [0, 6, 8] (fun N P X wr => ∃ n p x : Nat, n ≤ 9223372036854775807 ∧ p < 18446744073709551616 ∧ x < 18446744073709551616 ∧ N = .int .i64 (n : Int) ∧ P = .int .u64 (p : Int) ∧ bl p < bl m ∧ pm (cm p (pw x n)) m = R ∧ Sqs wr w.heap.size x m ∧ Below w.heap.size w wr) (fun N P X _ => (intOf N).toNat)
  case atStart => exact ⟨n, pm 1 m, pm 2 m, hn, pm_lt (k := 64) hm0 hm, pm_lt (k := 64) hm0 hm, rfl, rfl, pm_bl _ hm0, HST.out, hS, hB⟩
  case round =>
    obtain ⟨n, p, x, hn, hp, hx, rfl, rfl, hpb, hr, hS, hB⟩ := hrel
    by_cases h0 : n = 0
    · subst h0
      rw [pw_zero, cm_one, pm_lt0 hpb] at hr
      have HR := Lib.hid hr
      clear hr
      go_wp2_with fail
      go_ret2
      exact ⟨⟨R, rfl, by rw [← HR.out]; rfl⟩, hB⟩
    · have hpos : decide (0 < (n : Int)) = true := by simp; omega
      obtain ⟨g1, g2⟩ := pow_round hm0 hr
      have G1 := Lib.hid g1
      have G2 := Lib.hid g2
      have ha1 := and1_i64 n hn
      clear g1 g2 hr
      by_cases h1 : n % 2 = 1
      · have hq : (((n % 2 : Nat) : Int) == 1) = true := by rw [h1]; rfl
        have H1 := Lib.hid h1
        clear h1
        go_wp2_with fail
        refine (sq1_any _ x m _ hS hx hm hm0 w (Nat.le_refl _) hB).mono ?_
        rintro e w' ⟨rfl, hS2, hB2⟩
        go_wp2_with fail
        refine (mulMod_any _ _ p x m _ rfl rfl hp hx hm hm0).mono ?_
        rintro e w'' ⟨rfl, rfl⟩
        go_wp2_with fail
        go_roundw
        case rel => exact ⟨n / 2, pm (cm p x) m, pm (cm x x) m, by omega, pm_lt (k := 64) hm0 hm, pm_lt (k := 64) hm0 hm, by push_cast; rfl, rfl, pm_bl _ hm0, G1.out H1.out, hS2, hB2⟩
        case measure => simp [intOf]; omega
      · have h2 : n % 2 = 0 := by omega
        have hq : (((n % 2 : Nat) : Int) == 1) = false := by rw [h2]; rfl
        have H1 := Lib.hid h2
        clear h1 h2
        go_wp2_with fail
        refine (sq1_any _ x m _ hS hx hm hm0 w (Nat.le_refl _) hB).mono ?_
        rintro e w' ⟨rfl, hS2, hB2⟩
        go_wp2_with fail
        go_roundw
        case rel => exact ⟨n / 2, p, pm (cm x x) m, by omega, hp, pm_lt (k := 64) hm0 hm, by push_cast; rfl, rfl, hpb, G2.out H1.out, hS2, hB2⟩
        case measure => simp [intOf]; omega

set_option maxHeartbeats 400000 in
theorem power_zero (n m : Int) (w : World) (hz : (m == 0) = true) :
    Calls Tryd.prog 62 #[.int .i64 n, .int .u64 m] w fun e w' => e = .returned (.tuple #[.int .u64 0, .int .i64 2]) ∧ w = w' := by
  go_enter Tryd.func62, Tryd.ntmps62
  go_wp2_with fail
  go_ret2
  exact ⟨rfl, rfl⟩
set_option maxHeartbeats 400000 in
theorem power_neg (n m : Int) (w : World) (hz : (m == 0) = false) (hd : decide (n < 0) = true) :
    Calls Tryd.prog 62 #[.int .i64 n, .int .u64 m] w fun e w' => e = .returned (.tuple #[.int .u64 0, .int .i64 2]) ∧ w = w' := by
  go_enter Tryd.func62, Tryd.ntmps62
  go_wp2_with fail
  go_ret2
  exact ⟨rfl, rfl⟩
end Go.Proofs.YtdaijbplbnkpeaaDoor
