/-
  The contracts of the reference's bit and Right: whether the bit of a number is 1; whether a set is right; for all words.
-/
import Derived.Test.YtcdjfgkjllonhaaDoorBts
import Derived.Test.YtcdjfgkjllonhaaDoorStr
import Derived.RegionTactic
import Derived.LoopTactic
namespace Go.Proofs.YtcdjfgkjllonhaaDoor
open Go.RowKit Go.Shelf

theorem bstep {w w1 w2 : World} (h1 : Below w.heap.size w w1) (h2 : Below w1.heap.size w1 w2) : Below w.heap.size w w2 := h1.trans (h2.mono h1.size)

/-- A bit as a number. -/
def b01 (b : Bool) : Int := if b then 1 else 0
theorem b01_true : b01 true = 1 := rfl
theorem b01_false : b01 false = 0 := rfl
attribute [irreducible] b01

set_option maxHeartbeats 1000000 in
theorem rbit_any (w : World) (a : Option Addr) (n c : Nat) (l : List Int) (i : Int) (hs : Sl .u64 w a n c l) (hw : Wds l) (h0 : 0 ≤ i) (hi : i ≤ 4611686018427387904) :
    Calls Tryd.prog 54 #[.slice a n c, .int .i64 i] w fun e w' => e = .returned (.int .u64 (b01 (bt l i.toNat))) ∧ w' = w := by
  obtain ⟨k, rfl⟩ : ∃ k : Nat, i = (k : Int) := ⟨i.toNat, by omega⟩
  rw [Int.toNat_natCast]
  have hln := hs.1
  have hn0 : decide ((k : Int) < 0) = false := by simp
  obtain ⟨j, hj⟩ : ∃ j : Nat, j = k / 64 := ⟨_, rfl⟩
  obtain ⟨r, hr⟩ : ∃ r : Nat, r = k % 64 := ⟨_, rfl⟩
  have ej : (k : Int) / 64 = (j : Int) := by omega
  have er : (k : Int) % 64 = (r : Int) := by omega
  have er2 : (k : Int).tmod 64 = (r : Int) := by rw [Int.tmod_eq_emod_of_nonneg (by omega)]; exact er
  have hrl : r < 64 := by omega
  by_cases hjn : j < n
  · obtain ⟨b, off, rfl, hc⟩ := hs.view (by omega)
    have hcell := hc j hjn
    have hd : decide ((n : Int) ≤ (j : Int)) = false := by simp; omega
    have i1 : (j : Int) < (n : Int) := by omega
    have hb := bt_div hw k
    have hx := hw.at j
    rw [← hj, ← hr] at hb
    obtain ⟨x, hx1⟩ : ∃ x, x = l[j]?.getD 0 := ⟨_, rfl⟩
    rw [← hx1] at hcell hb hx
    have HB := Lib.hid hb
    clear hb hx1 hj hr hs hc
    go_enter Tryd.func54, Tryd.ntmps54
    go_wp2_with fail
    go_ret
    refine ⟨?_, rfl⟩
    rw [Int.tmod_eq_emod_of_nonneg (Int.ediv_nonneg hx.1 (Int.pow_nonneg (by omega))), HB.out]
    unfold b01; rfl
  · have hd : decide ((n : Int) ≤ (j : Int)) = true := by simp; omega
    have hb : bt l k = false := bt_out (by omega)
    rw [hb, b01_false]
    clear hj hr hs hb
    go_enter Tryd.func54, Tryd.ntmps54
    go_wp2_with fail
    go_ret
    exact ⟨rfl, rfl⟩

/-- A set as a value. -/
def SetV (N : Int) (a : Option Addr) (n c : Nat) : Value := .agg #[.int .i64 N, .slice a n c]

set_option maxRecDepth 100000 in
set_option maxHeartbeats 1000000 in
theorem rright_any (w : World) (N : Int) (a : Option Addr) (n c : Nat) (l : List Int) (hs : Sl .u64 w a n c l) (hw : Wds l) (hN : N ≤ 9223372036854775807) :
    Calls Tryd.prog 40 #[.agg #[.int .i64 N, .slice a n c]] w fun e w' => e = .returned (.bool (rightB N l)) ∧ w' = w.alloc (.cells #[.int .i64 N, .slice a n c] 31) := by
  have hln := hs.1
  have hs1 : Sl .u64 (w.alloc (.cells #[.int .i64 N, .slice a n c] 31)) a n c l := hs.below ((Below.refl _ w).alloc (Nat.le_refl _) _)
  by_cases h0 : N < 0
  · rw [rightB_no (fun h => by have := h.1; omega)]
    have hd : decide (N < 0) = true := by simpa using h0
    clear hs hs1
    go_enter Tryd.func40, Tryd.ntmps40
    go_wp2_with fail
    go_ret
    exact ⟨rfl, rfl⟩
  · have hd0 : decide (N < 0) = false := by simpa using h0
    by_cases h1 : 65536 < N
    · rw [rightB_no (fun h => by have := h.2.1; omega)]
      have hd : decide (65536 < N) = true := by simpa using h1
      clear hs hs1
      go_enter Tryd.func40, Tryd.ntmps40
      go_wp2_with fail
      go_ret
      exact ⟨rfl, rfl⟩
    · have hd1 : decide (65536 < N) = false := by simpa using h1
      obtain ⟨m, rfl⟩ : ∃ m : Nat, N = (m : Int) := ⟨N.toNat, by omega⟩
      obtain ⟨q, hq⟩ : ∃ q : Nat, q = m / 64 := ⟨_, rfl⟩
      obtain ⟨r, hr⟩ : ∃ r : Nat, r = m % 64 := ⟨_, rfl⟩
      obtain ⟨W, hW⟩ : ∃ W : Nat, W = (m + 63) / 64 := ⟨_, rfl⟩
      have eq1 : (m : Int) / 64 = (q : Int) := by omega
      have er1 : (m : Int) % 64 = (r : Int) := by omega
      have er2 : (m : Int).tmod 64 = (r : Int) := by rw [Int.tmod_eq_emod_of_nonneg (by omega)]; exact er1
      by_cases hr0 : 0 < r
      · have hrd : decide ((0 : Int) < (r : Int)) = true := by simp; omega
        have hrdn : decide (0 < r) = true := by simp; omega
        have eW : (q : Int) + 1 = (W : Int) := by omega
        obtain ⟨E, hE⟩ : ∃ E : Nat, E = 64 * W := ⟨_, rfl⟩
        have eE : 64 * (W : Int) = (E : Int) := by omega
        have hmE : m ≤ E := by omega
        have hEl : E ≤ 70000 := by omega
        by_cases hnW : n = W
        · have hnd : decide ((n : Int) = (W : Int)) = true := by simp; omega
          have hne : ((n : Int) == (W : Int)) = true := by simp; omega
          have HR := Lib.hid (show ((∀ i : Nat, i < E → m ≤ i → bt l i = false) → RightS (m : Int) l) from fun h => ⟨by omega, by omega, by omega, fun i hi hm => h i (by omega) (by omega)⟩)
          have HR2 := Lib.hid (show (∀ i : Nat, i < E → m ≤ i → bt l i = true → ¬ RightS (m : Int) l) from fun i hi hm hb h => by
            have := h.2.2.2 i (by omega) (by omega); rw [hb] at this; cases this)
          have hnW2 := hnW
          subst hnW
          clear hW hq hr hE
          go_enter Tryd.func40, Tryd.ntmps40
          go_wp2_with fail
          go_loop [4] (fun I => ∃ k : Nat, m ≤ k ∧ k ≤ E ∧ I = .int .i64 (k : Int) ∧ ∀ i : Nat, m ≤ i → i < k → bt l i = false) (fun I => E - (intOf I).toNat)
          case atStart => exact ⟨m, Nat.le_refl _, hmE, rfl, fun i h1 h2 => by omega⟩
          case round =>
            obtain ⟨k, hk1, hk2, rfl, hall⟩ := hrel
            have HA := Lib.hid hall
            clear hall
            by_cases hkE : k < E
            · have hkd : decide ((k : Int) < (E : Int)) = true := by simp; omega
              have hkdn : decide (k < E) = true := by simp; omega
              have qb := fun w hs => rbit_any w a n c l (k : Int) hs hw (by omega) (by omega)
              simp only [Int.toNat_natCast] at qb
              go_wp2_with fail
              refine (qb _ hs1).mono ?_
              rintro e w' ⟨rfl, hw'⟩
              rw [hw']
              clear hw' qb
              cases hb : bt l k with
              | true =>
                rw [b01_true]
                go_wp2_with fail
                go_ret
                exact ⟨by rw [rightB_no (HR2.out k hkE hk1 hb)]; rfl, rfl⟩
              | false =>
                rw [b01_false]
                have HB := Lib.hid hb
                clear hb
                go_wp2_with fail
                go_round
                case rel => exact ⟨k + 1, by omega, by omega, by go_num, fun i h1 h2 => by
                  by_cases h3 : i = k
                  · rw [h3]; exact HB.out
                  · exact HA.out i h1 (by omega)⟩
                case measure => simp [intOf]; omega
            · have hkd : decide ((k : Int) < (E : Int)) = false := by simp; omega
              have hkdn : decide (k < E) = false := by simp; omega
              go_wp2_with fail
              go_ret
              exact ⟨by rw [rightB_yes (HR.out fun i h1 h2 => HA.out i h2 (by omega))]; rfl, rfl⟩
        · rw [rightB_no (fun h => by have := h.2.2.1; omega)]
          have hnd : decide ((n : Int) = (W : Int)) = false := by simp; omega
          have hne : ((n : Int) == (W : Int)) = false := by simp; omega
          clear hW hq hr hE hs hs1
          go_enter Tryd.func40, Tryd.ntmps40
          go_wp2_with fail
          go_ret
          exact ⟨rfl, rfl⟩
      · have hrd : decide ((0 : Int) < (r : Int)) = false := by simp; omega
        have hrdn : decide (0 < r) = false := by simp; omega
        obtain rfl : q = W := by omega
        obtain ⟨E, hE⟩ : ∃ E : Nat, E = 64 * q := ⟨_, rfl⟩
        have eE : 64 * (q : Int) = (E : Int) := by omega
        have hmE : m ≤ E := by omega
        have hEl : E ≤ 70000 := by omega
        by_cases hnW : n = q
        · have hnd : decide ((n : Int) = (q : Int)) = true := by simp; omega
          have hne : ((n : Int) == (q : Int)) = true := by simp; omega
          have HR := Lib.hid (show ((∀ i : Nat, i < E → m ≤ i → bt l i = false) → RightS (m : Int) l) from fun h => ⟨by omega, by omega, by omega, fun i hi hm => h i (by omega) (by omega)⟩)
          have HR2 := Lib.hid (show (∀ i : Nat, i < E → m ≤ i → bt l i = true → ¬ RightS (m : Int) l) from fun i hi hm hb h => by
            have := h.2.2.2 i (by omega) (by omega); rw [hb] at this; cases this)
          have hnW2 := hnW
          subst hnW
          clear hW hq hr hE
          go_enter Tryd.func40, Tryd.ntmps40
          go_wp2_with fail
          go_loop [4] (fun I => ∃ k : Nat, m ≤ k ∧ k ≤ E ∧ I = .int .i64 (k : Int) ∧ ∀ i : Nat, m ≤ i → i < k → bt l i = false) (fun I => E - (intOf I).toNat)
          case atStart => exact ⟨m, Nat.le_refl _, hmE, rfl, fun i h1 h2 => by omega⟩
          case round =>
            obtain ⟨k, hk1, hk2, rfl, hall⟩ := hrel
            have HA := Lib.hid hall
            clear hall
            by_cases hkE : k < E
            · have hkd : decide ((k : Int) < (E : Int)) = true := by simp; omega
              have hkdn : decide (k < E) = true := by simp; omega
              have qb := fun w hs => rbit_any w a n c l (k : Int) hs hw (by omega) (by omega)
              simp only [Int.toNat_natCast] at qb
              clear hrd hrdn hr0 er1 er2 eq1
              go_wp2_with fail
              refine (qb _ hs1).mono ?_
              rintro e w' ⟨rfl, hw'⟩
              rw [hw']
              clear hw' qb
              cases hb : bt l k with
              | true =>
                rw [b01_true]
                go_wp2_with fail
                go_ret
                exact ⟨by rw [rightB_no (HR2.out k hkE hk1 hb)]; rfl, rfl⟩
              | false =>
                rw [b01_false]
                have HB := Lib.hid hb
                clear hb
                go_wp2_with fail
                go_round
                case rel => exact ⟨k + 1, by omega, by omega, by go_num, fun i h1 h2 => by
                  by_cases h3 : i = k
                  · rw [h3]; exact HB.out
                  · exact HA.out i h1 (by omega)⟩
                case measure => simp [intOf]; omega
            · have hkd : decide ((k : Int) < (E : Int)) = false := by simp; omega
              have hkdn : decide (k < E) = false := by simp; omega
              go_wp2_with fail
              go_ret
              exact ⟨by rw [rightB_yes (HR.out fun i h1 h2 => HA.out i h2 (by omega))]; rfl, rfl⟩
        · rw [rightB_no (fun h => by have := h.2.2.1; omega)]
          have hnd : decide ((n : Int) = (q : Int)) = false := by simp; omega
          have hne : ((n : Int) == (q : Int)) = false := by simp; omega
          clear hW hq hr hE hs hs1
          go_enter Tryd.func40, Tryd.ntmps40
          go_wp2_with fail
          go_ret
          exact ⟨rfl, rfl⟩
end Go.Proofs.YtcdjfgkjllonhaaDoor
