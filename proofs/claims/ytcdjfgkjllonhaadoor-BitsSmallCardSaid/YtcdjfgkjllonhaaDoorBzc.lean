/-
  The contracts of bits' Rank, Count, Select, Next, Before and Has.
-/
import Derived.Test.YtcdjfgkjllonhaaDoorBzb
namespace Go.Proofs.YtcdjfgkjllonhaaDoor
open Go.RowKit Go.Shelf

/-- A number and true, or 0 and false. -/
def pairV : Option Nat → Value
  | some m => .tuple #[.int .i64 (m : Int), .bool true]
  | none => .tuple #[.int .i64 0, .bool false]
/-- The member of a rank. -/
def selF (l : List Int) (k : Int) : Option Nat := if 0 ≤ k then (all l)[k.toNat]? else none

/-- A word with its lowest bits alone, as the program takes it. -/
theorem low_and {x k : Nat} (hx : x < 18446744073709551616) (hk : k ≤ 64) : bits .and .u64 (x : Int) ((2 ^ k - 1 : Nat) : Int) = ((x &&& (2 ^ k - 1) : Nat) : Int) :=
  bits_and_u64_nat x (2 ^ k - 1) hx (by
    have : 2 ^ k ≤ 2 ^ 64 := Nat.pow_le_pow_right (by omega) hk
    omega)
theorem and_lt64 {x : Nat} (y : Nat) (hx : x < 18446744073709551616) : x &&& y < 18446744073709551616 := Nat.lt_of_le_of_lt Nat.and_le_left hx
theorem rk_max {l : List Int} (h : l.length ≤ 1024) (i : Nat) : rk l i ≤ 65536 := by
  have h1 := rk_le_all l i
  have h2 := mem_len (64 * l.length) l
  have h3 : (all l).length = (mem (64 * l.length) l).length := rfl
  omega
theorem efw_len (N : Int) (l : List Int) : (ef N l).length ≤ 1024 := by
  cases h : rightB N l with
  | true =>
    rw [ef_yes h]
    have := of_rightB h
    have h1 := this.2.1
    have h2 := this.2.2.1
    omega
  | false => rw [ef_no h]; simp

set_option maxRecDepth 100000 in
set_option maxHeartbeats 1000000 in
theorem rank_any (w : World) (N i : Int) (a : Option Addr) (n c : Nat) (l : List Int) (h : SetIn w N a n c l) (hi0 : -9223372036854775808 ≤ i) (hi1 : i ≤ 9223372036854775807) :
    Calls Tryd.prog 25 #[.agg #[.int .i64 N, .slice a n c], .int .i64 i] w fun e w' => e = .returned (.int .i64 (rk (ef N l) i.toNat : Nat)) ∧ Below w.heap.size w w' := by
  have hB : Below w.heap.size w (w.alloc (.cells #[.int .i64 N, .slice a n c] 24)) := (Below.refl _ w).alloc (Nat.le_refl _) _
  have hW := words_any _ N a n c l (h.below hB)
  have hEl := efw_len N l
  have hEw := h.wds.ef N
  obtain ⟨E, hE⟩ : ∃ E, E = ef N l := ⟨_, rfl⟩
  rw [← hE] at hW hEl hEw ⊢
  clear hE h
  obtain ⟨I, hI⟩ : ∃ I : Nat, I = i.toNat := ⟨_, rfl⟩
  have hmax : max i 0 = (I : Int) := by omega
  have hIb : I ≤ 9223372036854775807 := by omega
  rw [← hI]
  clear hI
  obtain ⟨R, hR⟩ : ∃ R, R = rk E I := ⟨_, rfl⟩
  rw [← hR]
  have HR := Lib.hid hR
  clear hR
  go_enter Tryd.func25, Tryd.ntmps25
  go_wp2_with fail
  refine hW.mono ?_
  rintro e w1 ⟨a', n', c', rfl, hs, hB1, _⟩
  have hB2 := hB.trans (hB1.mono (by simp))
  have hln := hs.1
  have hc1 := hs.2.1
  have hc2 := hs.2.2.1
  have HLN := Lib.hid hln
  clear hW hB hB1
  go_wp2_with fail
  go_loopw [5, 13] (fun S J wr => ∃ j s : Nat, j ≤ n' ∧ J = .int .i64 (j : Int) ∧ S = .int .i64 (s : Int) ∧ s = rk E (min (64 * j) I) ∧ wr = w1) (fun S J _ => n' - (intOf J).toNat)
  case atStart => exact ⟨0, 0, by omega, rfl, rfl, by rw [show min (64 * 0) I = 0 by omega]; rfl, rfl⟩
  case round =>
    obtain ⟨j, s, hj, rfl, rfl, hse, rfl⟩ := hrel
    have hsm := rk_max hEl (min (64 * j) I)
    rw [← hse] at hsm
    by_cases hlt : j < n'
    · have hst := rank_step E j I
      rw [← hse] at hst
      obtain ⟨b, off, rfl, hc⟩ := hs.view (by omega)
      have hcell := hc j hlt
      rw [wd_eq hEw j] at hcell
      have hx := wd_lt hEw j
      obtain ⟨v, hv⟩ : ∃ v, v = wd E j := ⟨_, rfl⟩
      rw [← hv] at hcell hx hst
      obtain ⟨k, hk⟩ : ∃ k : Nat, k = min (I - 64 * j) 64 := ⟨_, rfl⟩
      have hk64 : k ≤ 64 := by omega
      rw [← hk] at hst
      have hkk : (k : Int) = min (max ((I : Int) - 64 * (j : Int)) 0) 64 := by omega
      have ql := fun W : World => lowest_any ((I : Int) - 64 * (j : Int)) k W hkk
      have ha := low_and hx hk64
      have hpl := pop_low v k hk64
      have hal := and_lt64 (2 ^ k - 1) hx
      obtain ⟨u, hu⟩ : ∃ u, u = v &&& (2 ^ k - 1) := ⟨_, rfl⟩
      obtain ⟨P, hP⟩ : ∃ P, P = 2 ^ k - 1 := ⟨_, rfl⟩
      rw [← hu] at ha hpl hal
      rw [← hP] at ha ql
      have qo := fun W : World => ones_any u W hal
      rw [hpl] at qo
      have hpk := pop_le v k
      obtain ⟨t, ht⟩ : ∃ t, t = pop v k := ⟨_, rfl⟩
      rw [← ht] at qo hst hpk
      have i1 : (j : Int) < (n' : Int) := by omega
      have HST := Lib.hid hst
      have hj2 : j < 1024 := by omega
      clear hst hse hv hk hkk hpl hu hP ht hc hal
      go_wp2_with fail
      refine (ql _).mono ?_
      rintro e w2 ⟨rfl, rfl⟩
      go_wp2_with fail
      refine (qo _).mono ?_
      rintro e w2 ⟨rfl, rfl⟩
      go_wp2_with fail
      go_roundw
      case rel => exact ⟨j + 1, s + t, by omega, by go_num, by go_num, HST.out.symm, trivial⟩
      case measure => simp [intOf]; omega
    · obtain rfl : j = n' := by omega
      have hend : s = R := by rw [HR.out, hse, ← HLN.out]; exact rank_end E I
      clear hse
      go_wp2_with fail
      go_ret
      exact ⟨ret_num (by rw [hend]), hB2⟩
end Go.Proofs.YtcdjfgkjllonhaaDoor
