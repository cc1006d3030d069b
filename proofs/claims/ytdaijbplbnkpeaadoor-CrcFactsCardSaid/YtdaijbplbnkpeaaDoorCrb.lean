/-
  The contracts of crc's within, part, Shift, Join, Bit, change, Sealed; where the table of the halves lies as the program's text lays it.
-/
import Derived.Test.YtdaijbplbnkpeaaDoorCra
namespace Go.Proofs.YtdaijbplbnkpeaaDoor
open Go.RowKit Go.Shelf

set_option maxHeartbeats 400000 in
theorem within_any (k : Int) (n : Nat) (w : World) (hn' : n ≤ 16777216) :
    Calls Tryd.prog 49 #[.int .i64 k, .int .i64 (n : Int)] w fun e w' => e = .returned (.bool (decide (0 ≤ k ∧ k < 8 * (n : Int)))) ∧ w = w' := by
  by_cases h0 : 0 ≤ k
  · by_cases h1 : k < 8 * (n : Int)
    · have hr : decide (0 ≤ k ∧ k < 8 * (n : Int)) = true := by simp [h0, h1]
      rw [hr]
      have hd0 : decide (0 ≤ k) = true := by simpa using h0
      have hd1 : decide (k < 8 * (n : Int)) = true := by simpa using h1
      clear hr
      go_enter Tryd.func49, Tryd.ntmps49
      go_wp2_with fail
      go_ret
      exact ⟨rfl, rfl⟩
    · have hr : decide (0 ≤ k ∧ k < 8 * (n : Int)) = false := by simp [h1]
      rw [hr]
      have hd0 : decide (0 ≤ k) = true := by simpa using h0
      have hd1 : decide (k < 8 * (n : Int)) = false := by simpa using h1
      clear hr
      go_enter Tryd.func49, Tryd.ntmps49
      go_wp2_with fail
      go_ret
      exact ⟨rfl, rfl⟩
  · have hr : decide (0 ≤ k ∧ k < 8 * (n : Int)) = false := by simp [h0]
    rw [hr]
    have hd0 : decide (0 ≤ k) = false := by simpa using h0
    clear hr
    go_enter Tryd.func49, Tryd.ntmps49
    go_wp2_with fail
    go_ret
    exact ⟨rfl, rfl⟩

set_option maxHeartbeats 400000 in
theorem part_any (n k : Nat) (w : World) (hn' : n ≤ 16777216) (hk : k < 8 * n) :
    Calls Tryd.prog 44 #[.int .i64 (n : Int), .int .i64 (k : Int)] w fun e w' => e = .returned (.int .u32 ((prt n k : Nat) : Int)) ∧ Below w.heap.size w w' := by
  have he := part_eq n k hk
  have hp : prt n k = hn (31 + 8 * n - k) 2147483648 := by rw [show 31 + 8 * n - k = 32 + 8 * n - 1 - k from by omega]; exact he.symm
  rw [hp]
  clear hp he
  go_enter Tryd.func44, Tryd.ntmps44
  go_wp2_with fail
  refine (timesPower_any 2147483648 (31 + 8 * n - k) _ _ (by omega) (by omega) (by omega)).mono ?_
  rintro e w' ⟨rfl, hb⟩
  go_wp2_with fail
  go_ret
  exact ⟨rfl, hb⟩

set_option maxHeartbeats 400000 in
theorem shift_any (c n : Nat) (w : World) (hc : c < 4294967296) (hn' : n ≤ 16777216) :
    Calls Tryd.prog 22 #[.int .u32 (c : Int), .int .i64 (n : Int)] w fun e w' => e = .returned (.tuple #[.int .u32 ((hn (8 * n) c : Nat) : Int), .int .i64 0]) ∧ Below w.heap.size w w' := by
  have hd0 : decide ((n : Int) < 0) = false := by simp
  have hd1 : decide ((16777216 : Int) < (n : Int)) = false := by simp; omega
  go_enter Tryd.func22, Tryd.ntmps22
  go_wp2_with fail
  refine (timesPower_any c (8 * n) _ _ (by omega) hc (by omega)).mono ?_
  rintro e w' ⟨rfl, hb⟩
  go_wp2_with fail
  go_ret2
  exact ⟨rfl, hb⟩
set_option maxHeartbeats 400000 in
theorem shift_no (c n : Int) (w : World) (h : n < 0 ∨ 16777216 < n) :
    Calls Tryd.prog 22 #[.int .u32 c, .int .i64 n] w fun e w' => e = .returned (.tuple #[.int .u32 0, .int .i64 2]) ∧ w = w' := by
  by_cases h0 : n < 0
  · have hd0 : decide (n < 0) = true := by simpa using h0
    clear h
    go_enter Tryd.func22, Tryd.ntmps22
    go_wp2_with fail
    go_ret2
    exact ⟨rfl, rfl⟩
  · have h1 : 16777216 < n := by omega
    have hd0 : decide (n < 0) = false := by simpa using h0
    have hd1 : decide (16777216 < n) = true := by simpa using h1
    clear h
    go_enter Tryd.func22, Tryd.ntmps22
    go_wp2_with fail
    go_ret2
    exact ⟨rfl, rfl⟩

set_option maxHeartbeats 400000 in
theorem join_any (c d n : Nat) (w : World) (hc : c < 4294967296) (hd : d < 4294967296) (hn' : n ≤ 16777216) :
    Calls Tryd.prog 34 #[.int .u32 (c : Int), .int .u32 (d : Int), .int .i64 (n : Int)] w fun e w' => e = .returned (.tuple #[.int .u32 ((hn (8 * n) c ^^^ d : Nat) : Int), .int .i64 0]) ∧ Below w.heap.size w w' := by
  have hx := bits32_xor (hn (8 * n) c) d (hn_lt _ hc) hd _ _ rfl rfl
  go_enter Tryd.func34, Tryd.ntmps34
  go_wp2_with fail
  refine (shift_any c n _ hc hn').mono ?_
  rintro e w' ⟨rfl, hb⟩
  go_wp2_with fail
  go_ret2
  exact ⟨rfl, hb⟩
set_option maxHeartbeats 400000 in
theorem join_no (c d n : Int) (w : World) (h : n < 0 ∨ 16777216 < n) :
    Calls Tryd.prog 34 #[.int .u32 c, .int .u32 d, .int .i64 n] w fun e w' => e = .returned (.tuple #[.int .u32 0, .int .i64 2]) ∧ w = w' := by
  have hs := fun w => shift_no c n w h
  clear h
  go_enter Tryd.func34, Tryd.ntmps34
  go_wp2_with fail
  refine (hs _).mono ?_
  rintro e w' ⟨rfl, rfl⟩
  go_wp2_with fail
  go_ret2
  exact ⟨rfl, rfl⟩

set_option maxHeartbeats 400000 in
theorem bit_any (n k : Nat) (w : World) (hn' : n ≤ 16777216) (hk : k < 8 * n) :
    Calls Tryd.prog 23 #[.int .i64 (n : Int), .int .i64 (k : Int)] w fun e w' => e = .returned (.tuple #[.int .u32 ((prt n k : Nat) : Int), .int .i64 0]) ∧ Below w.heap.size w w' := by
  have hd0 : decide ((n : Int) < 1) = false := by simp; omega
  have hd1 : decide ((16777216 : Int) < (n : Int)) = false := by simp; omega
  have hw : decide (0 ≤ (k : Int) ∧ (k : Int) < 8 * (n : Int)) = true := by simp; omega
  go_enter Tryd.func23, Tryd.ntmps23
  go_wp2_with fail
  refine (within_any (k : Int) n _ hn').mono ?_
  rintro e w' ⟨rfl, rfl⟩
  rw [hw]
  go_wp2_with fail
  refine (part_any n k _ hn' hk).mono ?_
  rintro e w' ⟨rfl, hb⟩
  go_wp2_with fail
  go_ret2
  exact ⟨rfl, hb⟩
set_option maxHeartbeats 400000 in
theorem bit_no (n k : Int) (w : World) (h : n < 1 ∨ 16777216 < n ∨ k < 0 ∨ 8 * n ≤ k) :
    Calls Tryd.prog 23 #[.int .i64 n, .int .i64 k] w fun e w' => e = .returned (.tuple #[.int .u32 0, .int .i64 2]) ∧ w = w' := by
  by_cases h0 : n < 1
  · have hd0 : decide (n < 1) = true := by simpa using h0
    clear h
    go_enter Tryd.func23, Tryd.ntmps23
    go_wp2_with fail
    go_ret2
    exact ⟨rfl, rfl⟩
  · have hd0 : decide (n < 1) = false := by simpa using h0
    by_cases h1 : 16777216 < n
    · have hd1 : decide (16777216 < n) = true := by simpa using h1
      clear h
      go_enter Tryd.func23, Tryd.ntmps23
      go_wp2_with fail
      go_ret2
      exact ⟨rfl, rfl⟩
    · have hd1 : decide (16777216 < n) = false := by simpa using h1
      obtain ⟨m, rfl⟩ : ∃ m : Nat, n = (m : Int) := ⟨n.toNat, by omega⟩
      have hm : m ≤ 16777216 := by omega
      have hw : decide (0 ≤ k ∧ k < 8 * (m : Int)) = false := by simp; omega
      have hwi := fun w => within_any k m w hm
      clear h
      rw [hw] at hwi
      clear hw
      go_enter Tryd.func23, Tryd.ntmps23
      go_wp2_with fail
      refine (hwi _).mono ?_
      rintro e w' ⟨rfl, rfl⟩
      go_wp2_with fail
      go_ret2
      exact ⟨rfl, rfl⟩

set_option maxHeartbeats 400000 in
theorem change_any (a : Option Addr) (n cap : Nat) (l : List Int) (w : World) (hT : Tab w) (hS : Sl .u8 w a n cap l) (hB : Bys l) :
    Calls Tryd.prog 45 #[.slice a n cap] w fun e w' => e = .returned (.int .u32 ((chg l : Nat) : Int)) ∧ w = w' := by
  have hf := sum_any' a n cap l w hT hS hB
  have hx := bits32_xor (upd 0 l) 558161692 (upd_lt hB (by decide)) (by omega) _ 558161692 rfl rfl
  have hc : chg l = upd 0 l ^^^ 558161692 := rfl
  rw [hc]
  go_enter Tryd.func45, Tryd.ntmps45
  go_wp2_with fail
  refine hf.mono ?_
  rintro e w' ⟨rfl, rfl⟩
  go_wp2_with fail
  go_ret
  exact ⟨rfl, rfl⟩

/-- Whether bytes are sealed. -/
def seaB (l : List Int) : Bool := decide (Sea l)
theorem seaB_yes {l : List Int} (h : Sea l) : seaB l = true := by unfold seaB; simpa using h
theorem seaB_no {l : List Int} (h : ¬ Sea l) : seaB l = false := by unfold seaB; simpa using h
theorem seaB_iff {l : List Int} : seaB l = true ↔ Sea l := by unfold seaB; simp
theorem seaB_iff' {l : List Int} : seaB l = false ↔ ¬ Sea l := by unfold seaB; simp
attribute [irreducible] seaB

set_option maxHeartbeats 400000 in
theorem sealed_any (a : Option Addr) (n cap : Nat) (l : List Int) (w : World) (hT : Tab w) (hS : Sl .u8 w a n cap l) (hB : Bys l) :
    Calls Tryd.prog 27 #[.slice a n cap] w fun e w' => e = .returned (.bool (seaB l)) ∧ w = w' := by
  have hl := hS.1
  have hcap : n ≤ 9223372036854775807 := by have := hS.2.1; have := hS.2.2.1; omega
  have hf := change_any a n cap l w hT hS hB
  by_cases h4 : 4 ≤ n
  · have hd : decide ((4 : Int) ≤ (n : Int)) = true := by simp; omega
    by_cases hc : chg l = 0
    · have hb : (((chg l : Nat) : Int) == 0) = true := by simp [hc]
      have hr : seaB l = true := seaB_yes ⟨by omega, hc⟩
      rw [hr]
      clear hr hl hc
      go_enter Tryd.func27, Tryd.ntmps27
      go_wp2_with fail
      refine hf.mono ?_
      rintro e w' ⟨rfl, rfl⟩
      go_wp2_with fail
      go_ret
      exact ⟨rfl, rfl⟩
    · have hb : (((chg l : Nat) : Int) == 0) = false := by simp [hc]
      have hr : seaB l = false := seaB_no (fun h => hc h.2)
      rw [hr]
      clear hr hl hc
      go_enter Tryd.func27, Tryd.ntmps27
      go_wp2_with fail
      refine hf.mono ?_
      rintro e w' ⟨rfl, rfl⟩
      go_wp2_with fail
      go_ret
      exact ⟨rfl, rfl⟩
  · have hd : decide ((4 : Int) ≤ (n : Int)) = false := by simp; omega
    have hr : seaB l = false := seaB_no (fun h => h4 (by have := h.1; omega))
    rw [hr]
    clear hr hl hf
    go_enter Tryd.func27, Tryd.ntmps27
    go_wp2_with fail
    go_ret
    exact ⟨rfl, rfl⟩
end Go.Proofs.YtdaijbplbnkpeaaDoor
