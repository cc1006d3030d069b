/-
  The contract of crc's bitsOfByte: the iterator yields the bits of a byte, each with its linear part, for every loop body.
-/
import Derived.RangeFuncBox
import Derived.RangeFuncLeaves
import Derived.RangeFuncWrites
import Derived.RangeFuncCalls
import Derived.RangeFuncNested
import Derived.Shelf.Abstract
import Derived.WalkKit
import Derived.OwnWalkIn
import Derived.TacticsInMore
import Derived.LoopNIn
import Derived.LoopIn
import Derived.Maps.AppendAt
import Derived.Test.YtdaijbplbnkpeaaDoorCrb
import Derived.Test.YtdaijbplbnkpeaaDoorPdb
namespace Go.Proofs.YtdaijbplbnkpeaaDoor
open Go.RowKit Go.Shelf

attribute [local go_sem] Oper.semAt_some

/-- One x less. -/
theorem inv_odd {q c : Nat} (hc : c < 2 ^ 32) (hq : q = rvn (hs c) 32) : (q % 2 = 1 → (q ^^^ 4374732215) / 2 = rvn c 32) ∧ (q % 2 = 0 → q / 2 = rvn c 32) := by
  have hl := rvn_lt c 32
  obtain ⟨r, hr⟩ : ∃ r, r = rvn c 32 := ⟨_, rfl⟩
  rw [← hr] at hl ⊢
  rw [rvn_hs hc, ← hr, ← (nxG_eq hl).1] at hq
  have h2 : ∀ x : Nat, (2 * x ^^^ 4374732215) % 2 = 1 := fun x => by
    have := Nat.xor_mod_two_pow (a := 2 * x) (b := 4374732215) (n := 1)
    simp only [Nat.pow_one] at this
    rw [this, Nat.mul_mod_right]; rfl
  by_cases h : r < 2147483648
  · have e : nxG r = 2 * r := by unfold nxG; rw [show Nat.blt r 2147483648 = true from by simpa using h]; rfl
    rw [e] at hq
    exact ⟨fun h1 => by omega, fun _ => by omega⟩
  · have e : nxG r = 2 * r ^^^ 4374732215 := by unfold nxG; rw [show Nat.blt r 2147483648 = false from by rw [← Bool.not_eq_true, Nat.blt_eq]; exact h]; rfl
    rw [e] at hq
    refine ⟨fun _ => ?_, fun h0 => ?_⟩
    · rw [hq, Nat.xor_assoc, Nat.xor_self, Nat.xor_zero]; omega
    · have := h2 r; omega

theorem prt_step {n k : Nat} (h : k < 8 * n) : prt n k = hs (prt n (k + 1)) := by
  unfold prt
  rw [show 8 * n - k = (8 * n - (k + 1)) + 1 from by omega, hn_succ]

set_option maxRecDepth 100000 in
set_option maxHeartbeats 1000000 in
/-- The iterator yields the bits of the first byte with their parts, for every loop body. -/
theorem bits1_in (n : Nat) (hn : 1 ≤ n) (l Bn : Nat) (m : Nat) (hm : 1 ≤ m) (J Jx : List (Fin 8) → World → Prop)
    (hY : ∀ pre (c : Fin 8) W, J pre W → pre.length < 8 → YieldAt Fence.wide (n - 1) Tryd.prog l #[.int .i64 (c.val : Int), .int .u32 ((prt m c.val : Nat) : Int)] W fun e W' =>
      (e = .returned (.bool true) ∧ J (pre ++ [c]) W' ∧ KpAll W W') ∨ (e = .returned (.bool false) ∧ Jx (pre ++ [c]) W'))
    (W : World) (hBn : W.cell? ⟨Bn, 0, none⟩ = some (.int .u32 ((prt m 0 : Nat) : Int))) (h0 : J [] W) :
    CallsIn Fence.wide n Tryd.prog 60 #[.func (.yield l) #[] #[], .pointer (some ⟨Bn, 0, none⟩)] W fun e W' => (∃ v, e = .returned v) ∧
      ((∃ ys, ys = List.finRange 8 ∧ J ys W') ∨ (∃ pre : List (Fin 8), (∃ k, pre = (List.finRange 8).take k) ∧ Jx pre W')) := by
  have hp0 := prt_lt m 0
  have hq0 := rvn_lt (prt m 0) 32
  have hw0 : IntKind.u64.wrap ((prt m 0 : Nat) : Int) = ((prt m 0 : Nat) : Int) := by rw [IntKind.wrap_u64]; omega
  refine callsIn_of_wp Tryd.func60 rfl trivial ?_ rfl
  simp only [Tryd.ntmps60, List.size_toArray, List.length_cons, List.length_nil, Nat.reduceAdd, Nat.reduceSub, Array.replicate_succ, Array.replicate_zero, List.push_toArray, List.append_toArray, List.nil_append, List.cons_append]
  gi_wp2_with fail
  refine ⟨trivial, (callsIn_wide.2 (opposite_any (prt m 0) _ (by omega))).mono ?_⟩
  rintro e w' ⟨rfl, rfl⟩
  gi_wp2_with fail
  gi_loopw [3, 8] (fun p I wr => ∃ k : Nat, k ≤ 8 ∧ I = .int .i64 (k : Int) ∧ p = .int .u64 ((rvn (prt m k) 32 : Nat) : Int) ∧ J ((List.finRange 8).take k) wr)
    (fun _ I _ => 8 - (intOf I).toNat)
  case atStart => exact ⟨0, by omega, rfl, rfl, h0⟩
  case round =>
    obtain ⟨k, hk, rfl, rfl, hJ⟩ := hrel
    by_cases hlt : k < 8
    · have hs1 : (List.finRange 8).take (k + 1) = (List.finRange 8).take k ++ [⟨k, hlt⟩] := by
        rw [List.take_succ_eq_append_getElem (by simpa using hlt)]; simp
      obtain ⟨fn, tmps, assign, body, hy, hR⟩ := hY _ ⟨k, hlt⟩ wr hJ (by simp; omega)
      rw [← hs1] at hR
      obtain ⟨c, hc⟩ : ∃ c, c = prt m k := ⟨_, rfl⟩
      obtain ⟨q, hq⟩ : ∃ q, q = rvn c 32 := ⟨_, rfl⟩
      have hcl : c < 4294967296 := by rw [hc]; exact prt_lt _ _
      have hql : q < 4294967296 := by rw [hq]; exact rvn_lt c 32
      have hqc : rvn q 32 = c := by rw [hq, rvn_rvn, Nat.mod_eq_of_lt hcl]
      have hst := prt_step (n := m) (k := k) (by omega)
      rw [← hc] at hst
      have hinv := inv_odd (prt_lt m (k + 1)) (hq.trans (by rw [hst]))
      have hop := opposite_any q wr (by omega)
      rw [hqc] at hop
      have hw32 : IntKind.u32.wrap ((c : Nat) : Int) = (c : Int) := by rw [IntKind.wrap_u32']; omega
      rw [← hc, ← hq]
      simp only [← hc] at hy
      have HINV := Lib.hid hinv
      have e3 := xor_u64 q 4374732215 (by omega) (by omega) (q : Int) 4374732215 rfl rfl
      have E3 := Lib.hid e3
      have ea := and1_nat q (by omega)
      have hxl : q ^^^ 4374732215 < 2 ^ 33 := Nat.xor_lt_two_pow (by omega) (by omega)
      have HQ := Lib.hid hq
      have HC := Lib.hid hc
      clear hst hinv e3 hq hc hqc hp0 hq0 hw0 hY h0 hBn hs1
      gi_wp2_with fail
      refine ⟨trivial, (callsIn_wide.2 hop).mono ?_⟩
      rintro e w' ⟨rfl, rfl⟩
      gi_wp2_with fail
      refine hR.mono ?_
      rintro e W3 (⟨rfl, hJ3, hk3⟩ | ⟨rfl, hJx3⟩)
      · rcases Nat.mod_two_eq_zero_or_one q with hm2 | hm2
        · have e5 : (bits .and .u64 (q : Int) 1 == 1) = false := by rw [ea, hm2]; rfl
          have HM := Lib.hid hm2
          gi_wp2_with fail
          go_roundw
          case rel => exact ⟨k + 1, by omega, by go_num, by rw [← HINV.out.2 HM.out]; rfl, hJ3⟩
          case measure => simp [intOf]; omega
        · have e5 : (bits .and .u64 (q : Int) 1 == 1) = true := by rw [ea, hm2]; rfl
          have HM := Lib.hid hm2
          gi_wp2_with fail
          go_roundw
          case rel => exact ⟨k + 1, by omega, by go_num, by rw [← HINV.out.1 HM.out, E3.out]; rfl, hJ3⟩
          case measure => simp [intOf]; omega
      · gi_wp2
        refine bodyPost_ret (results_none rfl _ _ _) rfl ?_
        exact ⟨⟨_, rfl⟩, .inr ⟨_, ⟨k + 1, rfl⟩, hJx3⟩⟩
    · obtain rfl : k = 8 := by omega
      gi_wp2_with fail
      go_end0
      exact ⟨⟨_, rfl⟩, .inl ⟨_, rfl, hJ⟩⟩

set_option maxHeartbeats 1000000 in
theorem bits_in (n : Nat) (p : Int) (w : World) :
    CallsIn Fence.wide n Tryd.prog 46 #[.int .u32 p] w fun e w' => e = .returned (.func (.func 60) #[] #[.pointer (some ⟨w.heap.size, 0, none⟩)]) ∧ w' = w.alloc (.cells #[.int .u32 p] 23) := by
  refine callsIn_of_wp Tryd.func46 rfl trivial ?_ rfl
  simp only [Tryd.ntmps46, List.size_toArray, List.length_cons, List.length_nil, Nat.reduceAdd, Nat.reduceSub, Array.replicate_succ, Array.replicate_zero, List.push_toArray, List.append_toArray, List.nil_append, List.cons_append]
  gi_wp2
  go_ret
  exact ⟨rfl, rfl⟩

theorem bits_stops (n : Nat) (hn : 1 ≤ n) (Bn m : Nat) (hm : 1 ≤ m) (w : World) (hBn : Bn < w.heap.size)
    (hc : w.cell? ⟨Bn, 0, none⟩ = some (.int .u32 ((prt m 0 : Nat) : Int))) :
    SeqStopsK Fence.wide n Tryd.prog 60 #[.pointer (some ⟨Bn, 0, none⟩)] (fun c : Fin 8 => #[Value.int .i64 (c.val : Int), Value.int .u32 ((prt m c.val : Nat) : Int)]) KpAll (fun ys => ys = List.finRange 8) (fun pre => ∃ k, pre = (List.finRange 8).take k) 8 w := fun l J Jx W hW _ _ hY h0 =>
  bits1_in n hn l Bn m hm J Jx hY W ((hW.cell (p := ⟨Bn, 0, none⟩) hBn).trans hc) h0
end Go.Proofs.YtdaijbplbnkpeaaDoor
