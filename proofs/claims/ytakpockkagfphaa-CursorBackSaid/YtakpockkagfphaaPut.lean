/-
  The contracts of varint's groups, put and Write: the form of a number is appended to what is already owned; Write returns the form in new memory; for every number.
-/
import Derived.RangeFuncBox
import Derived.RangeFuncLeaves
import Derived.Shelf.Abstract
import Derived.WalkKit
import Derived.OwnWalkIn
import Derived.TacticsInMore
import Derived.LoopNIn
import Derived.LoopIn
import Derived.Maps.AppendAt
import Derived.Test.YtakpockkagfphaaRefw
namespace Go.Proofs.Ytakpockkagfphaa
open Go.RowKit Go.Shelf

attribute [local go_sem] Oper.semAt_some

theorem or_u8 (z : Int) : bits .or .u8 (z % 256) 128 = 128 + z % 128 := by
  have h : ∀ n : Fin 256, bits .or .u8 (n.val : Int) 128 = 128 + (n.val : Int) % 128 := by decide +kernel
  have h2 := h ⟨(z % 256).toNat, by omega⟩
  simp only at h2
  rw [Int.toNat_of_nonneg (by omega)] at h2
  rw [h2]; omega

def KpAny (_ _ : World) : Prop := True

set_option maxRecDepth 100000 in
set_option maxHeartbeats 1000000 in
/-- The iterator yields the form's bytes, for every loop body. -/
theorem groups1_in (F : Fence) (n : Nat) (h6 : F.fn 68) (hro : F.round = none) (hn : 1 ≤ n) (l Bn : Nat) (x : Int) (h0x : 0 ≤ x) (h1x : x ≤ 18446744073709551615) (J Jx : List Int → World → Prop)
    (hY : ∀ pre c W, J pre W → pre.length < (vform x).length → YieldAt F (n - 1) Try.prog l #[.int .u8 c] W fun e W' =>
      (e = .returned (.bool true) ∧ J (pre ++ [c]) W' ∧ KpAny W W') ∨ (e = .returned (.bool false) ∧ Jx (pre ++ [c]) W'))
    (W : World) (hBn : W.cell? ⟨Bn, 0, none⟩ = some (.int .u64 x)) (h0 : J [] W) :
    CallsIn F n Try.prog 68 #[.func (.yield l) #[] #[], .pointer (some ⟨Bn, 0, none⟩)] W fun e W' => (∃ v, e = .returned v) ∧
      ((∃ ys, ys = vform x ∧ J ys W') ∨ (∃ pre, pre <+: vform x ∧ Jx pre W')) := by
  refine callsIn_of_wp Try.func68 rfl h6 ?_ hro
  simp only [Try.ntmps68, List.size_toArray, List.length_cons, List.length_nil, Nat.reduceAdd, Nat.reduceSub, Array.replicate_succ, Array.replicate_zero, List.push_toArray, List.append_toArray, List.nil_append, List.cons_append]
  gi_wp2
  gi_loopw [3] (fun p wr => ∃ (pre : List Int) (z : Int), 0 ≤ z ∧ z ≤ 18446744073709551615 ∧ p = .int .u64 z ∧ pre ++ vform z = vform x ∧ J pre wr)
    (fun p _ => (intOf p).toNat)
  case atStart =>
    exact ⟨[], x, h0x, h1x, rfl, rfl, h0⟩
  case round =>
    obtain ⟨pre, z, hz0, hz1, rfl, hx, hJs⟩ := hrel
    have hlt : pre.length < (vform x).length := by rw [← hx]; have := vform_pos z; simp; omega
    by_cases hc : 128 ≤ z
    · have hor := or_u8 z
      have hx2 : (pre ++ [128 + z % 128]) ++ vform (z / 128) = vform x := by rw [← hx, vform_ge hc]; simp
      obtain ⟨fn, tmps, assign, body, hy, hR⟩ := hY pre (128 + z % 128) wr hJs hlt
      have HX := Lib.hid hx2
      clear hx hx2 hlt
      gi_wp2
      refine hR.mono ?_
      rintro e W3 (⟨rfl, hJ3, hk3⟩ | ⟨rfl, hJx3⟩)
      · gi_wp2
        go_roundw
        case rel => exact ⟨pre ++ [128 + z % 128], z / 128, by omega, by omega, rfl, HX.out, hJ3⟩
        case measure => simp [intOf]; omega
      · gi_wp2
        refine bodyPost_ret (results_none rfl _ _ _) rfl ?_
        exact ⟨⟨_, rfl⟩, .inr ⟨pre ++ [128 + z % 128], ⟨_, HX.out⟩, hJx3⟩⟩
    · have hw8 : z % 256 = z := by omega
      have hx2 : pre ++ [z] = vform x := by rw [← hx, vform_lt (by omega)]
      obtain ⟨fn, tmps, assign, body, hy, hR⟩ := hY pre z wr hJs hlt
      have HX := Lib.hid hx2
      clear hx hx2 hlt
      gi_wp2
      refine hR.mono ?_
      rintro e W3 (⟨rfl, hJ3, hk3⟩ | ⟨rfl, hJx3⟩)
      · gi_wp2
        go_end0
        exact ⟨⟨_, rfl⟩, .inl ⟨_, HX.out, hJ3⟩⟩
      · gi_wp2
        go_end0
        exact ⟨⟨_, rfl⟩, .inr ⟨pre ++ [z], ⟨[], by rw [← HX.out]; simp⟩, hJx3⟩⟩

set_option maxHeartbeats 1000000 in
theorem groups_in (F : Fence) (n : Nat) (h5 : F.fn 64) (hro : F.round = none) (x : Int) (w : World) :
    CallsIn F n Try.prog 64 #[.int .u64 x] w fun e w' => e = .returned (.func (.func 68) #[] #[.pointer (some ⟨w.heap.size, 0, none⟩)]) ∧ w' = w.alloc (.cells #[.int .u64 x] 28) := by
  refine callsIn_of_wp Try.func64 rfl h5 ?_ hro
  simp only [Try.ntmps64, List.size_toArray, List.length_cons, List.length_nil, Nat.reduceAdd, Nat.reduceSub, Array.replicate_succ, Array.replicate_zero, List.push_toArray, List.append_toArray, List.nil_append, List.cons_append]
  gi_wp2
  go_ret
  exact ⟨rfl, rfl⟩

theorem groups_stops (F : Fence) (n : Nat) (h6 : F.fn 68) (hro : F.round = none) (hn : 1 ≤ n) (Bn : Nat) (x : Int) (h0x : 0 ≤ x) (h1x : x ≤ 18446744073709551615) (w : World) (hBn : Bn < w.heap.size)
    (hc : w.cell? ⟨Bn, 0, none⟩ = some (.int .u64 x)) :
    SeqStopsK F n Try.prog 68 #[.pointer (some ⟨Bn, 0, none⟩)] (fun c : Int => #[Value.int .u8 c]) KpAny (fun ys => ys = vform x) (fun pre => pre <+: vform x) (vform x).length w := fun l J Jx W hW _ _ hY h0 =>
  groups1_in F n h6 hro hn l Bn x h0x h1x J Jx hY W ((hW.cell (p := ⟨Bn, 0, none⟩) hBn).trans hc) h0
end Go.Proofs.Ytakpockkagfphaa
