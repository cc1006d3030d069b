/-
  The contract of the reference's Write: for every number it returns the number's form in new memory, and nothing that was there is changed.
-/
import Derived.Test.YtakpockkagfphaaOwn
namespace Go.Proofs.Ytakpockkagfphaa
open Go.RowKit

/-- What a call that makes a slice of integers ends in: the list l, in a slice that the call's own blocks hold; nothing that was there has changed. -/
def Made (k : IntKind) (e : TypeId) (l : List Int) (w : World) (r : Ending) (w' : World) : Prop :=
  ∃ a cap, r = .returned (.slice a l.length cap) ∧ w'.ownsRow w.heap.size e 1 (.slice a l.length cap) l.length (l.map (Value.int k)) ∧ Below w.heap.size w w'

theorem wrapU8 (x : Int) (h0 : 0 ≤ x) (h1 : x ≤ 255) : IntKind.u8.wrap x = x := by rw [IntKind.wrap_u8]; omega

set_option maxHeartbeats 1000000 in
theorem rwrite_any (x : Int) (w : World) (h0 : 0 ≤ x) (h1 : x ≤ 18446744073709551615) :
    Calls Try.prog 42 #[.int .u64 x] w (Made .u8 5 (vform x) w) := by
  obtain ⟨i0, hi, hz0, hz1, hz2⟩ := info_parts infoU8
  have h10 : vsize x ≤ 10 := vsize_10 h1
  go_enter Try.func42, Try.ntmps42
  go_wp2
  go_loopw [0, 3] (fun y v wr => ∃ (z : Int) (pre : List Int), 0 ≤ z ∧ z ≤ 18446744073709551615 ∧ y = .int .u64 z ∧ pre ++ vform z = vform x ∧ wr.ownsRow w.heap.size 5 1 v pre.length (pre.map (Value.int .u8)) ∧ Below w.heap.size w wr) (fun y _ _ => (intOf y).toNat)
  case atStart => exact ⟨x, [], h0, h1, rfl, rfl, World.ownsRow_nil _ _ _ _, Below.refl _ _⟩
  case round =>
    obtain ⟨z, pre, hz0', hz1', rfl, hpre, hown, hbel⟩ := hrel
    have hlen : pre.length + vsize z = vsize x := by unfold vsize; rw [← hpre]; simp
    have hp := vsize_pos z
    have hle : pre.length ≤ 10 := by omega
    have HP := Lib.hid hpre
    have hsz := hbel.size
    clear hpre hlen
    by_cases hc : 128 ≤ z
    · go_wp2_with (at_builtin; refine wpList_append_own _ rfl _ _ 22 rfl w.heap.size 5 i0 (.int .u8 0) 1 1 Try.underlying22 hi hz0 hz1 hz2 rfl (by decide) _ _ _ rfl (hown.alloc _) ⟨wr.heap.size, 0, none⟩ 1 1 [.int .u8 (128 + z % 128)] rfl rfl ?c1 ?c2 ?c3 ?c4 ?c5 ?_)
      case c1 => exact one_cell _ _ _ _
      case c2 => exact one_one _ _
      case c3 => unfold maxLen; omega
      case c4 => omega
      case c5 => simp; omega
      · intro v' w1 hown' hgrow _
        have hb1 : Below w.heap.size w w1 := (hbel.alloc hsz _).grown hgrow (by simp; omega) (fun k hk => (hown.lt k hk).1)
        clear hown hgrow
        go_wp2
        go_roundw
        case rel => exact ⟨z / 128, pre ++ [128 + z % 128], by omega, by omega, rfl, by rw [← HP.out, vform_ge hc]; simp, by simpa using hown', hb1⟩
        case measure => simp [intOf]; omega
    · have hw8 := wrapU8 z hz0' (by omega)
      go_wp2_with (at_builtin; refine wpList_append_own _ rfl _ _ 22 rfl w.heap.size 5 i0 (.int .u8 0) 1 1 Try.underlying22 hi hz0 hz1 hz2 rfl (by decide) _ _ _ rfl (hown.alloc _) ⟨wr.heap.size, 0, none⟩ 1 1 [.int .u8 z] rfl rfl ?d1 ?d2 ?d3 ?d4 ?d5 ?_)
      case d2 => first | rfl | exact one_one _ _
      case d3 => unfold maxLen; omega
      case d4 => omega
      case d5 => first | omega | (simp; omega)
      · intro v' w1 hown' hgrow _
        have hb1 : Below w.heap.size w w1 := (hbel.alloc hsz _).grown hgrow (by simp; omega) (fun k hk => (hown.lt k hk).1)
        have hf : pre ++ [z] = vform x := by rw [← HP.out, vform_lt (by omega)]
        have HF := Lib.hid hf
        clear hown hgrow hf
        go_wp2
        go_ret
        obtain ⟨a, cap, rfl⟩ := own_shape hown'
        have hln : pre.length + 1 = (vform x).length := by rw [← HF.out]; simp
        refine ⟨a, cap, by rw [hln]; rfl, ?_, hb1⟩
        rw [← hln, ← HF.out]
        simpa using hown'
end Go.Proofs.Ytakpockkagfphaa
