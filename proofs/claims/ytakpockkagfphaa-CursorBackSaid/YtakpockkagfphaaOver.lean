/-
  The contract of OverBytes: what was lent, and is the call's own, is overwritten; nothing else is changed.
-/
import Derived.Test.YtakpockkagfphaaLent
import Derived.Laws.OwnMore
namespace Go.Proofs.Ytakpockkagfphaa
open Go.RowKit Go.Shelf

set_option maxHeartbeats 400000 in
theorem mark2_any (i : Int) (w : World) (h0 : 0 ≤ i) (h1 : i ≤ 1000100) :
    Calls Try.prog 66 #[.int .i64 2, .int .i64 i] w fun e w' => e = .returned (.int .i64 (9000027 + i)) ∧ w = w' := by
  go_enter Try.func66, Try.ntmps66
  go_wp2
  go_ret
  exact ⟨rfl, rfl⟩

set_option maxRecDepth 100000 in
set_option maxHeartbeats 400000 in
theorem markByte2_any (i : Int) (w : World) (h0 : 0 ≤ i) (h1 : i ≤ 1000100) :
    Calls Try.prog 56 #[.int .i64 2, .int .i64 i] w fun e w' => (∃ x, e = .returned (.int .u8 x)) ∧ w = w' := by
  go_enter Try.func56, Try.ntmps56
  go_wp2_with (go_at_call 66; refine (mark2_any i _ h0 h1).mono ?_; rintro e w' ⟨rfl, rfl⟩)
  go_ret
  exact ⟨⟨_, rfl⟩, rfl⟩

set_option maxRecDepth 100000 in
set_option maxHeartbeats 2000000 in
theorem overBytes_any (w : World) (base : Nat) (a : Option Addr) (n cap : Nat) (xs : List Value) (hown : w.ownsRow base 5 1 (.slice a (n + 12) cap) (n + 12) xs) (hn : n ≤ 1000000) :
    Calls Try.prog 37 #[.slice a n cap] w fun e w' => e = .returned (.tuple #[]) ∧ Below base w w' := by
  obtain ⟨g, rfl, hbg⟩ : ∃ g, a = some ⟨g, 0, none⟩ ∧ base ≤ g := by
    rcases hown.2 with ⟨h1, h2⟩ | ⟨g, c, cur, hv, hb, _⟩
    · omega
    · cases hv; exact ⟨g, rfl, hb⟩
  have hcap : n + 12 ≤ cap := by
    rcases hown.2 with ⟨h1, h2⟩ | ⟨g, c, cur, hv, hb, _, hc, _⟩
    · omega
    · cases hv; exact hc
  have hcm : cap ≤ 9223372036854775807 := by
    rcases hown.2 with ⟨h1, h2⟩ | ⟨g, c, cur, hv, hb, _, hc, hm, _⟩
    · omega
    · cases hv; unfold maxLen at hm; omega
  have hcI : (n : Int) + 12 ≤ (cap : Int) := by omega
  have htn : ((n : Int) + 12).toNat = n + 12 := by omega
  go_enter Try.func37, Try.ntmps37
  go_wp2_with fail
  go_loopw [3] (fun i wr => ∃ (j : Nat) (ys : List Value), i = .int .i64 j ∧ j ≤ n + 12 ∧ wr.ownsRow base 5 1 (.slice (some ⟨g, 0, none⟩) (n + 12) cap) (n + 12) ys ∧ Below base w wr) (fun i _ => (n + 12) - (intOf i).toNat)
  case atStart => exact ⟨0, xs, rfl, by omega, hown, Below.refl _ _⟩
  case round =>
    obtain ⟨j, ys, rfl, hj, hownj, hbel⟩ := hrel
    have hyl := hownj.1
    by_cases hlt : j < n + 12
    · obtain ⟨y, hy⟩ : ∃ y, ys[j]? = some y := ⟨ys[j], List.getElem?_eq_getElem (by omega)⟩
      have e0 := hownj.cellAt j (by omega)
      rw [hy] at e0
      have e1 := hownj.frozenAt j
      have hst := fun u => (hownj.stored j u).1
      have hbl := fun u => hbel.setCell (p := ⟨g, j, none⟩) hbg u
      clear hyl hownj
      have hj12 : (j : Int) < (n : Int) + 12 := by omega
      go_wp2_with (go_at_call 56; refine (markByte2_any (j : Int) _ (by omega) (by omega)).mono ?_; rintro e w' ⟨⟨x, rfl⟩, rfl⟩)
      go_roundw
      case rel => exact ⟨j + 1, _, by go_num, by omega, hst _, hbl _⟩
      case measure => simp [intOf]; omega
    · go_wp2_with fail
      go_end0
      exact ⟨rfl, hbel⟩
end Go.Proofs.Ytakpockkagfphaa
