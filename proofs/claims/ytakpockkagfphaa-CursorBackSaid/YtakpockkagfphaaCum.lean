/-
  The contracts of a reader's methods, for all arguments; bytes.Clone, and NewReader. No condition but those in each statement.
-/
import Derived.Test.YtakpockkagfphaaCuw
namespace Go.Proofs.Ytakpockkagfphaa
open Go.RowKit Go.Shelf

set_option maxRecDepth 100000 in
set_option maxHeartbeats 1000000 in
theorem fixed_any (w : World) (r : Nat) (l : List Int) (ix : Nat) (n : Int) (h : Rd w r l ix) (hby : Bytes l) :
    Calls Try.prog 32 #[.pointer (some ⟨r, 0, none⟩), .int .i64 n] w (MRes .u64 r l ix (fxR l ix n) w) := by
  by_cases hn : n < 1 ∨ 8 < n
  · have HR := Lib.hid (fxR_arg (l := l) (ix := ix) hn)
    by_cases hn1 : n < 1
    · have hb1 : decide (n < 1) = true := by simp; omega
      clear hn hn1
      go_enter Try.func32, Try.ntmps32
      go_wp2_with (go_at_call 48; refine (none_rd _ r l ix h).mono ?_; rintro e w' ⟨rfl, rfl⟩)
      go_ret2
      exact MRes.arg HR.out h (Bx.refl _ _)
    · have hb1 : decide (n < 1) = false := by simp; omega
      have hb2 : decide (8 < n) = true := by simp; omega
      clear hn hn1
      go_enter Try.func32, Try.ntmps32
      go_wp2_with (go_at_call 48; refine (none_rd _ r l ix h).mono ?_; rintro e w' ⟨rfl, rfl⟩)
      go_ret2
      exact MRes.arg HR.out h (Bx.refl _ _)
  · obtain ⟨m, rfl⟩ : ∃ m : Nat, n = m := ⟨n.toNat, by omega⟩
    exact fixed_go w r l ix m (by omega) (by omega) h hby

set_option maxRecDepth 100000 in
set_option maxHeartbeats 1000000 in
theorem count_any (w : World) (r : Nat) (l : List Int) (ix : Nat) (n size : Int) (htm : n ≤ 9223372036854775807) (hs2 : size ≤ 9223372036854775807) (h : Rd w r l ix) (hby : Bytes l) :
    Calls Try.prog 25 #[.pointer (some ⟨r, 0, none⟩), .int .i64 n, .int .i64 size] w (MRes .i64 r l ix (ctR l ix n size) w) := by
  by_cases hn : n < 0 ∨ size < 1
  · have HR := Lib.hid (ctR_arg (l := l) (ix := ix) hn)
    by_cases hn1 : n < 0
    · have hb1 : decide (n < 0) = true := by simp; omega
      clear hn hn1
      go_enter Try.func25, Try.ntmps25
      go_wp2_with (go_at_call 48; refine (none_rd _ r l ix h).mono ?_; rintro e w' ⟨rfl, rfl⟩)
      go_ret2
      exact MRes.arg HR.out h (Bx.refl _ _)
    · have hb1 : decide (n < 0) = false := by simp; omega
      have hb2 : decide (size < 1) = true := by simp; omega
      clear hn hn1
      go_enter Try.func25, Try.ntmps25
      go_wp2_with (go_at_call 48; refine (none_rd _ r l ix h).mono ?_; rintro e w' ⟨rfl, rfl⟩)
      go_ret2
      exact MRes.arg HR.out h (Bx.refl _ _)
  · exact count_go w r l ix n size (by omega) htm (by omega) hs2 h hby

theorem fx1 {l : List Int} {ix : Nat} (hby : Bytes l) : 0 ≤ (fxR l ix 1).2.1 ∧ (fxR l ix 1).2.1 ≤ 255 := by
  rw [fxR_go (by omega)]
  have h1 : (tkL l ix 1).length ≤ 1 := by unfold tkL; split <;> simp; omega
  have := leV_lt (tkL l ix 1) 1 (tkL_bytes hby ix 1) h1
  exact ⟨this.1, by have := this.2; simp at this; show leV (tkL l ix 1) ≤ 255; omega⟩

set_option maxRecDepth 100000 in
set_option maxHeartbeats 1000000 in
theorem byte_any (w : World) (r : Nat) (l : List Int) (ix : Nat) (h : Rd w r l ix) (hby : Bytes l) :
    Calls Try.prog 28 #[.pointer (some ⟨r, 0, none⟩)] w (MRes .u8 r l ix (fxR l ix 1) w) := by
  have hw : IntKind.u8.wrap (fxR l ix 1).2.1 = (fxR l ix 1).2.1 := by
    have := fx1 (ix := ix) hby
    simp only [IntKind.wrap, IntKind.bits, IntKind.signed]
    simp; omega
  have HW := Lib.hid hw
  have HN := Lib.hid (fixed_any w r l ix 1 h hby)
  clear hw
  go_enter Try.func28, Try.ntmps28
  go_wp2_with (go_at_call 32; refine HN.out.mono ?_; rintro e w3 ⟨rfl, hR3, hX3⟩)
  go_ret2
  refine ⟨?_, hR3, hX3⟩
  show Ending.returned (.tuple #[.int .u8 (IntKind.u8.wrap (fxR l ix 1).2.1), _]) = _
  rw [HW.out]; rfl
end Go.Proofs.Ytakpockkagfphaa
