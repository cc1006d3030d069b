/-
  The contract of varint's Read: for any bytes it returns the number, the size and the error that are read out of them; nothing that was there is changed.
-/
import Derived.Test.YtakpockkagfphaaScan
namespace Go.Proofs.Ytakpockkagfphaa
open Go.RowKit Go.Shelf

/-- What Read returns. -/
def ReadRes (l : List Int) : Ending := .returned (.tuple #[.int .u64 (vread l).1, .int .i64 (vread l).2.1, .int .i64 (vread l).2.2])

set_option maxHeartbeats 1000000 in
theorem read_any (a : Option Addr) (len cap : Nat) (l : List Int) (w : World) (hs : Sl .u8 w a len cap l) (hby : Bytes l) :
    Calls Try.prog 43 #[.slice a len cap] w fun e w' => e = ReadRes l ∧ Below w.heap.size w w' := by
  by_cases h0 : len = 0
  · have hln : ((len : Int) == 0) = true := by simp; exact h0
    have hres : ReadRes l = .returned (.tuple #[.int .u64 0, .int .i64 0, .int .i64 10]) := by
      have : l = [] := List.eq_nil_of_length_eq_zero (by rw [hs.1, h0])
      rw [this]; rfl
    have HRS := Lib.hid hres
    clear hres h0 hs
    go_enter Try.func43, Try.ntmps43
    go_wp2
    go_ret3
    exact ⟨HRS.out.symm, Below.refl _ _⟩
  · have hln : ((len : Int) == 0) = false := by simp; exact h0
    have hs2 := hs.below ((((Below.refl w.heap.size w).alloc (Nat.le_refl _) (.cells #[.int .u64 0] 28)).alloc (by simp) (.cells #[.int .i64 0] 3)))
    have hBx1 := (Boxed.new w 28 (.int .u64 0)).alloc (.cells #[.int .i64 0] 3)
    have hBx2 := Boxed.new (w.alloc (.cells #[.int .u64 0] 28)) 3 (.int .i64 0)
    rw [World.size_alloc] at hBx2
    go_enter Try.func43, Try.ntmps43
    go_wp2_with fail
    refine (scan_read a len cap l w.heap.size (w.heap.size + 1) _ hs2 hby (by omega) (by omega) hBx1 hBx2).mono ?_
    rintro e w1 ⟨rfl, ⟨hb1, hb2⟩, hbel⟩
    have hB := ((((Below.refl w.heap.size w).alloc (Nat.le_refl _) (.cells #[.int .u64 0] 28)).alloc (by simp) (.cells #[.int .i64 0] 3))).trans (hbel w.heap.size (Nat.le_refl _) (by omega))
    have c1 := hb1.cell
    have c2 := hb2.cell
    clear hs2 hBx1 hBx2 hb1 hb2 hbel
    go_wp2
    go_quiet (fail)
    go_wp2
    go_ret3
    exact ⟨rfl, below_drewN hB _⟩
end Go.Proofs.Ytakpockkagfphaa
