/-
  The walk of the law VarintReads: for any bytes it returns true; nothing that was there is changed.
-/
import Derived.Test.YteddbpcpllehoaaAwake
import Derived.Test.YteddbpcpllehoaaRra
import Derived.Test.YteddbpcpllehoaaLists
namespace Go.Proofs.Yteddbpcpllehoaa
open Go.RowKit Go.Shelf

theorem Fits.bytes' {l : List Int} (h : Fits .u8 l) : Bytes l := fun c hc => bounds_u8 (h c hc)

theorem readRes_open (l : List Int) : ∃ z n e, vread l = (z, n, e) ∧ ReadRes l = .returned (.tuple #[.int .u64 z, .int .i64 n, .int .i64 e]) :=
  ⟨(vread l).1, (vread l).2.1, (vread l).2.2, rfl, rfl⟩

set_option maxHeartbeats 2000000 in
theorem reads_any (w : World) (a : Option Addr) (len cap : Nat) (l : List Int) (hs : Sl .u8 w a len cap l) (hn : Bytes l) :
    Calls Try.prog 14 #[.slice a len cap] w fun e w' => e = .returned (.bool true) ∧ Below w.heap.size w w' := by
  obtain rfl : l.length = len := hs.1
  by_cases h500 : 2000 < l.length
  · have hI : (2000 : Int) < (l.length : Int) := by omega
    go_enter Try.func14, Try.ntmps14
    go_wp2_with fail
    go_ret
    exact ⟨rfl, Below.refl _ _⟩
  · have hI : (l.length : Int) ≤ 2000 := by omega
    obtain ⟨z, n, E, _, hR⟩ := readRes_open l
    obtain ⟨R, hRR⟩ : ∃ R, R = (vreads l).2 := ⟨_, rfl⟩
    have HR := Lib.hid hR
    have HRR := Lib.hid hRR
    clear hR hRR
    go_enter Try.func14, Try.ntmps14
    go_wp2_with fail
    refine (lentBytes_any w a l.length cap l hs (by omega)).mono ?_
    rintro e w1 ⟨a1, c1, rfl, ho1, hB1⟩
    have hs1 := hs.below hB1
    clear hs
    go_wp2_with fail
    refine (read_any a1 l.length c1 l w1 (ho1.front (by omega)) hn).mono ?_
    rw [HR.out]
    rintro e w2 ⟨rfl, hB2⟩
    have ho2 := ho1.below hB2
    have hs2 := hs1.below hB2
    have hBB2 := hB1.trans (hB2.mono hB1.size)
    clear ho1 hs1 hB1 hB2
    go_wp2_with fail
    refine (rread_any a l.length cap l w2 hs2 hn).mono ?_
    rw [HR.out]
    rintro e w3 ⟨rfl, rfl⟩
    go_wp2_with fail
    refine (readAll_any w2 a1 l.length c1 l (ho2.front (by omega)) hn (by omega)).mono ?_
    rw [← HRR.out]
    rintro e w3 ⟨⟨a3, n3, c3, rfl, hs3⟩, hB3⟩
    have ho3 := ho2.below hB3
    have hs23 := hs2.below hB3
    have hBB3 := hBB2.trans (hB3.mono hBB2.size)
    clear ho2 hs2 hBB2 hB3
    go_wp2_with fail
    refine (rreadAll_any w3 a l.length cap l hs23 hn (by omega)).mono ?_
    rw [← HRR.out]
    rintro e w4 ⟨⟨a4, n4, c4, rfl, hs4⟩, hB4⟩
    have ho4 := ho3.below hB4
    have hs34 := hs23.below hB4
    have hs33 := hs3.below hB4
    have hBB4 := hBB3.trans (hB4.mono hBB3.size)
    clear ho3 hs23 hs3 hBB3 hB4
    go_wp2_with fail
    refine (sameNums_yes w4 _ _ _ _ _ _ _ _ hs33 hs4 rfl).mono ?_
    rintro e w5 ⟨rfl, hD5⟩
    have ho5 := ho4.below hD5.below
    have hs5 := hs34.below hD5.below
    have hBB5 := hBB4.trans (hD5.below.mono hBB4.size)
    clear ho4 hs34 hs33 hs4 hBB4 hD5
    go_wp2_with fail
    refine (keptBytes_any w5 a1 a c1 l.length cap l ho5 hs5 (by omega)).mono ?_
    rintro e w6 ⟨rfl, hD6⟩
    have hBB6 := hBB5.trans (hD6.below.mono hBB5.size)
    clear ho5 hs5 hBB5 hD6
    go_wp2_with fail
    go_ret
    exact ⟨rfl, hBB6⟩

set_option maxHeartbeats 1000000 in
theorem reads_walk (w : World) (a : Option Addr) (len cap : Nat) (l : List Int) (hs : Sl .u8 w a len cap l) (hf : Fits .u8 l) :
    Calls Try.prog 4 #[.slice a len cap] w fun e w' => e = .returned (.bool true) ∧ Below w.heap.size w w' := by
  go_enter Try.func4, Try.ntmps4
  go_wp2_with fail
  refine (reads_any w a len cap l hs hf.bytes').mono ?_
  rintro e w1 ⟨rfl, hB1⟩
  go_wp2_with fail
  refine (awake_any w1).mono ?_
  rintro e w2 ⟨rfl, hB2⟩
  have hB := hB1.trans (hB2.mono hB1.size)
  clear hB1 hB2
  go_wp2_with fail
  go_ret
  exact ⟨rfl, hB⟩
end Go.Proofs.Yteddbpcpllehoaa
