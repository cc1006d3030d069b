/-
  The walk of the law VarintLists: for any numbers it returns true; nothing that was there is changed.
-/
import Derived.Test.YteddbpcpllehoaaAwake
import Derived.Test.YteddbpcpllehoaaWall
import Derived.Test.YteddbpcpllehoaaLent
namespace Go.Proofs.Yteddbpcpllehoaa
open Go.RowKit Go.Shelf

theorem Fits.nums {l : List Int} (h : Fits .u64 l) : Nums l := fun c hc => bounds_u64 (h c hc)
theorem Sl.front {k : IntKind} {w : World} {a : Option Addr} {n cap : Nat} {l m : List Int} (h : Sl k w a n cap (l ++ m)) (hn : l.length ≤ n) : Sl k w a l.length cap l := by
  have := h.upto l.length hn
  rwa [List.take_left] at this

set_option maxHeartbeats 1000000 in
theorem lists_any (w : World) (a : Option Addr) (len cap : Nat) (l : List Int) (hs : Sl .u64 w a len cap l) (hn : Nums l) :
    Calls Try.prog 15 #[.slice a len cap] w fun e w' => e = .returned (.bool true) ∧ Below w.heap.size w w' := by
  obtain rfl : l.length = len := hs.1
  by_cases h500 : 500 < l.length
  · have hI : (500 : Int) < (l.length : Int) := by omega
    go_enter Try.func15, Try.ntmps15
    go_wp2_with fail
    go_ret
    exact ⟨rfl, Below.refl _ _⟩
  · have hI : (l.length : Int) ≤ 500 := by omega
    go_enter Try.func15, Try.ntmps15
    go_wp2_with fail
    refine (lentNums_any w a l.length cap l hs (by omega)).mono ?_
    rintro e w1 ⟨a1, c1, rfl, ho1, hB1⟩
    have hso1 := ho1.front (by omega)
    have hs1 := hs.below hB1
    clear hs
    go_wp2_with fail
    refine (writeAll_any w1 a1 l.length c1 l hso1 hn (by omega)).mono ?_
    rintro e w2 ⟨a2, c2, rfl, hown2, hB2⟩
    have hr2 := own_sl hown2
    have ho2 := ho1.below hB2
    have hs2 := hs1.below hB2
    have hBB2 := hB1.trans (hB2.mono hB1.size)
    clear hown2 ho1 hs1 hso1 hB1 hB2
    go_wp2_with fail
    refine (rwriteAll_any w2 a l.length cap l hs2 hn (by omega)).mono ?_
    rintro e w3 ⟨a3, c3, rfl, hown3, hB3⟩
    have hr3 := own_sl hown3
    have hr2' := hr2.below hB3
    have ho3 := ho2.below hB3
    have hs3 := hs2.below hB3
    have hBB3 := hBB2.trans (hB3.mono hBB2.size)
    clear hown3 ho2 hs2 hr2 hBB2 hB3
    go_wp2_with fail
    refine (sameBytes_yes w3 _ _ _ _ _ _ _ _ hr2' hr3 rfl).mono ?_
    rintro e w4 ⟨rfl, hD4⟩
    have ho4 := ho3.below hD4.below
    have hs4 := hs3.below hD4.below
    have hBB4 := hBB3.trans (hD4.below.mono hBB3.size)
    clear ho3 hs3 hr2' hr3 hBB3 hD4
    go_wp2_with fail
    refine (keptNums_any w4 a1 a c1 l.length cap l ho4 hs4 (by omega)).mono ?_
    rintro e w5 ⟨rfl, hD5⟩
    have hBB5 := hBB4.trans (hD5.below.mono hBB4.size)
    clear ho4 hs4 hBB4 hD5
    go_wp2_with fail
    go_ret
    exact ⟨rfl, hBB5⟩

set_option maxHeartbeats 1000000 in
theorem lists_walk (w : World) (a : Option Addr) (len cap : Nat) (l : List Int) (hs : Sl .u64 w a len cap l) (hf : Fits .u64 l) :
    Calls Try.prog 5 #[.slice a len cap] w fun e w' => e = .returned (.bool true) ∧ Below w.heap.size w w' := by
  go_enter Try.func5, Try.ntmps5
  go_wp2_with fail
  refine (lists_any w a len cap l hs hf.nums).mono ?_
  rintro e w1 ⟨rfl, hB1⟩
  go_wp2_with fail
  refine (awake_any w1).mono ?_
  rintro e w2 ⟨rfl, hB2⟩
  have hB := hB1.trans (hB2.mono hB1.size)
  clear hB1 hB2
  go_wp2_with fail
  go_ret
  exact ⟨rfl, hB⟩
end Go.Proofs.Yteddbpcpllehoaa
