/-
  A set as an argument: its number and its words.
-/
import Derived.Test.YtcdjfgkjllonhaaDoorBts
import Derived.ProofKit
import Derived.ChangeSame
namespace Go.Proofs.YtcdjfgkjllonhaaDoor
open Go.RowKit Go.ChangeShapes Go.WideShapes

theorem some_of_len2 {α : Type} {xs : List α} {n i : Nat} (h : xs.length = n) (hi : i < n) : ∃ x, xs[i]? = some x := ⟨xs[i], List.getElem?_eq_getElem (by omega)⟩
theorem list2 {α : Type} {l : List α} (h : l.length = 2) : ∃ a b, l = [a, b] := by
  match l, h with
  | [a, b], _ => exact ⟨a, b, rfl⟩
/-- What is read of a set. -/
theorem open_set {H : Type} {enc : TypeId × Value → H} {W : World} {held : Bool} {fuel : Nat} {cs : List Value} {x : DataW H × List MemPlace} (h : DataW.trod enc Tryd.prog W 0 (fun _ => true) held fuel 24 cs = some x) :
    ∃ N a len cap l, cs = [.int .i64 N, .slice a len cap] ∧ (Lit.int .i64 N).wf = true ∧ Sl .u64 W a len cap l ∧ Fits .u64 l := by
  obtain ⟨xs, f, _, _, hlen, hxl, hf⟩ := DataW.trod_struct Tryd.underlying24 h
  have hc2 : Tryd.prog.cellsOf 24 = 2 := by kernel_rfl
  have hi64 : Tryd.prog.cellsOf 3 = 1 := by kernel_rfl
  have hsl : Tryd.prog.cellsOf 22 = 1 := by kernel_rfl
  rw [hc2] at hlen
  obtain ⟨c0, c1, rfl⟩ := list2 hlen
  have hxl : xs.length = 2 := hxl
  obtain ⟨x0, e0⟩ := some_of_len2 hxl (i := 0) (by omega)
  obtain ⟨x1, e1⟩ := some_of_len2 hxl (i := 1) (by omega)
  have h0 : DataW.trod enc Tryd.prog W 0 (fun _ => true) held f 3 [c0] = some x0 := by have := (hf 0 _ rfl).trans e0; simpa [hi64] using this
  have h1 : DataW.trod enc Tryd.prog W 0 (fun _ => true) held f 22 [c1] = some x1 := by have := (hf 1 _ rfl).trans e1; simpa [hsl] using this
  obtain ⟨N, r0, _, w0⟩ := DataW.trod_int Tryd.underlying3 h0
  simp only [List.cons.injEq, and_true] at r0
  subst r0
  rcases open_ints Tryd.underlying22 Tryd.underlying30 (by kernel_rfl) h1 with ⟨hcs, _⟩ | ⟨p, len, cap, zs, hcs, _, hl, hm, hz, _, hcell, hwz⟩
  · simp only [List.cons.injEq, and_true] at hcs
    subst hcs
    exact ⟨N, none, 0, 0, [], rfl, w0, Sl.nil _ _, Fits.nil _⟩
  · simp only [List.cons.injEq, and_true] at hcs
    subst hcs
    exact ⟨N, some p, len, cap, zs.take len, rfl, w0, Sl.of_cells hl hm (by simpa using hz) hcell, Fits.take hwz⟩
end Go.Proofs.YtcdjfgkjllonhaaDoor
