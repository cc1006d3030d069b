/-
  The contracts of varint's WriteAll and of the reference's: for any numbers, at most 1000000 of them, they return the forms, one after the other, in new memory; nothing that was there is changed.
-/
import Derived.Test.YtakpockkagfphaaPutb
import Derived.Test.YtakpockkagfphaaApp
import Derived.Test.YtakpockkagfphaaRall
namespace Go.Proofs.Ytakpockkagfphaa
open Go.RowKit Go.Shelf

theorem Sl.idx {k : IntKind} {w : World} {a : Option Addr} {len cap : Nat} {l : List Int} (h : Sl k w a len cap l) {i : Nat} (hi : i < len) : ∃ b off, a = some ⟨b, off, none⟩ ∧ w.cell? ⟨b, off + i, none⟩ = some (.int k (l[i]?.getD 0)) := by
  obtain ⟨_, _, _, h4⟩ := h
  rcases h4 with ⟨h5, _⟩ | ⟨b, off, ha, _, hc⟩
  · omega
  · exact ⟨b, off, ha, hc i hi⟩

end Go.Proofs.Ytakpockkagfphaa
