/-
  The library's sort at uint32: xorshift's Next.
-/
import Derived.Test.YtdaijbplbnkpeaaDoorSrh
namespace Go.Proofs.YtdaijbplbnkpeaaDoor
open Go.RowKit Go.Shelf

theorem u64_in (x : Int) : 0 ≤ IntKind.u64.wrap x ∧ IntKind.u64.wrap x < 18446744073709551616 := by rw [IntKind.wrap_u64]; omega
theorem box_set {base g n c s : Nat} {t : TypeId} {v : Value} {w : World} {M : List Int} (h : Rw base g n c w M ∧ Boxed w s t v ∧ base ≤ s ∧ s ≠ g) (u : Value) :
    (Rw base g n c (w.setCell ⟨s, 0, none⟩ u).drew M ∧ Boxed (w.setCell ⟨s, 0, none⟩ u).drew s t u ∧ base ≤ s ∧ s ≠ g) ∧ Below base w (w.setCell ⟨s, 0, none⟩ u).drew :=
  ⟨⟨(h.1.below' h.2.1.lt h.2.2.2 u).drew, h.2.1.set u, h.2.2⟩, ((Below.refl base w).setCell (p := ⟨s, 0, none⟩) h.2.2.1 u).drew⟩

set_option maxRecDepth 100000 in
set_option maxHeartbeats 2000000 in
theorem nxt_any (base g n c s : Nat) (X : Int) (M : List Int) (w : World) (h : Rw base g n c w M ∧ Boxed w s 110 (.int .u64 X) ∧ base ≤ s ∧ s ≠ g) :
    Calls Tryd.prog 83 #[.pointer (some ⟨s, 0, none⟩)] w fun e w' => ∃ Y : Int, 0 ≤ Y ∧ Y < 18446744073709551616 ∧ e = .returned (.int .u64 Y) ∧ (Rw base g n c w' M ∧ Boxed w' s 110 (.int .u64 Y) ∧ base ≤ s ∧ s ≠ g) ∧ Below base w w' := by
  have k1 := h.2.1.cell
  have k2 := h.2.1.frozen
  have H := Lib.hid (fun u => box_set h u)
  clear h
  go_enter Tryd.func83, Tryd.ntmps83
  go_wp2_with fail
  go_region
  obtain ⟨Y1, hY1⟩ : ∃ Y, Y = bits .xor .u64 X (IntKind.u64.wrap (X * 8192)) := ⟨_, rfl⟩
  have b1 : 0 ≤ Y1 ∧ Y1 < 18446744073709551616 := by rw [hY1]; exact u64_in _
  obtain ⟨h1, B1⟩ := H.out (.int .u64 Y1)
  rw [← hY1]
  clear hY1 H k1 k2
  obtain ⟨w1, hw1⟩ : ∃ wz, wz = (w.setCell ⟨s, 0, none⟩ (.int .u64 Y1)).drew := ⟨_, rfl⟩
  rw [← hw1] at h1 B1 ⊢
  clear hw1
  have k1 := h1.2.1.cell
  have k2 := h1.2.1.frozen
  have H := Lib.hid (fun u => box_set h1 u)
  have G1 := Lib.hid h1
  clear h1
  go_wp2_with fail
  go_region
  obtain ⟨Y2, hY2⟩ : ∃ Y, Y = bits .xor .u64 Y1 (Y1 / 128) := ⟨_, rfl⟩
  have b2 : 0 ≤ Y2 ∧ Y2 < 18446744073709551616 := by rw [hY2]; exact u64_in _
  obtain ⟨h2, B2⟩ := H.out (.int .u64 Y2)
  rw [← hY2]
  clear hY2 H k1 k2
  obtain ⟨w2, hw2⟩ : ∃ wz, wz = (w1.setCell ⟨s, 0, none⟩ (.int .u64 Y2)).drew := ⟨_, rfl⟩
  rw [← hw2] at h2 B2 ⊢
  clear hw2
  have k1 := h2.2.1.cell
  have k2 := h2.2.1.frozen
  have H := Lib.hid (fun u => box_set h2 u)
  have G2 := Lib.hid h2
  clear h2
  go_wp2_with fail
  go_region
  obtain ⟨Y3, hY3⟩ : ∃ Y, Y = bits .xor .u64 Y2 (IntKind.u64.wrap (Y2 * 131072)) := ⟨_, rfl⟩
  have b3 : 0 ≤ Y3 ∧ Y3 < 18446744073709551616 := by rw [hY3]; exact u64_in _
  obtain ⟨h3, B3⟩ := H.out (.int .u64 Y3)
  rw [← hY3]
  clear hY3 H k1 k2
  obtain ⟨w3, hw3⟩ : ∃ wz, wz = (w2.setCell ⟨s, 0, none⟩ (.int .u64 Y3)).drew := ⟨_, rfl⟩
  rw [← hw3] at h3 B3 ⊢
  clear hw3
  have k1 := h3.2.1.cell
  have k2 := h3.2.1.frozen
  have H := Lib.hid (fun u => box_set h3 u)
  have G3 := Lib.hid h3
  clear h3
  go_wp2_with fail
  go_ret
  exact ⟨Y3, b3.1, b3.2, rfl, G3.out, (B1.trans B2).trans B3⟩
end Go.Proofs.YtdaijbplbnkpeaaDoor
