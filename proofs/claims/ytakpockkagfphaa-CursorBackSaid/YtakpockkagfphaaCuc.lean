/-
  The contract of a reader's step that takes a count. No condition but those in each statement.
-/
import Derived.Test.YtakpockkagfphaaCun
import Derived.BigQuiet
namespace Go.Proofs.Ytakpockkagfphaa
open Go.RowKit Go.Shelf

theorem nbR_zero {l : List Int} {ix : Nat} {top z er : Int} {m : Nat} (h : nbR l ix top = (m, z, er)) (he : er ≠ 0) : z = 0 := by
  unfold nbR at h
  dsimp only at h
  split at h
  · simp at h; exact h.2.1.symm
  · split at h
    · simp at h; exact h.2.1.symm
    · simp at h; exact absurd h.2.2.symm he

theorem quo_lt {L size z : Int} (hL0 : 0 ≤ L) (hL1 : L ≤ 140737488355000) (hs : 1 ≤ size) : IntKind.u64.wrap (L / size) < z ↔ L < z * size := by
  have h0 : 0 ≤ L / size := Int.ediv_nonneg hL0 (by omega)
  have h1 : L / size ≤ L := Int.ediv_le_self _ hL0
  rw [IntKind.wrap_u64, Int.emod_eq_of_lt h0 (by omega)]
  exact Int.ediv_lt_iff_lt_mul (by omega)

set_option maxRecDepth 100000 in
set_option maxHeartbeats 2000000 in
theorem count_rd (w : World) (r : Nat) (l : List Int) (ix : Nat) (top size : Int) (h : Rd w r l ix) (hby : Bytes l) (ht0 : 0 ≤ top) (hs1 : 1 ≤ size) (hs2 : size ≤ 9223372036854775807) :
    Calls Try.prog 52 #[.agg #[.pointer (some ⟨r, 0, none⟩), .int .i64 size], .int .u64 top] w (StRes r l ix (ctR l ix top size) w) := by
  obtain ⟨m, z, er, hr⟩ : ∃ m z er, nbR l ix top = (m, z, er) := ⟨_, _, _, rfl⟩
  have hlt := h.lt
  have hle := h.le
  have hT := Two.new w 96 (.pointer (some ⟨r, 0, none⟩)) (.int .i64 size)
  have e0 := hT.c0
  have hB0 : Below w.heap.size w (w.alloc (.cells #[.pointer (some ⟨r, 0, none⟩), .int .i64 size] 96)) := (Below.refl _ _).alloc (Nat.le_refl _) _
  have hN := Lib.hid (number_rd _ r l ix top (h.below hB0) hby)
  have hnot : ¬ (top < 0 ∨ size < 1) := by omega
  go_enter Try.func52, Try.ntmps52
  go_wp2_with fail
  refine hN.out.mono ?_
  rw [hr]
  rintro e w2 ⟨rfl, ⟨ix2, hR2, hix⟩, hX2⟩
  have hX : Bx (Only r) w w2 := (Bx.of hB0).trans hX2
  have hT2 := hT.bx hX2 (Only.ne (by omega))
  obtain ⟨a, cap, h1, h2, h3, h4, h5⟩ := id hR2
  have c0 := h1.c0
  have d0 := hT2.c0
  have d1 := hT2.c1
  by_cases her : er = 0
  · subst her
    obtain rfl := hix rfl
    have hg := nbR_good hby hr hle
    have hsz : (size == 0) = false := by simp; omega
    by_cases hq : (l.length : Int) - (ix + m) < z * size
    · have HR := Lib.hid (ctR_end hnot hr hq)
      have hd : decide (IntKind.u64.wrap (((l.length : Int) - (ix + m)) / size) < z) = true := by simp only [decide_eq_true_eq]; exact (quo_lt (by omega) (by omega) hs1).2 hq
      clear hN hB0 hX2 hr hix hT hT2 h1 h2 h3 hq
      go_wp2_with fail
      go_quiet (fail)
      go_wp2
      go_ret2
      exact StRes.err HR.out (by decide) (hR2.below (below_drewN (Below.refl _ _) _)) (hX.drewN _)
    · have HR := Lib.hid (ctR_ok hnot hr hq)
      have hd : decide (IntKind.u64.wrap (((l.length : Int) - (ix + m)) / size) < z) = false := by simp only [decide_eq_false_iff_not]; exact fun hh => hq ((quo_lt (by omega) (by omega) hs1).1 hh)
      clear hN hB0 hX2 hr hix hT hT2 h1 h2 h3 hq
      go_wp2_with fail
      go_quiet (fail)
      go_wp2
      go_ret2
      exact StRes.ok HR.out (hR2.below (below_drewN (Below.refl _ _) _)) (hX.drewN _)
  · obtain rfl := nbR_zero hr her
    have HR := Lib.hid (ctR_err hnot hr her)
    have HE := Lib.hid her
    have hb : (er == 0) = false := by simp; exact her
    clear hN hB0 hX2 hr her hix hT hT2 h1 h2 h3
    go_wp2_with fail
    go_quiet (fail)
    go_wp2
    go_ret2
    exact StRes.err HR.out HE.out (hR2.below (below_drewN (Below.refl _ _) _)) (hX.drewN _)
end Go.Proofs.Ytakpockkagfphaa
