/-
  The contracts of a reader's step that takes a number, and of the one that takes a count. No condition but those in each statement.
-/
import Derived.Test.YtakpockkagfphaaCuf
import Derived.Test.YtakpockkagfphaaRead
import Derived.Deep.RegionHeld3
namespace Go.Proofs.Ytakpockkagfphaa
open Go.RowKit Go.Shelf

/-- What stays in the region that reads a number. -/
def RSt (w : World) (r : Nat) (v : Value) (w' : World) : Prop := Below w.heap.size w w' ∧ w'.cell? ⟨r, 2, none⟩ = some v
theorem RSt.step {w w1 w2 : World} {r : Nat} {v : Value} (h : RSt w r v w1) (hb : Below w1.heap.size w1 w2) : RSt w r v w2 :=
  ⟨h.1.trans (hb.mono h.1.size), (hb.cell (World.block_lt_of_cell? w1 _ h.2)).trans h.2⟩
theorem RSt.drew {w w1 : World} {r : Nat} {v : Value} (h : RSt w r v w1) : RSt w r v w1.drew := h.step (Below.refl _ _).drew

theorem StRes.err {r : Nat} {l : List Int} {ix ix2 : Nat} {R : Nat × Int × Int} {w w' : World} {e : Int} (hR : R = (0, 0, e)) (he : e ≠ 0) (h : Rd w' r l ix2) (hx : Bx (Only r) w w') : StRes r l ix R w (.returned (.tuple #[.int .u64 0, .int .i64 e])) w' := by
  subst hR
  exact ⟨rfl, ⟨ix2, h, fun hh => absurd hh he⟩, hx⟩
theorem StRes.ok {r : Nat} {l : List Int} {ix m : Nat} {R : Nat × Int × Int} {w w' : World} {z : Int} (hR : R = (m, z, 0)) (h : Rd w' r l (ix + m)) (hx : Bx (Only r) w w') : StRes r l ix R w (.returned (.tuple #[.int .u64 z, .int .i64 0])) w' := by
  subst hR
  exact ⟨rfl, ⟨_, h, fun _ => rfl⟩, hx⟩


set_option maxRecDepth 100000 in
set_option maxHeartbeats 4000000 in
theorem number_tight (w : World) (r : Nat) (l : List Int) (ix : Nat) (top : Int) (a : Option Addr) (cap : Nat) (h1 : Tri w r 83 (.int .i64 ((l.length : Int) - ix)) (.bool true) (.slice a l.length cap)) (h2 : Sl .u8 w a l.length cap l) (h4 : ix ≤ l.length) (h : Rd w r l ix) (hby : Bytes l) (hc : cap = ix) :
    Calls Try.prog 54 #[.pointer (some ⟨r, 0, none⟩), .int .u64 top] w (StRes r l ix (nbR l ix top) w) := by
  have c2 := h1.c2
  have hcap := h2.2.1
  have hcI : (ix : Int) ≤ (cap : Int) := by omega
  have hcm := h2.2.2.1
  have hby2 := hby.drop ix
  have hS0 : RSt w r (.slice a l.length cap) w := ⟨Below.refl _ _, c2⟩
  obtain ⟨z, m, er, hv⟩ : ∃ z m er, vread (l.drop ix) = (z, m, er) := ⟨_, _, _, rfl⟩
  have hrr := Lib.hid (readRes_eq' hv)
  have hTl := h2.tail h4
  have hc0 : cap - ix = 0 := by omega
  rw [if_pos hc, hc0] at hTl
  have hTL := Lib.hid hTl
  have HL := Lib.hid h4
  clear h2 hTl h1
  by_cases her : er = 0
  · subst her
    have hpos := vread_pos (by rw [hv]) hby2
    rw [hv] at hpos
    have hm : ix + m ≤ l.length := by have := hpos.2; simp at *; omega
    have hb1 : ((0 : Int) != 0) = false := rfl
    by_cases hz : top < z
    · have hb2 : decide (top < z) = true := by simp; omega
      have HR := Lib.hid (nbR_most hv hz)
      clear hv hpos hz
      go_enter Try.func54, Try.ntmps54
      go_wp2_with fail
      go_region_held3 (fun w' => Below w.heap.size w w' ∧ w'.cell? ⟨r, 2, none⟩ = some (.slice a l.length cap)) (solve | (repeat (first | assumption | refine RSt.drew ?_ | refine RSt.step ?_ (by assumption) | refine RSt.step ?_ (Draws.below (by assumption))))) (first
        | (go_at_call 49; refine (place_rd _ r l ix (h.below (Below.refl _ _).drew)).mono ?_; rintro e w1 ⟨rfl, hD⟩; have hS1 := (hS0.drew).step hD.below)
        | (go_at_call 43; refine (read_any _ _ _ (l.drop ix) _ (hTL.out.below hS1.1) hby2).mono ?_; rintro e w2 ⟨rfl, hB2⟩; rw [hrr.out]; have hS2 := hS1.step hB2))
      go_wp2_with fail
      refine (take_rd _ r l ix m (h.below hS2.1) hm).mono ?_
      rintro e w3 ⟨a2, c2', rfl, _, _, hR3, hX3⟩
      go_wp2_with fail
      go_ret2
      exact StRes.err HR.out (by decide) hR3 ((Bx.of hS2.1).trans hX3)
    · have hb2 : decide (top < z) = false := by simp; omega
      have HR := Lib.hid (nbR_ok hv hz)
      clear hv hpos hz
      go_enter Try.func54, Try.ntmps54
      go_wp2_with fail
      go_region_held3 (fun w' => Below w.heap.size w w' ∧ w'.cell? ⟨r, 2, none⟩ = some (.slice a l.length cap)) (solve | (repeat (first | assumption | refine RSt.drew ?_ | refine RSt.step ?_ (by assumption) | refine RSt.step ?_ (Draws.below (by assumption))))) (first
        | (go_at_call 49; refine (place_rd _ r l ix (h.below (Below.refl _ _).drew)).mono ?_; rintro e w1 ⟨rfl, hD⟩; have hS1 := (hS0.drew).step hD.below)
        | (go_at_call 43; refine (read_any _ _ _ (l.drop ix) _ (hTL.out.below hS1.1) hby2).mono ?_; rintro e w2 ⟨rfl, hB2⟩; rw [hrr.out]; have hS2 := hS1.step hB2))
      go_wp2_with fail
      refine (take_rd _ r l ix m (h.below hS2.1) hm).mono ?_
      rintro e w3 ⟨a2, c2', rfl, _, _, hR3, hX3⟩
      go_wp2_with fail
      go_ret2
      exact StRes.ok HR.out hR3 ((Bx.of hS2.1).trans hX3)
  · have hb1 : (er != 0) = true := by simp; exact her
    have HR := Lib.hid (nbR_err (top := top) hv her)
    have HE := Lib.hid her
    clear hv her
    go_enter Try.func54, Try.ntmps54
    go_wp2_with fail
    go_region_held3 (fun w' => Below w.heap.size w w' ∧ w'.cell? ⟨r, 2, none⟩ = some (.slice a l.length cap)) (solve | (repeat (first | assumption | refine RSt.drew ?_ | refine RSt.step ?_ (by assumption) | refine RSt.step ?_ (Draws.below (by assumption))))) (first
      | (go_at_call 49; refine (place_rd _ r l ix (h.below (Below.refl _ _).drew)).mono ?_; rintro e w1 ⟨rfl, hD⟩; have hS1 := (hS0.drew).step hD.below)
      | (go_at_call 43; refine (read_any _ _ _ (l.drop ix) _ (hTL.out.below hS1.1) hby2).mono ?_; rintro e w2 ⟨rfl, hB2⟩; rw [hrr.out]; have hS2 := hS1.step hB2))
    go_wp2_with fail
    go_ret2
    exact StRes.err HR.out HE.out (h.below hS2.1) (Bx.of hS2.1)


set_option maxRecDepth 100000 in
set_option maxHeartbeats 4000000 in
theorem number_roomy (w : World) (r : Nat) (l : List Int) (ix : Nat) (top : Int) (a : Option Addr) (cap : Nat) (h1 : Tri w r 83 (.int .i64 ((l.length : Int) - ix)) (.bool true) (.slice a l.length cap)) (h2 : Sl .u8 w a l.length cap l) (h4 : ix ≤ l.length) (h : Rd w r l ix) (hby : Bytes l) (hc : ¬ cap = ix) :
    Calls Try.prog 54 #[.pointer (some ⟨r, 0, none⟩), .int .u64 top] w (StRes r l ix (nbR l ix top) w) := by
  have c2 := h1.c2
  have hcap := h2.2.1
  have hcI : (ix : Int) ≤ (cap : Int) := by omega
  have hcm := h2.2.2.1
  have hby2 := hby.drop ix
  have hS0 : RSt w r (.slice a l.length cap) w := ⟨Below.refl _ _, c2⟩
  obtain ⟨z, m, er, hv⟩ : ∃ z m er, vread (l.drop ix) = (z, m, er) := ⟨_, _, _, rfl⟩
  have hrr := Lib.hid (readRes_eq' hv)
  have hTl := h2.tail h4
  rw [if_neg hc] at hTl
  have hTL := Lib.hid hTl
  have HL := Lib.hid h4
  clear h2 hTl h1
  by_cases her : er = 0
  · subst her
    have hpos := vread_pos (by rw [hv]) hby2
    rw [hv] at hpos
    have hm : ix + m ≤ l.length := by have := hpos.2; simp at *; omega
    have hb1 : ((0 : Int) != 0) = false := rfl
    by_cases hz : top < z
    · have hb2 : decide (top < z) = true := by simp; omega
      have HR := Lib.hid (nbR_most hv hz)
      clear hv hpos hz
      go_enter Try.func54, Try.ntmps54
      go_wp2_with fail
      go_region_held3 (fun w' => Below w.heap.size w w' ∧ w'.cell? ⟨r, 2, none⟩ = some (.slice a l.length cap)) (solve | (repeat (first | assumption | refine RSt.drew ?_ | refine RSt.step ?_ (by assumption) | refine RSt.step ?_ (Draws.below (by assumption))))) (first
        | (go_at_call 49; refine (place_rd _ r l ix (h.below (Below.refl _ _).drew)).mono ?_; rintro e w1 ⟨rfl, hD⟩; have hS1 := (hS0.drew).step hD.below)
        | (go_at_call 43; refine (read_any _ _ _ (l.drop ix) _ (hTL.out.below hS1.1) hby2).mono ?_; rintro e w2 ⟨rfl, hB2⟩; rw [hrr.out]; have hS2 := hS1.step hB2))
      go_wp2_with fail
      refine (take_rd _ r l ix m (h.below hS2.1) hm).mono ?_
      rintro e w3 ⟨a2, c2', rfl, _, _, hR3, hX3⟩
      go_wp2_with fail
      go_ret2
      exact StRes.err HR.out (by decide) hR3 ((Bx.of hS2.1).trans hX3)
    · have hb2 : decide (top < z) = false := by simp; omega
      have HR := Lib.hid (nbR_ok hv hz)
      clear hv hpos hz
      go_enter Try.func54, Try.ntmps54
      go_wp2_with fail
      go_region_held3 (fun w' => Below w.heap.size w w' ∧ w'.cell? ⟨r, 2, none⟩ = some (.slice a l.length cap)) (solve | (repeat (first | assumption | refine RSt.drew ?_ | refine RSt.step ?_ (by assumption) | refine RSt.step ?_ (Draws.below (by assumption))))) (first
        | (go_at_call 49; refine (place_rd _ r l ix (h.below (Below.refl _ _).drew)).mono ?_; rintro e w1 ⟨rfl, hD⟩; have hS1 := (hS0.drew).step hD.below)
        | (go_at_call 43; refine (read_any _ _ _ (l.drop ix) _ (hTL.out.below hS1.1) hby2).mono ?_; rintro e w2 ⟨rfl, hB2⟩; rw [hrr.out]; have hS2 := hS1.step hB2))
      go_wp2_with fail
      refine (take_rd _ r l ix m (h.below hS2.1) hm).mono ?_
      rintro e w3 ⟨a2, c2', rfl, _, _, hR3, hX3⟩
      go_wp2_with fail
      go_ret2
      exact StRes.ok HR.out hR3 ((Bx.of hS2.1).trans hX3)
  · have hb1 : (er != 0) = true := by simp; exact her
    have HR := Lib.hid (nbR_err (top := top) hv her)
    have HE := Lib.hid her
    clear hv her
    go_enter Try.func54, Try.ntmps54
    go_wp2_with fail
    go_region_held3 (fun w' => Below w.heap.size w w' ∧ w'.cell? ⟨r, 2, none⟩ = some (.slice a l.length cap)) (solve | (repeat (first | assumption | refine RSt.drew ?_ | refine RSt.step ?_ (by assumption) | refine RSt.step ?_ (Draws.below (by assumption))))) (first
      | (go_at_call 49; refine (place_rd _ r l ix (h.below (Below.refl _ _).drew)).mono ?_; rintro e w1 ⟨rfl, hD⟩; have hS1 := (hS0.drew).step hD.below)
      | (go_at_call 43; refine (read_any _ _ _ (l.drop ix) _ (hTL.out.below hS1.1) hby2).mono ?_; rintro e w2 ⟨rfl, hB2⟩; rw [hrr.out]; have hS2 := hS1.step hB2))
    go_wp2_with fail
    go_ret2
    exact StRes.err HR.out HE.out (h.below hS2.1) (Bx.of hS2.1)


theorem number_rd (w : World) (r : Nat) (l : List Int) (ix : Nat) (top : Int) (h : Rd w r l ix) (hby : Bytes l) :
    Calls Try.prog 54 #[.pointer (some ⟨r, 0, none⟩), .int .u64 top] w (StRes r l ix (nbR l ix top) w) := by
  obtain ⟨a, cap, h1, h2, h3, h4, h5⟩ := h
  by_cases hc : cap = ix
  · exact number_tight w r l ix top a cap h1 h2 h4 ⟨a, cap, h1, h2, h3, h4, h5⟩ hby hc
  · exact number_roomy w r l ix top a cap h1 h2 h4 ⟨a, cap, h1, h2, h3, h4, h5⟩ hby hc
end Go.Proofs.Ytakpockkagfphaa
