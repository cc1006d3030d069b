/-
  The chapter's examples are answered as it says. There are no conditions.
-/
import Derived.Test.YtakpockkagfphaaCwf
import Derived.Test.YtakpockkagfphaaMem
namespace Go.Proofs.Ytakpockkagfphaa
open Go.RowKit Go.Shelf

theorem step_rd {B r : Nat} {a b c : World} (h : Below B a b) (hx : Bx (Only r) b c) (hr : B ≤ r) (hB : B ≤ a.heap.size) : Below B a c :=
  h.trans (hx.below (fun _ hk => Nat.le_trans hr (Nat.le_of_eq (Eq.symm hk))) (Nat.le_trans hB h.size))
theorem step_wr {B r : Nat} {lim : Int} {v : Value} {l : List Int} {a b c : World} (h : Below B a b) (hw : Wr b r lim v l) (hx : Bx (Mine r v) b c) (hr : B ≤ r) (hB : B ≤ a.heap.size) : Below B a c :=
  h.trans (hx.below (fun _ hk => Nat.le_trans hr (Mine.ge hw hk)) (Nat.le_trans hB h.size))
theorem step_below {B : Nat} {a b c : World} (h : Below B a b) (hx : Below b.heap.size b c) (hB : B ≤ a.heap.size) : Below B a c :=
  h.trans (hx.mono (Nat.le_trans hB h.size))

def exB : List Int := [1, 172, 2, 7, 0, 9]
theorem exB_bytes : Bytes exB := by unfold Bytes exB; decide

theorem MRes.at {k : IntKind} {r : Nat} {l : List Int} {ix m : Nat} {z er : Int} {R : Nat × Int × Int} {w : World} {e : Ending} {w' : World} (h : MRes k r l ix R w e w') (hR : R = (m, z, er)) (j : Nat) (hj : ix + m = j) :
    e = .returned (.tuple #[.int k z, .int .i64 er]) ∧ Rd w' r l j ∧ Bx (Only r) w w' := by
  subst hR; subst hj; exact h

theorem vform_300 : vform 300 = [172, 2] := by rw [vform_ge (by omega), vform_lt (by omega)]; rfl

set_option maxRecDepth 100000 in
set_option maxHeartbeats 4000000 in
theorem awake_any (w : World) : Calls Try.prog 12 #[] w fun e w' => e = .returned (.bool true) ∧ Below w.heap.size w w' := by
  have hB0 : Below w.heap.size w (w.alloc (.cells #[.int .u8 1, .int .u8 172, .int .u8 2, .int .u8 7, .int .u8 0, .int .u8 9] 5)) := (Below.refl _ _).alloc (Nat.le_refl _) _
  have hsl := (Blk.new .u8 5 w exB).sl (by simp [exB])
  have hN0 := Lib.hid (newReader_any _ _ _ exB hsl (by simp [exB]))
  clear hsl
  go_enter Try.func12, Try.ntmps12
  go_wp2_with fail
  refine hN0.out.mono ?_
  rintro e w1 ⟨r, rfl, hge, hR1, hB1⟩
  have hbel1 := step_below hB0 hB1 (Nat.le_refl _)
  have hr : w.heap.size ≤ r := by simp at hge; omega
  clear hN0 hB0 hB1 hge
  go_wp2_with fail
  refine (byte_any w1 r exB 0 hR1 exB_bytes).mono ?_
  intro e w2 hM
  obtain ⟨rfl, hR2, hX2⟩ := hM.at (m := 1) (z := 1) (er := 0) (by decide) 1 rfl
  have hbel2 := step_rd hbel1 hX2 hr (Nat.le_refl _)
  clear hbel1 hX2 hR1 hM
  go_wp2_with fail
  refine (number_go w2 r exB 1 299 hR2 exB_bytes).mono ?_
  intro e w3 hM
  obtain ⟨rfl, hR3, hX3⟩ := hM.at (m := 0) (z := 0) (er := 21) (by decide) 1 rfl
  have hbel3 := step_rd hbel2 hX3 hr (Nat.le_refl _)
  clear hbel2 hX3 hR2 hM
  go_wp2_with fail
  refine (number_go w3 r exB 1 300 hR3 exB_bytes).mono ?_
  intro e w4 hM
  obtain ⟨rfl, hR4, hX4⟩ := hM.at (m := 2) (z := 300) (er := 0) (by decide) 3 rfl
  have hbel4 := step_rd hbel3 hX4 hr (Nat.le_refl _)
  clear hbel3 hX4 hR3 hM
  go_wp2_with fail
  refine (fixed_any w4 r exB 3 2 hR4 exB_bytes).mono ?_
  intro e w5 hM
  obtain ⟨rfl, hR5, hX5⟩ := hM.at (m := 2) (z := 7) (er := 0) (by decide) 5 rfl
  have hbel5 := step_rd hbel4 hX5 hr (Nat.le_refl _)
  clear hbel4 hX5 hR4 hM
  go_wp2_with fail
  refine (count_any w5 r exB 5 10 1 (by omega) (by omega) hR5 exB_bytes).mono ?_
  intro e w6 hM
  obtain ⟨rfl, hR6, hX6⟩ := hM.at (m := 0) (z := 0) (er := 20) (by decide) 5 rfl
  have hbel6 := step_rd hbel5 hX6 hr (Nat.le_refl _)
  clear hbel5 hX6 hR5 hM
  go_wp2_with fail
  refine (byte_any w6 r exB 5 hR6 exB_bytes).mono ?_
  intro e w7 hM
  obtain ⟨rfl, hR7, hX7⟩ := hM.at (m := 1) (z := 9) (er := 0) (by decide) 6 rfl
  have hbel7 := step_rd hbel6 hX7 hr (Nat.le_refl _)
  clear hbel6 hX7 hR6 hM
  go_wp2_with fail
  refine (byte_any w7 r exB 6 hR7 exB_bytes).mono ?_
  intro e w8 hM
  obtain ⟨rfl, hR8, hX8⟩ := hM.at (m := 0) (z := 0) (er := 20) (by decide) 6 rfl
  have hbel8 := step_rd hbel7 hX8 hr (Nat.le_refl _)
  clear hbel7 hX8 hR7 hM
  go_wp2_with fail
  refine (end_rd w8 r exB 6 hR8).mono ?_
  rintro e w' ⟨rfl, rfl⟩
  have he6 : endE exB.length 6 = 0 := by decide
  rw [he6]
  clear he6
  go_wp2_with fail
  refine (newWriter_ok w8 3 (by omega)).mono ?_
  rintro e w9 ⟨rfl, hW9, hB9⟩
  have hbel9 := step_below hbel8 hB9 (Nat.le_refl _)
  have hr9 := hbel8.size
  clear hR8 hbel8 hB9 hr
  go_wp2_with fail
  refine (wnumber_any w9 _ 3 _ [] 300 hW9 (by omega) (by omega)).mono ?_
  rw [vform_300]
  intro e w10 hM
  obtain ⟨rfl, v10, hW10, hX10, _⟩ := hM.fits (by simp)
  have hbel10 := step_wr hbel9 hW9 hX10 hr9 (Nat.le_refl _)
  clear hbel9 hX10 hW9 hM
  go_wp2_with fail
  refine (wbyte_any w10 _ 3 v10 _ 5 hW10).mono ?_
  intro e w11 hM
  obtain ⟨rfl, v11, hW11, hX11, _⟩ := hM.fits (by simp)
  have hbel11 := step_wr hbel10 hW10 hX11 hr9 (Nat.le_refl _)
  clear hbel10 hX11 hW10 hM
  go_wp2_with fail
  refine (wbyte_any w11 _ 3 v11 _ 6 hW11).mono ?_
  intro e w12 hM
  obtain ⟨rfl, hB12⟩ := hM.full (by simp)
  have hbel12 := step_below hbel11 hB12 (Nat.le_refl _)
  have hW12 := hW11.below hB12
  clear hbel11 hB12 hW11 hM
  go_wp2_with fail
  refine (out_wr w12 _ 3 v11 _ hW12).mono ?_
  rintro e w13 ⟨a13, c13, rfl, hown13, hB13⟩
  have hbel13 := step_below hbel12 hB13 (Nat.le_refl _)
  have hW13 := hW12.below hB13
  have hsl13 := (own_sl hown13).below ((Below.refl w13.heap.size w13).alloc (Nat.le_refl _) (.cells #[.int .u8 172, .int .u8 2, .int .u8 5] 5))
  have hsl14 := (Blk.new .u8 5 w13 [172, 2, 5]).sl (by simp)
  have hbel14 := hbel13.alloc hbel13.size (.cells #[.int .u8 172, .int .u8 2, .int .u8 5] 5)
  have hW14 := hW13.below ((Below.refl w13.heap.size w13).alloc (Nat.le_refl _) (.cells #[.int .u8 172, .int .u8 2, .int .u8 5] 5))
  have hN14 := Lib.hid (sameBytes_yes _ _ _ _ _ _ _ _ _ hsl13 hsl14 rfl)
  clear hbel13 hbel12 hB13 hW12 hW13 hsl13 hsl14 hown13
  go_wp2_with fail
  refine hN14.out.mono ?_
  rintro e w15 ⟨rfl, hD15⟩
  have hbel15 := hbel14.trans (hD15.below.mono hbel14.size)
  have hW15 := hW14.below hD15.below
  clear hN14 hbel14 hW14 hD15
  go_wp2_with fail
  refine (wfixed_over w15 _ 3 v11 _ 256 1 hW15 (by omega) (by omega) (by decide)).mono ?_
  rintro e w' ⟨rfl, rfl⟩
  go_wp2_with fail
  go_ret
  exact ⟨rfl, hbel15⟩
end Go.Proofs.Ytakpockkagfphaa
