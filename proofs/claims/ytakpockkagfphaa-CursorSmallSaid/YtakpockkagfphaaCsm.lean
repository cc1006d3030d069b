/-
  The walk of the law on calls at their limits. There are no conditions.
-/
import Derived.Test.YtakpockkagfphaaNob
namespace Go.Proofs.Ytakpockkagfphaa
open Go.RowKit Go.Shelf

/-- The five cells of a call. -/
structure AR where
  k : Int
  n : Int
  m : Int
  X : Int
  ba : Option Addr
  bn : Nat
  bc : Nat
  bl : List Int
def AR.ok (w : World) (r : AR) : Prop := (Lit.int .u8 r.k).wf = true ∧ (Lit.int .i64 r.n).wf = true ∧ (Lit.int .i64 r.m).wf = true ∧ (Lit.int .u64 r.X).wf = true ∧ Sl .u8 w r.ba r.bn r.bc r.bl ∧ Fits .u8 r.bl
def five (r0 r1 r2 r3 r4 : AR) : Array Value :=
  #[.int .u8 r0.k, .int .i64 r0.n, .int .i64 r0.m, .int .u64 r0.X, .slice r0.ba r0.bn r0.bc, .int .u8 r1.k, .int .i64 r1.n, .int .i64 r1.m, .int .u64 r1.X, .slice r1.ba r1.bn r1.bc, .int .u8 r2.k, .int .i64 r2.n, .int .i64 r2.m, .int .u64 r2.X, .slice r2.ba r2.bn r2.bc, .int .u8 r3.k, .int .i64 r3.n, .int .i64 r3.m, .int .u64 r3.X, .slice r3.ba r3.bn r3.bc, .int .u8 r4.k, .int .i64 r4.n, .int .i64 r4.m, .int .u64 r4.X, .slice r4.ba r4.bn r4.bc]
theorem acts5 {w : World} {b : Nat} {t : TypeId} {r0 r1 r2 r3 r4 : AR} (h : w.heap[b]? = some (.cells (five r0 r1 r2 r3 r4) t (0, 0))) (o0 : r0.ok w) (o1 : r1.ok w) (o2 : r2.ok w) (o3 : r3.ok w) (o4 : r4.ok w) : Acts w (some ⟨b, 0, none⟩) 5 5 := by
  have mk : ∀ (r : AR) (off : Nat), r.ok w → w.cell? ⟨b, off, none⟩ = some (.int .u8 r.k) → w.cell? ⟨b, off + 1, none⟩ = some (.int .i64 r.n) → w.cell? ⟨b, off + 2, none⟩ = some (.int .i64 r.m) → w.cell? ⟨b, off + 3, none⟩ = some (.int .u64 r.X) → w.cell? ⟨b, off + 4, none⟩ = some (.slice r.ba r.bn r.bc) → ActAt w b off :=
    fun r off o c0 c1 c2 c3 c4 => ⟨r.k, r.n, r.m, r.X, r.ba, r.bn, r.bc, r.bl, c0, c1, c2, c3, c4, o.1, o.2.1, o.2.2.1, o.2.2.2.1, o.2.2.2.2.1, o.2.2.2.2.2⟩
  refine ⟨Nat.le_refl _, by omega, .inr ⟨b, 0, rfl, fun i hi => ?_⟩⟩
  match i, hi with
  | 0, _ => exact mk r0 0 o0 (by simp [World.cell?, h, five]) (by simp [World.cell?, h, five]) (by simp [World.cell?, h, five]) (by simp [World.cell?, h, five]) (by simp [World.cell?, h, five])
  | 1, _ => exact mk r1 5 o1 (by simp [World.cell?, h, five]) (by simp [World.cell?, h, five]) (by simp [World.cell?, h, five]) (by simp [World.cell?, h, five]) (by simp [World.cell?, h, five])
  | 2, _ => exact mk r2 10 o2 (by simp [World.cell?, h, five]) (by simp [World.cell?, h, five]) (by simp [World.cell?, h, five]) (by simp [World.cell?, h, five]) (by simp [World.cell?, h, five])
  | 3, _ => exact mk r3 15 o3 (by simp [World.cell?, h, five]) (by simp [World.cell?, h, five]) (by simp [World.cell?, h, five]) (by simp [World.cell?, h, five]) (by simp [World.cell?, h, five])
  | 4, _ => exact mk r4 20 o4 (by simp [World.cell?, h, five]) (by simp [World.cell?, h, five]) (by simp [World.cell?, h, five]) (by simp [World.cell?, h, five]) (by simp [World.cell?, h, five])
theorem acts_nil (w : World) : Acts w none 0 0 := ⟨Nat.le_refl _, by omega, .inl ⟨rfl, rfl⟩⟩
theorem AR.num {w : World} {k n m X : Int} (hk : (Lit.int .u8 k).wf = true) (hn : (Lit.int .i64 n).wf = true) (hm : (Lit.int .i64 m).wf = true) (hX : (Lit.int .u64 X).wf = true) : AR.ok w ⟨k, n, m, X, none, 0, 0, []⟩ := ⟨hk, hn, hm, hX, Sl.nil _ _, Fits.nil _⟩

/-- What stays in the region that lays the calls. -/
def RSt5 (w : World) (b : Nat) (v0 v1 v2 v3 v4 : Value) (w' : World) : Prop := Below w.heap.size w w' ∧ w'.cell? ⟨b, 0, none⟩ = some v0 ∧ w'.cell? ⟨b, 1, none⟩ = some v1 ∧ w'.cell? ⟨b, 2, none⟩ = some v2 ∧ w'.cell? ⟨b, 3, none⟩ = some v3 ∧ w'.cell? ⟨b, 4, none⟩ = some v4
theorem RSt5.step {w w1 w2 : World} {b : Nat} {v0 v1 v2 v3 v4 : Value} (h : RSt5 w b v0 v1 v2 v3 v4 w1) (hb : Below w1.heap.size w1 w2) : RSt5 w b v0 v1 v2 v3 v4 w2 :=
  ⟨h.1.trans (hb.mono h.1.size), (hb.cell (World.block_lt_of_cell? w1 _ h.2.1)).trans h.2.1, (hb.cell (World.block_lt_of_cell? w1 _ h.2.2.1)).trans h.2.2.1, (hb.cell (World.block_lt_of_cell? w1 _ h.2.2.2.1)).trans h.2.2.2.1, (hb.cell (World.block_lt_of_cell? w1 _ h.2.2.2.2.1)).trans h.2.2.2.2.1, (hb.cell (World.block_lt_of_cell? w1 _ h.2.2.2.2.2)).trans h.2.2.2.2.2⟩
theorem RSt5.drew {w w1 : World} {b : Nat} {v0 v1 v2 v3 v4 : Value} (h : RSt5 w b v0 v1 v2 v3 v4 w1) : RSt5 w b v0 v1 v2 v3 v4 w1.drew := h.step (Below.refl _ _).drew
theorem RSt5.alloc {w w1 : World} {b : Nat} {v0 v1 v2 v3 v4 : Value} (h : RSt5 w b v0 v1 v2 v3 v4 w1) (o : Obj) : RSt5 w b v0 v1 v2 v3 v4 (w1.alloc o) := h.step ((Below.refl _ _).alloc (Nat.le_refl _) _)

def smN : List Int := [-9223372036854775808, -1, 0, 1, 2, 7, 8, 9, 9223372036854775807]
def smB : List Int := [0, 1, 128, 1, 255, 3, 127, 128, 128, 0]
def smM : List Int := [0, 1, 3, 9223372036854775807]
def smX : List Int := [0, 1, 127, 128, 255, 256, 72057594037927936, 72057594037927935, 18446744073709551615]
theorem at_mem {l : List Int} {j : Nat} (h : j < l.length) : l[j]?.getD 0 ∈ l := by rw [List.getElem?_eq_getElem h]; exact List.getElem_mem h
theorem smN_wf : ∀ n ∈ smN, (Lit.int .i64 n).wf = true := by unfold smN; decide
theorem smM_wf : ∀ n ∈ smM, (Lit.int .i64 n).wf = true := by unfold smM; decide
theorem smX_wf : ∀ n ∈ smX, (Lit.int .u64 n).wf = true := by unfold smX; decide
theorem smB_fits : Fits .u8 smB := by unfold Fits smB; decide

set_option maxRecDepth 100000 in
set_option maxHeartbeats 4000000 in
theorem small_walk (w : World) : Calls Try.prog 5 #[] w fun e w' => e = .returned (.bool true) ∧ Below w.heap.size w w' := by
  obtain ⟨W, hWe⟩ : ∃ W, W = ((w.alloc (.cells (smN.map (Value.int .i64)).toArray 3)).alloc (.cells (smB.map (Value.int .u8)).toArray 5)) := ⟨_, rfl⟩
  have hBW : Below w.heap.size w W := by rw [hWe]; exact ((Below.refl _ _).alloc (Nat.le_refl _) _).alloc (by simp) _
  have hbN : Blk .i64 3 W w.heap.size smN := by rw [hWe]; exact (Blk.new .i64 3 w smN).alloc _
  have hbB : Blk .u8 5 W (w.heap.size + 1) smB := by
    rw [hWe]
    have h := Blk.new .u8 5 (w.alloc (.cells (smN.map (Value.int .i64)).toArray 3)) smB
    rwa [World.size_alloc] at h
  have HWe := Lib.hid hWe
  clear hWe
  go_enter Try.func5, Try.ntmps5
  go_wp2_with fail
  change Code.wp _ _ _ _ ((w.alloc (.cells (smN.map (Value.int .i64)).toArray 3)).alloc (.cells (smB.map (Value.int .u8)).toArray 5))
  rw [← HWe.out]
  go_loopw [21] (fun i wr => ∃ f : Nat, i = .int .i64 f ∧ f ≤ 11 ∧ Below W.heap.size W wr) (fun i _ => 11 - (intOf i).toNat)
  case atStart => exact ⟨0, rfl, by omega, Below.refl _ _⟩
  case round =>
    obtain ⟨f, rfl, hf, hB1⟩ := hrel
    obtain ⟨wo1, rfl⟩ : ∃ wo : World, wo = wr := ⟨_, rfl⟩
    by_cases hf10 : f = 10
    · subst hf10
      rw [show ((10 : Nat) : Int) = 10 from rfl]
      go_wp2_with fail
      go_loopw [4] (fun i wr => ∃ t : Nat, i = .int .i64 t ∧ 10 ≤ t ∧ t ≤ 11 ∧ Below W.heap.size W wr) (fun i _ => 11 - (intOf i).toNat)
      case atStart => exact ⟨10, rfl, by omega, by omega, hB1⟩
      case round =>
        obtain ⟨t, rfl, ht0, ht1, hB2⟩ := hrel
        obtain ⟨wo2, rfl⟩ : ∃ wo : World, wo = wr := ⟨_, rfl⟩
        by_cases ht2 : t ≤ 10
        · obtain rfl : t = 10 := by omega
          rw [show ((10 : Nat) : Int) = 10 from rfl]
          go_wp2_with fail
          go_loopw [31] (fun i wr => ∃ k : Int, i = .int .u8 k ∧ 0 ≤ k ∧ k ≤ 5 ∧ Below W.heap.size W wr) (fun i _ => (5 - intOf i).toNat)
          case atStart => exact ⟨0, rfl, by omega, by omega, hB2⟩
          case round =>
            obtain ⟨k, rfl, hk0, hk1, hB3⟩ := hrel
            obtain ⟨wo3, rfl⟩ : ∃ wo : World, wo = wr := ⟨_, rfl⟩
            by_cases hk2 : k < 5
            · go_wp2_with fail
              go_loopw [36] (fun i wr => ∃ c : Nat, i = .int .i64 c ∧ c ≤ 9 ∧ Below W.heap.size W wr) (fun i _ => 9 - (intOf i).toNat)
              case atStart => exact ⟨0, rfl, by omega, hB3⟩
              case round =>
                obtain ⟨c, rfl, hc, hB4⟩ := hrel
                obtain ⟨wo4, rfl⟩ : ∃ wo : World, wo = wr := ⟨_, rfl⟩
                by_cases hc2 : c < 9
                · have hcI : (c : Int) < 9 := by omega
                  have hn := (hbN.below hB4).at c hc2
                  have hnw := smN_wf _ (at_mem (l := smN) (j := c) hc2)
                  obtain ⟨n, hnd⟩ : ∃ n, n = smN[c]?.getD 0 := ⟨_, rfl⟩
                  rw [← hnd] at hn hnw
                  clear hnd
                  have hbM := Blk.new .i64 3 wo4 smM
                  have hBa : Below wo4.heap.size wo4 (wo4.alloc (.cells (smM.map (Value.int .i64)).toArray 3)) := (Below.refl _ _).alloc (Nat.le_refl _) _
                  have hB4' := step_below hB4 hBa (Nat.le_refl _)
                  obtain ⟨wM, hwM⟩ : ∃ wM, wM = wo4.alloc (.cells (smM.map (Value.int .i64)).toArray 3) := ⟨_, rfl⟩
                  rw [← hwM] at hbM hB4'
                  have HWM := Lib.hid hwM
                  clear hBa hwM
                  go_wp2_with fail
                  change Code.wp _ _ _ _ (wo4.alloc (.cells (smM.map (Value.int .i64)).toArray 3))
                  rw [← HWM.out]
                  go_loopw [42] (fun i wr => ∃ d : Nat, i = .int .i64 d ∧ d ≤ 4 ∧ Below wM.heap.size wM wr) (fun i _ => 4 - (intOf i).toNat)
                  case atStart => exact ⟨0, rfl, by omega, Below.refl _ _⟩
                  case round =>
                    obtain ⟨d, rfl, hd, hB5⟩ := hrel
                    obtain ⟨wo5, rfl⟩ : ∃ wo : World, wo = wr := ⟨_, rfl⟩
                    have hB5' : Below W.heap.size W wo5 := step_below hB4' hB5 (Nat.le_refl _)
                    by_cases hd2 : d < 4
                    · have hdI : (d : Int) < 4 := by omega
                      have hm := (hbM.below hB5).at d hd2
                      have hmw := smM_wf _ (at_mem (l := smM) (j := d) hd2)
                      obtain ⟨m, hmd⟩ : ∃ m, m = smM[d]?.getD 0 := ⟨_, rfl⟩
                      rw [← hmd] at hm hmw
                      clear hmd
                      go_wp2_with fail
                      obtain ⟨w6, hw6⟩ : ∃ w6, w6 = wo5.alloc (.cells #[.int .u8 k, .int .i64 n, .int .i64 m, .int .u64 (IntKind.u64.wrap n), .slice none 0 0] 30) := ⟨_, rfl⟩
                      rw [← hw6]
                      have hBo : Below wo5.heap.size wo5 w6 := by rw [hw6]; exact (Below.refl _ _).alloc (Nat.le_refl _) _
                      have hF6 : Five w6 wo5.heap.size 30 (.int .u8 k) (.int .i64 n) (.int .i64 m) (.int .u64 (IntKind.u64.wrap n)) (.slice none 0 0) := by rw [hw6]; exact Five.new _ _ _ _ _ _ _
                      have hB6 := step_below hB5' hBo (Nat.le_refl _)
                      have hM6 := step_below hB5 hBo (Nat.le_refl _)
                      have hS0 : RSt5 w6 wo5.heap.size (.int .u8 k) (.int .i64 n) (.int .i64 m) (.int .u64 (IntKind.u64.wrap n)) (.slice none 0 0) w6 := ⟨Below.refl _ _, hF6.c0, hF6.c1, hF6.c2, hF6.c3, hF6.c4⟩
                      have n0 := hF6.c0
                      have n1 := hF6.c1
                      have n2 := hF6.c2
                      have n3 := hF6.c3
                      have n4 := hF6.c4
                      have hwk : (Lit.int .u8 k).wf = true := by
                        have hc : k = 0 ∨ k = 1 ∨ k = 2 ∨ k = 3 ∨ k = 4 := by omega
                        rcases hc with rfl | rfl | rfl | rfl | rfl <;> decide
                      have hAc : ∀ W' : World, Acts (W'.alloc (.cells (five ⟨k, n, m, IntKind.u64.wrap n, none, 0, 0, []⟩ ⟨0, 0, 0, 0, none, 0, 0, []⟩ ⟨k, n, m, IntKind.u64.wrap n, none, 0, 0, []⟩ ⟨3, 0, 0, 1000, none, 0, 0, []⟩ ⟨k, n, m, IntKind.u64.wrap n, none, 0, 0, []⟩) 30)) (some ⟨W'.heap.size, 0, none⟩) 5 5 := fun W' =>
                        acts5 (heap_alloc_new W' _) (AR.num hwk hnw hmw (wf_wrap _ _)) (AR.num (by decide) (by decide) (by decide) (by decide)) (AR.num hwk hnw hmw (wf_wrap _ _)) (AR.num (by decide) (by decide) (by decide) (by decide)) (AR.num hwk hnw hmw (wf_wrap _ _))
                      have hbs := (hbB.below hB6).sl (by decide)
                      have hsl6 : Sl .u8 w6 (some ⟨w.heap.size + 1, 0, none⟩) 0 0 [] := ⟨rfl, Nat.le_refl _, by omega, .inl ⟨rfl, rfl⟩⟩
                      have HSL := Lib.hid hsl6
                      have HAC := Lib.hid hAc
                      clear hw6 hBo hF6 hbs hsl6 hAc hwk hnw hmw hn hm
                      go_region_held3 (fun w' => Below w6.heap.size w6 w' ∧ w'.cell? ⟨wo5.heap.size, 0, none⟩ = some (.int .u8 k) ∧ w'.cell? ⟨wo5.heap.size, 1, none⟩ = some (.int .i64 n) ∧ w'.cell? ⟨wo5.heap.size, 2, none⟩ = some (.int .i64 m) ∧ w'.cell? ⟨wo5.heap.size, 3, none⟩ = some (.int .u64 (IntKind.u64.wrap n)) ∧ w'.cell? ⟨wo5.heap.size, 4, none⟩ = some (.slice none 0 0)) (solve | (repeat (first | assumption | refine RSt5.drew ?_ | refine RSt5.alloc ?_ _ | refine RSt5.step ?_ (by assumption)))) (first
                        | (go_at_call 11; refine (reads_any _ _ _ _ _ 5 5 _ (HSL.out.below (((Below.refl _ _).drew).alloc (Nat.le_refl _) _)) (fits_bytes (Fits.nil _)) (HAC.out _)).mono ?_; rintro e w7 ⟨rfl, hB7⟩))
                      go_wp2_with fail
                      go_roundw
                      case rel =>
                        refine ⟨d + 1, by go_num, by omega, step_below ?_ hB7 (Nat.le_refl _)⟩
                        exact step_below hM6 (((Below.refl _ _).drew).alloc (Nat.le_refl _) _) (Nat.le_refl _)
                      case measure => simp [intOf]; omega
                    · have hdI : ¬ (d : Int) < 4 := by omega
                      go_wp2_with fail
                      go_roundw
                      case rel => exact ⟨c + 1, by go_num, by omega, hB5'⟩
                      case measure => simp [intOf]; omega
                · have hcI : ¬ (c : Int) < 9 := by omega
                  go_wp2_with fail
                  go_roundw
                  case rel => exact ⟨k + 1, by go_num, by omega, by omega, hB4⟩
                  case measure => simp [intOf]; omega
            · have hk3 : ¬ k < 5 := hk2
              go_wp2_with fail
              go_roundw
              case rel => exact ⟨11, by go_num, by omega, by omega, hB3⟩
              case measure => simp [intOf]
        · have ht2I : ¬ (t : Int) ≤ 10 := by omega
          go_wp2_with fail
          go_roundw
          case rel => exact ⟨11, by go_num, by omega, hB2⟩
          case measure => simp [intOf]
    by_cases hf1 : f < 11
    · have hf1I : (f : Int) < 11 := by omega
      have hf9 : f ≤ 9 := by omega
      go_wp2_with fail
      go_loopw [4] (fun i wr => ∃ t : Nat, i = .int .i64 t ∧ f ≤ t ∧ t ≤ 11 ∧ Below W.heap.size W wr) (fun i _ => 11 - (intOf i).toNat)
      case atStart => exact ⟨f, rfl, by omega, by omega, hB1⟩
      case round =>
        obtain ⟨t, rfl, ht0, ht1, hB2⟩ := hrel
        obtain ⟨wo2, rfl⟩ : ∃ wo : World, wo = wr := ⟨_, rfl⟩
        by_cases ht2 : t ≤ 10
        · have ht2I : (t : Int) ≤ 10 := by omega
          go_wp2_with fail
          go_loopw [31] (fun i wr => ∃ k : Int, i = .int .u8 k ∧ 0 ≤ k ∧ k ≤ 5 ∧ Below W.heap.size W wr) (fun i _ => (5 - intOf i).toNat)
          case atStart => exact ⟨0, rfl, by omega, by omega, hB2⟩
          case round =>
            obtain ⟨k, rfl, hk0, hk1, hB3⟩ := hrel
            obtain ⟨wo3, rfl⟩ : ∃ wo : World, wo = wr := ⟨_, rfl⟩
            by_cases hk2 : k < 5
            · go_wp2_with fail
              go_loopw [36] (fun i wr => ∃ c : Nat, i = .int .i64 c ∧ c ≤ 9 ∧ Below W.heap.size W wr) (fun i _ => 9 - (intOf i).toNat)
              case atStart => exact ⟨0, rfl, by omega, hB3⟩
              case round =>
                obtain ⟨c, rfl, hc, hB4⟩ := hrel
                obtain ⟨wo4, rfl⟩ : ∃ wo : World, wo = wr := ⟨_, rfl⟩
                by_cases hc2 : c < 9
                · have hcI : (c : Int) < 9 := by omega
                  have hn := (hbN.below hB4).at c hc2
                  have hnw := smN_wf _ (at_mem (l := smN) (j := c) hc2)
                  obtain ⟨n, hnd⟩ : ∃ n, n = smN[c]?.getD 0 := ⟨_, rfl⟩
                  rw [← hnd] at hn hnw
                  clear hnd
                  have hbM := Blk.new .i64 3 wo4 smM
                  have hBa : Below wo4.heap.size wo4 (wo4.alloc (.cells (smM.map (Value.int .i64)).toArray 3)) := (Below.refl _ _).alloc (Nat.le_refl _) _
                  have hB4' := step_below hB4 hBa (Nat.le_refl _)
                  obtain ⟨wM, hwM⟩ : ∃ wM, wM = wo4.alloc (.cells (smM.map (Value.int .i64)).toArray 3) := ⟨_, rfl⟩
                  rw [← hwM] at hbM hB4'
                  have HWM := Lib.hid hwM
                  clear hBa hwM
                  go_wp2_with fail
                  change Code.wp _ _ _ _ (wo4.alloc (.cells (smM.map (Value.int .i64)).toArray 3))
                  rw [← HWM.out]
                  go_loopw [42] (fun i wr => ∃ d : Nat, i = .int .i64 d ∧ d ≤ 4 ∧ Below wM.heap.size wM wr) (fun i _ => 4 - (intOf i).toNat)
                  case atStart => exact ⟨0, rfl, by omega, Below.refl _ _⟩
                  case round =>
                    obtain ⟨d, rfl, hd, hB5⟩ := hrel
                    obtain ⟨wo5, rfl⟩ : ∃ wo : World, wo = wr := ⟨_, rfl⟩
                    have hB5' : Below W.heap.size W wo5 := step_below hB4' hB5 (Nat.le_refl _)
                    by_cases hd2 : d < 4
                    · have hdI : (d : Int) < 4 := by omega
                      have hm := (hbM.below hB5).at d hd2
                      have hmw := smM_wf _ (at_mem (l := smM) (j := d) hd2)
                      obtain ⟨m, hmd⟩ : ∃ m, m = smM[d]?.getD 0 := ⟨_, rfl⟩
                      rw [← hmd] at hm hmw
                      clear hmd
                      go_wp2_with fail
                      have hf10' : ¬ 10 = f := fun e => hf10 e.symm
                      obtain ⟨w6, hw6⟩ : ∃ w6, w6 = wo5.alloc (.cells #[.int .u8 k, .int .i64 n, .int .i64 m, .int .u64 (IntKind.u64.wrap n), .slice none 0 0] 30) := ⟨_, rfl⟩
                      rw [← hw6]
                      have hBo : Below wo5.heap.size wo5 w6 := by rw [hw6]; exact (Below.refl _ _).alloc (Nat.le_refl _) _
                      have hF6 : Five w6 wo5.heap.size 30 (.int .u8 k) (.int .i64 n) (.int .i64 m) (.int .u64 (IntKind.u64.wrap n)) (.slice none 0 0) := by rw [hw6]; exact Five.new _ _ _ _ _ _ _
                      have hB6 := step_below hB5' hBo (Nat.le_refl _)
                      have hM6 := step_below hB5 hBo (Nat.le_refl _)
                      have hS0 : RSt5 w6 wo5.heap.size (.int .u8 k) (.int .i64 n) (.int .i64 m) (.int .u64 (IntKind.u64.wrap n)) (.slice none 0 0) w6 := ⟨Below.refl _ _, hF6.c0, hF6.c1, hF6.c2, hF6.c3, hF6.c4⟩
                      have n0 := hF6.c0
                      have n1 := hF6.c1
                      have n2 := hF6.c2
                      have n3 := hF6.c3
                      have n4 := hF6.c4
                      have hwk : (Lit.int .u8 k).wf = true := by
                        have hc : k = 0 ∨ k = 1 ∨ k = 2 ∨ k = 3 ∨ k = 4 := by omega
                        rcases hc with rfl | rfl | rfl | rfl | rfl <;> decide
                      have hAc : ∀ W' : World, Acts (W'.alloc (.cells (five ⟨k, n, m, IntKind.u64.wrap n, none, 0, 0, []⟩ ⟨0, 0, 0, 0, none, 0, 0, []⟩ ⟨k, n, m, IntKind.u64.wrap n, none, 0, 0, []⟩ ⟨3, 0, 0, 1000, none, 0, 0, []⟩ ⟨k, n, m, IntKind.u64.wrap n, none, 0, 0, []⟩) 30)) (some ⟨W'.heap.size, 0, none⟩) 5 5 := fun W' =>
                        acts5 (heap_alloc_new W' _) (AR.num hwk hnw hmw (wf_wrap _ _)) (AR.num (by decide) (by decide) (by decide) (by decide)) (AR.num hwk hnw hmw (wf_wrap _ _)) (AR.num (by decide) (by decide) (by decide) (by decide)) (AR.num hwk hnw hmw (wf_wrap _ _))
                      have hbs := (hbB.below hB6).sl (by decide)
                      have hsl6a := (hbs.tailm (ix := f) (show f ≤ 10 by omega)).upto (t - f) (show t - f ≤ 10 - f by omega)
                      have hsl6 : Sl .u8 w6 (some ⟨w.heap.size + 1, f, none⟩) (t - f) (10 - f) ((smB.drop f).take (t - f)) := by
                        have e : (⟨w.heap.size + 1, 0, none⟩ : Addr).add f = ⟨w.heap.size + 1, f, none⟩ := by unfold Addr.add; split <;> simp_all
                        rw [← e]; exact hsl6a
                      clear hsl6a
                      have hslf : Fits .u8 ((smB.drop f).take (t - f)) := fun x hx => smB_fits x (List.mem_of_mem_drop (List.mem_of_mem_take hx))
                      have HSL := Lib.hid hsl6
                      have HAC := Lib.hid hAc
                      clear hw6 hBo hF6 hbs hsl6 hAc hwk hnw hmw hn hm
                      go_region_held3 (fun w' => Below w6.heap.size w6 w' ∧ w'.cell? ⟨wo5.heap.size, 0, none⟩ = some (.int .u8 k) ∧ w'.cell? ⟨wo5.heap.size, 1, none⟩ = some (.int .i64 n) ∧ w'.cell? ⟨wo5.heap.size, 2, none⟩ = some (.int .i64 m) ∧ w'.cell? ⟨wo5.heap.size, 3, none⟩ = some (.int .u64 (IntKind.u64.wrap n)) ∧ w'.cell? ⟨wo5.heap.size, 4, none⟩ = some (.slice none 0 0)) (solve | (repeat (first | assumption | refine RSt5.drew ?_ | refine RSt5.alloc ?_ _ | refine RSt5.step ?_ (by assumption)))) (first
                        | (go_at_call 11; refine (reads_any _ _ _ _ _ 5 5 _ (HSL.out.below (((Below.refl _ _).drew).alloc (Nat.le_refl _) _)) (fits_bytes hslf) (HAC.out _)).mono ?_; rintro e w7 ⟨rfl, hB7⟩))
                      go_wp2_with fail
                      go_roundw
                      case rel =>
                        refine ⟨d + 1, by go_num, by omega, step_below ?_ hB7 (Nat.le_refl _)⟩
                        exact step_below hM6 (((Below.refl _ _).drew).alloc (Nat.le_refl _) _) (Nat.le_refl _)
                      case measure => simp [intOf]; omega
                    · have hdI : ¬ (d : Int) < 4 := by omega
                      go_wp2_with fail
                      go_roundw
                      case rel => exact ⟨c + 1, by go_num, by omega, hB5'⟩
                      case measure => simp [intOf]; omega
                · have hcI : ¬ (c : Int) < 9 := by omega
                  go_wp2_with fail
                  go_roundw
                  case rel => exact ⟨k + 1, by go_num, by omega, by omega, hB4⟩
                  case measure => simp [intOf]; omega
            · have hk3 : ¬ k < 5 := hk2
              go_wp2_with fail
              go_roundw
              case rel => exact ⟨t + 1, by go_num, by omega, by omega, hB3⟩
              case measure => simp [intOf]; omega
        · have ht2I : ¬ (t : Int) ≤ 10 := by omega
          go_wp2_with fail
          go_roundw
          case rel => exact ⟨f + 1, by go_num, by omega, hB2⟩
          case measure => simp [intOf]; omega
    · have hf1I : ¬ (f : Int) < 11 := by omega
      go_wp2_with fail
      go_loopw [11] (fun i wr => ∃ q : Int, i = .int .i64 q ∧ -1 ≤ q ∧ q ≤ 12 ∧ Below W.heap.size W wr) (fun i _ => (12 - intOf i).toNat)
      case atStart => exact ⟨-1, rfl, by omega, by omega, hB1⟩
      case round =>
        obtain ⟨q, rfl, hq0, hq1, hB2⟩ := hrel
        obtain ⟨wo2, rfl⟩ : ∃ wo : World, wo = wr := ⟨_, rfl⟩
        by_cases hq2 : q < 12
        · go_wp2_with fail
          go_loopw [74] (fun i wr => ∃ c : Nat, i = .int .i64 c ∧ c ≤ 9 ∧ Below W.heap.size W wr) (fun i _ => 9 - (intOf i).toNat)
          case atStart => exact ⟨0, rfl, by omega, hB2⟩
          case round =>
            obtain ⟨c, rfl, hc, hB4⟩ := hrel
            obtain ⟨wo4, rfl⟩ : ∃ wo : World, wo = wr := ⟨_, rfl⟩
            by_cases hc2 : c < 9
            · have hcI : (c : Int) < 9 := by omega
              have hn := (hbN.below hB4).at c hc2
              have hnw := smN_wf _ (at_mem (l := smN) (j := c) hc2)
              obtain ⟨n, hnd⟩ : ∃ n, n = smN[c]?.getD 0 := ⟨_, rfl⟩
              rw [← hnd] at hn hnw
              clear hnd
              have hbM := Blk.new .u64 28 wo4 smX
              have hBa : Below wo4.heap.size wo4 (wo4.alloc (.cells (smX.map (Value.int .u64)).toArray 28)) := (Below.refl _ _).alloc (Nat.le_refl _) _
              have hB4' := step_below hB4 hBa (Nat.le_refl _)
              obtain ⟨wM, hwM⟩ : ∃ wM, wM = wo4.alloc (.cells (smX.map (Value.int .u64)).toArray 28) := ⟨_, rfl⟩
              rw [← hwM] at hbM hB4'
              have HWM := Lib.hid hwM
              clear hBa hwM
              go_wp2_with fail
              change Code.wp _ _ _ _ (wo4.alloc (.cells (smX.map (Value.int .u64)).toArray 28))
              rw [← HWM.out]
              go_loopw [80] (fun i wr => ∃ d : Nat, i = .int .i64 d ∧ d ≤ 9 ∧ Below wM.heap.size wM wr) (fun i _ => 9 - (intOf i).toNat)
              case atStart => exact ⟨0, rfl, by omega, Below.refl _ _⟩
              case round =>
                obtain ⟨d, rfl, hd, hB5⟩ := hrel
                obtain ⟨wo5, rfl⟩ : ∃ wo : World, wo = wr := ⟨_, rfl⟩
                have hB5' : Below W.heap.size W wo5 := step_below hB4' hB5 (Nat.le_refl _)
                by_cases hd2 : d < 9
                · have hdI : (d : Int) < 9 := by omega
                  have hm := (hbM.below hB5).at d hd2
                  have hmw := smX_wf _ (at_mem (l := smX) (j := d) hd2)
                  obtain ⟨x, hxd⟩ : ∃ x, x = smX[d]?.getD 0 := ⟨_, rfl⟩
                  rw [← hxd] at hm hmw
                  clear hxd
                  obtain ⟨hx0, hx1⟩ := bounds_u64 hmw
                  obtain ⟨x8, hx8⟩ : ∃ x8 : Nat, x % 8 = (x8 : Int) := ⟨(x % 8).toNat, by omega⟩
                  have hx8l : x8 ≤ 7 := by omega
                  have hx8I : (x8 : Int) ≤ 10 := by omega
                  have hBo : Below wo5.heap.size wo5 (wo5.alloc (.cells (five ⟨2, n, 0, x, none, 0, 0, []⟩ ⟨3, 0, 0, x, none, 0, 0, []⟩ ⟨0, 0, 0, x, none, 0, 0, []⟩ ⟨1, 0, 0, 0, some ⟨w.heap.size + 1, 0, none⟩, x8, 10, smB.take x8⟩ ⟨2, 1, 0, x, none, 0, 0, []⟩) 30)) := (Below.refl _ _).alloc (Nat.le_refl _) _
                  have hslx := ((hbB.below (step_below hB5' hBo (Nat.le_refl _))).sl (by decide)).upto x8 (show x8 ≤ 10 by omega)
                  have hAc : Acts (wo5.alloc (.cells (five ⟨2, n, 0, x, none, 0, 0, []⟩ ⟨3, 0, 0, x, none, 0, 0, []⟩ ⟨0, 0, 0, x, none, 0, 0, []⟩ ⟨1, 0, 0, 0, some ⟨w.heap.size + 1, 0, none⟩, x8, 10, smB.take x8⟩ ⟨2, 1, 0, x, none, 0, 0, []⟩) 30)) (some ⟨wo5.heap.size, 0, none⟩) 5 5 :=
                    acts5 (heap_alloc_new wo5 _) (AR.num (by decide) hnw (by decide) hmw) (AR.num (by decide) (by decide) (by decide) hmw) (AR.num (by decide) (by decide) (by decide) hmw) ⟨(by decide : (Lit.int .u8 1).wf = true), (by decide : (Lit.int .i64 0).wf = true), (by decide : (Lit.int .i64 0).wf = true), (by decide : (Lit.int .u64 0).wf = true), hslx, fun y hy => smB_fits y (List.mem_of_mem_take hy)⟩ (AR.num (by decide) (by decide) (by decide) hmw)
                  have HAC := Lib.hid (writes_any _ q _ 5 5 hAc)
                  have hM6 := step_below hB5 hBo (Nat.le_refl _)
                  clear hslx hAc hmw hnw hBo
                  go_wp2_with fail
                  refine HAC.out.mono ?_
                  rintro e w7 ⟨rfl, hB7⟩
                  have hM7 := step_below hM6 hB7 (Nat.le_refl _)
                  clear HAC hM6 hB7
                  go_wp2_with fail
                  go_roundw
                  case rel => exact ⟨d + 1, by go_num, by omega, hM7⟩
                  case measure => simp [intOf]; omega
                · have hdI : ¬ (d : Int) < 9 := by omega
                  go_wp2_with fail
                  go_roundw
                  case rel => exact ⟨c + 1, by go_num, by omega, hB5'⟩
                  case measure => simp [intOf]; omega
            · have hcI : ¬ (c : Int) < 9 := by omega
              go_wp2_with fail
              go_roundw
              case rel => exact ⟨q + 1, by go_num, by omega, by omega, hB4⟩
              case measure => simp [intOf]; omega
        · have hq3 : ¬ q < 12 := hq2
          have hBend := hBW.trans (hB2.mono hBW.size)
          clear hB2 hB1
          go_wp2_with fail
          refine (writes_any _ 16777216 none 0 0 (acts_nil _)).mono ?_
          rintro e w1 ⟨rfl, hA1⟩
          have hE1 := step_below hBend hA1 (Nat.le_refl _)
          go_wp2_with fail
          refine (writes_any _ 16777217 none 0 0 (acts_nil _)).mono ?_
          rintro e w2 ⟨rfl, hA2⟩
          have hE2 := step_below hE1 hA2 (Nat.le_refl _)
          go_wp2_with fail
          refine (writes_any _ (-9223372036854775808) none 0 0 (acts_nil _)).mono ?_
          rintro e w3 ⟨rfl, hA3⟩
          have hE3 := step_below hE2 hA3 (Nat.le_refl _)
          go_wp2_with fail
          refine (writes_any _ 9223372036854775807 none 0 0 (acts_nil _)).mono ?_
          rintro e w4 ⟨rfl, hA4⟩
          have hE4 := step_below hE3 hA4 (Nat.le_refl _)
          go_wp2_with fail
          refine (nobody_any w4).mono ?_
          rintro e w5 ⟨rfl, hA5⟩
          have hE5 := step_below hE4 hA5 (Nat.le_refl _)
          go_wp2_with fail
          refine (awake_any w5).mono ?_
          rintro e w6 ⟨rfl, hA6⟩
          have hE6 := step_below hE5 hA6 (Nat.le_refl _)
          go_wp2_with fail
          go_ret
          exact ⟨rfl, hE6⟩
end Go.Proofs.Ytakpockkagfphaa
