/-
  The contract of the second reference's Put.
-/
import Derived.Test.YtakpockkagfphaaApq
namespace Go.Proofs.Ytakpockkagfphaa
open Go.RowKit Go.Shelf

set_option maxRecDepth 100000 in
set_option maxHeartbeats 1000000 in
theorem rput_full (w : World) (a1 a2 : Option Addr) (n1 c1 n2 c2 : Nat) (lim : Int) (h : lim < (n1 : Int) + n2) (hb1 : n1 ≤ 140737488355000) (hb2 : n2 ≤ 140737488355000) :
    Calls Try.prog 40 #[.agg #[.int .i64 lim, .slice a1 n1 c1], .slice a2 n2 c2] w fun e w' => e = .returned (.tuple #[.agg #[.int .i64 lim, .slice a1 n1 c1], .int .i64 4]) ∧ Below w.heap.size w w' := by
  have hb : decide (lim < (n1 : Int) + n2) = true := by simp; omega
  go_enter Try.func40, Try.ntmps40
  go_wp2_with fail
  refine bodyPost_cell2 rfl (w.heap.size + 1) rfl _ _ (Two.new2 _ _ _ _ _).range Try.underlying76 rfl (by kernel_rfl) rfl ?_
  exact ⟨rfl, ((Below.refl _ _).alloc (Nat.le_refl _) _).alloc (by simp) _⟩

/-- What holds in the last region: nothing that was there is changed but the result, and the two cells of the writer. -/
def HSt (W : World) (b : Nat) (lim : Int) (a1 : Option Addr) (n1 c1 : Nat) (w' : World) : Prop := Below (b + 1) W w' ∧ w'.cell? ⟨b, 0, none⟩ = some (.int .i64 lim) ∧ w'.cell? ⟨b, 1, none⟩ = some (.slice a1 n1 c1)
theorem HSt.of {W : World} {b : Nat} {t : TypeId} {lim : Int} {a1 : Option Addr} {n1 c1 : Nat} {w' : World} (hT : Two W b t (.int .i64 lim) (.slice a1 n1 c1)) (h : Below (b + 1) W w') : HSt W b lim a1 n1 c1 w' :=
  have h' := hT.below h (by omega)
  ⟨h, h'.c0, h'.c1⟩
theorem HSt.alloc {W : World} {b : Nat} {t : TypeId} {lim : Int} {a1 : Option Addr} {n1 c1 : Nat} {w' : World} (hT : Two W b t (.int .i64 lim) (.slice a1 n1 c1)) (hW : W.heap.size = b + 2) (h : HSt W b lim a1 n1 c1 w') (o : Obj) : HSt W b lim a1 n1 c1 (w'.alloc o) :=
  HSt.of hT (h.1.alloc (by have := h.1.size; omega) o)
theorem HSt.drew {W : World} {b : Nat} {lim : Int} {a1 : Option Addr} {n1 c1 : Nat} {w' : World} (h : HSt W b lim a1 n1 c1 w') : HSt W b lim a1 n1 c1 w'.drew :=
  ⟨h.1.drew, by simpa using h.2.1, by simpa using h.2.2⟩
theorem HSt.grown {W : World} {b : Nat} {t : TypeId} {lim : Int} {a1 : Option Addr} {n1 c1 : Nat} {w' w'' : World} {row : Option Nat} (hT : Two W b t (.int .i64 lim) (.slice a1 n1 c1)) (hW : W.heap.size = b + 2) (h : HSt W b lim a1 n1 c1 w') (hg : w'.grownBy w'' row) (hr : ∀ k, row = some k → b + 2 ≤ k) : HSt W b lim a1 n1 c1 w'' :=
  HSt.of hT (h.1.grown hg (by have := h.1.size; omega) (fun k hk => by have := hr k hk; omega))
theorem HSt.set {W : World} {b : Nat} {t : TypeId} {lim : Int} {a1 : Option Addr} {n1 c1 : Nat} {w' : World} (hT : Two W b t (.int .i64 lim) (.slice a1 n1 c1)) (h : HSt W b lim a1 n1 c1 w') (i : Nat) (v : Value) : HSt W b lim a1 n1 c1 (w'.setCell ⟨b + 1, i, none⟩ v) :=
  HSt.of hT (h.1.setCell (p := ⟨b + 1, i, none⟩) (by simp) v)

set_option maxRecDepth 100000 in
set_option maxHeartbeats 4000000 in
theorem rput_ok (w : World) (a1 a2 : Option Addr) (n1 c1 n2 c2 : Nat) (lim : Int) (l1 l2 : List Int) (hs1 : Sl .u8 w a1 n1 c1 l1) (hs2 : Sl .u8 w a2 n2 c2 l2) (h : ¬ lim < (n1 : Int) + n2) (hb1 : n1 ≤ 70368744177000) (hb2 : n2 ≤ 70368744177000) :
    Calls Try.prog 40 #[.agg #[.int .i64 lim, .slice a1 n1 c1], .slice a2 n2 c2] w fun e w' => ∃ a' c', e = .returned (.tuple #[.agg #[.int .i64 lim, .slice a' (n1 + n2 : Nat) c'], .int .i64 0]) ∧ w'.ownsRow w.heap.size 5 1 (.slice a' (n1 + n2) c') (n1 + n2) ((l1 ++ l2).map (Value.int .u8)) ∧ Below w.heap.size w w' := by
  have hb : decide (lim < (n1 : Int) + n2) = false := by simp; omega
  obtain ⟨i0, hinf, hz0, hz1, hz2⟩ := info_parts infoU8
  have hB0 : Below w.heap.size w ((w.alloc (.cells #[.int .i64 lim, .slice a1 n1 c1] 76)).alloc (.cells #[.int .i64 0, .slice none 0 0] 76)) := ((Below.refl _ _).alloc (Nat.le_refl _) _).alloc (by simp) _
  go_enter Try.func40, Try.ntmps40
  obtain ⟨W, hWe⟩ : ∃ W, W = ((w.alloc (.cells #[.int .i64 lim, .slice a1 n1 c1] 76)).alloc (.cells #[.int .i64 0, .slice none 0 0] 76)) := ⟨_, rfl⟩
  have hT1 : Two W w.heap.size 76 (.int .i64 lim) (.slice a1 n1 c1) := by rw [hWe]; exact (Two.new w _ _ _).alloc _
  have hT2 : Two W (w.heap.size + 1) 76 (.int .i64 0) (.slice none 0 0) := by rw [hWe]; exact Two.new2 w _ _ _ _
  have hWs : W.heap.size = w.heap.size + 2 := by rw [hWe]; simp
  rw [← hWe] at hB0
  have hs1' := hs1.below hB0
  have hs2' := hs2.below hB0
  have hs3 : HSt W w.heap.size lim a1 n1 c1 W := ⟨Below.refl _ _, hT1.c0, hT1.c1⟩
  have hl1 := hs1.1
  have hl2 := hs2.1
  go_wp2_with fail
  rw [← hWe]
  clear hWe
  go_region_held_law (fun w' => Below (w.heap.size + 1) W w' ∧ w'.cell? ⟨w.heap.size, 0, none⟩ = some (.int .i64 lim) ∧ w'.cell? ⟨w.heap.size, 1, none⟩ = some (.slice a1 n1 c1))
    (solve | (repeat (first | assumption | refine HSt.drew ?_ | refine HSt.alloc hT1 hWs ?_ _ | refine HSt.set hT1 ?_ _ _ | refine HSt.grown hT1 hWs ?_ (by assumption) (by assumption))))
    (first
      | (refine step_append_onsl _ rfl (.tmp 18) (.tmp 20) 22 rfl .u8 (w.heap.size + 2) 5 i0 1 Try.underlying22 hinf hz0 hz1 hz2 (.slice (some ⟨W.heap.size, 0, none⟩) 0 0) [] a1 n1 c1 l1 (by simp [Act.eval]) (by simp [Act.eval]) (own_empty W _ _ (by omega)) (hs1'.below (((Below.refl _ _).alloc (Nat.le_refl _) _).drew)) (by unfold maxLen; simp; omega) (by simp; omega) (by simp; omega) ?_
         intro v1 w1 hown1 hgrow1
         have hr1 : ∀ k, Value.ownBlock (.slice (some ⟨W.heap.size, 0, none⟩) 0 0) = some k → w.heap.size + 2 ≤ k := fun k hk => by simp [Value.ownBlock] at hk; omega
         have hB1 : Below W.heap.size W w1 := (((Below.refl W.heap.size W).alloc (Nat.le_refl _) _).drew).grown hgrow1 (by simp) (fun k hk => by simp [Value.ownBlock] at hk; omega))
      | (refine step_append_onsl _ rfl (.tmp 21) (.tmp 22) 22 rfl .u8 (w.heap.size + 2) 5 i0 1 Try.underlying22 hinf hz0 hz1 hz2 v1 ([] ++ l1) a2 n2 c2 l2 (by simp [Act.eval, Act.put]) (by simp [Act.eval, Act.put]) hown1 (hs2'.below hB1) (by unfold maxLen; simp; omega) (by simp; omega) (by have := hB1.size; simp; omega) ?_
         intro v2 w2 hown2 hgrow2
         obtain ⟨a', c', rfl⟩ := own_shape hown2
         have hr2 : ∀ k, v1.ownBlock = some k → w.heap.size + 2 ≤ k := fun k hk => (hown1.lt k hk).1
         have hB2 : Below (w.heap.size + 2) W w2 := (hB1.mono (by omega)).grown hgrow2 (by have := hB1.size; omega) hr2
         have hU2 := hT2.below hB2 (by omega)
         have e2 := hU2.c0
         have e3 := hU2.c1
         have e4 := hU2.f0
         have e5 := hU2.f1))
  go_wp2_with fail
  refine bodyPost_cell2 rfl (w.heap.size + 1) rfl _ _ (hU2.range_set _ _) Try.underlying76 rfl (by kernel_rfl) rfl ?_
  have hln : (([] ++ l1) ++ l2).length = n1 + n2 := by simp; omega
  have hsl := own_base (base := w.heap.size) (own_set (own_set hown2 (w.heap.size + 1) 0 (.int .i64 lim) (by omega)) (w.heap.size + 1) 1 (.slice a' (n1 + n2) c') (by omega)) (by omega)
  rw [hln] at hsl
  simp only [List.nil_append] at hsl
  exact ⟨a', c', rfl, hsl, ((hB0.trans (hB2.mono (by omega))).setCell (p := ⟨w.heap.size + 1, 0, none⟩) (by simp) _).setCell (p := ⟨w.heap.size + 1, 1, none⟩) (by simp) _⟩
end Go.Proofs.Ytakpockkagfphaa
