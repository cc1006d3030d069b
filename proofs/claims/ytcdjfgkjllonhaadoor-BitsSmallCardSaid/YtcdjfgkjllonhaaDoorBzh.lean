/-
  The contract of bits' Runs: it returns the runs of a set, in new memory.
-/
import Derived.Test.YtcdjfgkjllonhaaDoorBzg
import Derived.Test.YtcdjfgkjllonhaaDoorBku
namespace Go.Proofs.YtcdjfgkjllonhaaDoor
open Go.RowKit Go.Shelf

attribute [local go_sem] Oper.semAt_some

/-- The runs of the members that have come. -/
def rnf (pre : List (Fin 65536)) : List (Nat × Nat) := (pre.map Fin.val).foldl addm []
theorem rnf_snoc (pre : List (Fin 65536)) (x : Fin 65536) : rnf (pre ++ [x]) = addm (rnf pre) x.val := by simp [rnf]
theorem addm_len (R : List (Nat × Nat)) (m : Nat) : (addm R m).length ≤ R.length + 1 := by
  unfold addm
  cases h : R.getLast? with
  | none => simp
  | some p =>
    obtain ⟨a, b⟩ := p
    simp only
    split <;> simp <;> omega
theorem foldl_addm_len (l : List Nat) (R : List (Nat × Nat)) : (l.foldl addm R).length ≤ R.length + l.length := by
  induction l generalizing R with
  | nil => simp
  | cons x l ih =>
    have h1 := ih (addm R x)
    have h2 := addm_len R x
    simp only [List.foldl_cons, List.length_cons]; omega
theorem rnf_len (pre : List (Fin 65536)) : (rnf pre).length ≤ pre.length := by
  have := foldl_addm_len (pre.map Fin.val) []
  simpa [rnf] using this
theorem addm_other {R : List (Nat × Nat)} {a b m : Nat} (h : b ≠ m) : addm (R ++ [(a, b)]) m = R ++ [(a, b)] ++ [(m, m + 1)] := by
  unfold addm
  simp [h]
theorem last_or {α : Type} (R : List α) : R = [] ∨ ∃ R' p, R = R' ++ [p] := by
  rcases List.eq_nil_or_concat R with h | ⟨R', p, h⟩
  · exact .inl h
  · exact .inr ⟨R', p, by rw [h]; simp⟩
theorem pcs_set (R : List (Nat × Nat)) (a b c : Nat) : (pcs (R ++ [(a, b)])).set (R.length * 2 + 1) (.int .i64 (c : Int)) = pcs (R ++ [(a, c)]) := by
  rw [pcs_snoc, pcs_snoc, List.set_append, if_neg (by rw [pcs_len]; omega), pcs_len, show R.length * 2 + 1 - R.length * 2 = 1 by omega]
  rfl

set_option maxRecDepth 100000 in
set_option maxHeartbeats 4000000 in
theorem runs_in (w : World) (N : Int) (a : Option Addr) (n c : Nat) (l : List Int) (h : SetIn w N a n c l) :
    CallsIn Fence.wide 3 Tryd.prog 22 #[.agg #[.int .i64 N, .slice a n c]] w (GivesR w (runs (ef N l))) := by
  obtain ⟨i0, hi, hz0, hz1, hz2⟩ := info_parts infoP
  have hEl := efw_len N l
  have hlen : (all (ef N l)).length ≤ 65536 := by
    have := rk_max hEl (64 * (ef N l).length)
    rw [rk_big (Nat.le_refl _)] at this; exact this
  have hst := fun Bn W hb c0 c1 => members_stops 2 (by omega) Bn w N a n c l h W hb c0 c1
  have hfin : ∀ ys : List (Fin 65536), memsOf (ef N l) ys → rnf ys = runs (ef N l) := fun ys hy => by unfold rnf; rw [hy]; exact runs_fold _
  obtain ⟨E, hE⟩ : ∃ E, E = ef N l := ⟨_, rfl⟩
  rw [← hE] at hlen hfin ⊢
  simp only [← hE] at hst
  clear hE h hEl
  refine callsIn_of_wp_marks Tryd.func22 rfl trivial ?_ rfl
  simp only [Tryd.ntmps22, List.size_toArray, List.length_cons, List.length_nil, Nat.reduceAdd, Nat.reduceSub, Array.replicate_succ, Array.replicate_zero, List.push_toArray, List.append_toArray, List.nil_append, List.cons_append]
  gi_wp2_with fail
  refine ⟨trivial, (members_in 2 N a n c _).mono ?_⟩
  rintro e w' ⟨rfl, hE9⟩
  rw [hE9]
  clear hE9
  gi_wp2_with fail
  have hA1 : Below w.heap.size w (w.alloc (.cells #[.int .i64 N, .slice a n c] 24)) := (Below.refl _ w).alloc (Nat.le_refl _) _
  have bL := Boxed.new (w.alloc (.cells #[.int .i64 N, .slice a n c] 24)) 42 (.slice none 0 0)
  rw [World.size_alloc] at bL
  have hA2 := hA1.alloc hA1.size (.cells #[.slice none 0 0] 42)
  obtain ⟨w2, hw2⟩ : ∃ wz, wz = (w.alloc (.cells #[.int .i64 N, .slice a n c] 24)).alloc (.cells #[.slice none 0 0] 42) := ⟨_, rfl⟩
  have hz2w : w2.heap.size = w.heap.size + 1 + 1 := by rw [hw2]; simp only [World.size_alloc]
  rw [← hw2] at bL hA2 ⊢
  have hT3 := Two.new w2 24 (.int .i64 N) (.slice a n c)
  have hA3 := hA2.alloc hA2.size (.cells #[.int .i64 N, .slice a n c] 24)
  have bL3 := bL.alloc (.cells #[.int .i64 N, .slice a n c] 24)
  obtain ⟨w3, hw3⟩ : ∃ wz, wz = w2.alloc (.cells #[.int .i64 N, .slice a n c] 24) := ⟨_, rfl⟩
  have hz3w : w3.heap.size = w.heap.size + 1 + 1 + 1 := by rw [hw3, World.size_alloc, hz2w]
  rw [← hw3] at hT3 hA3 bL3 ⊢
  clear hw2 hw3 hA1 hA2 bL
  have hst := hst w2.heap.size w3 hA3 hT3.c0 hT3.c1
  rw [hz2w] at hst
  clear hT3 hz2w
  refine wpIn_rangeFunc_ownG (F := Fence.wide) (n := 3) rfl (by omega) (gf := 76) (lb := #[.pointer (some ⟨w.heap.size + 1 + 1, 0, none⟩)]) rfl trivial (enters_of Tryd.func76 (by kernel_rfl) rfl)
    hst belowK_t (belowK_b (by omega)) (Below.refl _ _) (fun _ => rfl)
    (fun pre W => (∃ v, Boxed W (w.heap.size + 1) 42 v ∧ W.ownsRow w.heap.size 50 2 v (rnf pre).length (pcs (rnf pre)) ∧ True) ∧ Below w.heap.size w W)
    (fun _ _ _ => False)
    (OwnFrom.and (Own.from (holdsRow_own w.heap.size (w.heap.size + 1) 42 50 2 (fun pre : List (Fin 65536) => (rnf pre).length) (fun pre => pcs (rnf pre)) (fun _ _ => True)) _) (ownFrom_below (w₀ := w) (Nat.le_refl _) (by omega)))
    (fun _ _ _ _ _ hs _ _ => hs)
    ⟨⟨_, bL3, World.ownsRow_nil _ _ _ _, trivial⟩, hA3⟩
    (fun x => { tmps := #[.agg #[.int .i64 N, .slice a n c], .pointer (some ⟨w.heap.size, 0, none⟩), .slice none 0 0, .pointer (some ⟨w.heap.size + 1, 0, none⟩), .int .i64 (x.val : Int), undef, .agg #[.int .i64 N, .slice a n c], .func (.func 76) #[] #[.pointer (some ⟨w.heap.size + 1 + 1, 0, none⟩)], .int .i64 (x.val : Int), undef, undef, undef, undef, undef, undef, undef, undef, undef, undef, undef, undef, undef, undef, undef, undef, undef, undef, undef, undef, undef, undef, undef, undef, undef, undef, undef, undef, undef, undef, undef], defers := [] }) ?assign ?body ?done ?stop
  case assign =>
    intro l x W K hK
    gi_wp2
    exact hK
  case body =>
    rintro l pre x W ⟨⟨v, hv, hrow, _⟩, hB⟩ hlt
    have hc := hv.cell
    have hfz := hv.frozen
    have hrl := rnf_len pre
    have hsn := rnf_snoc pre x
    have hsz := hB.size
    have hx := x.isLt
    obtain ⟨X, hX⟩ : ∃ X : Nat, X = x.val := ⟨_, rfl⟩
    rw [← hX] at hsn hx
    simp only [← hX]
    obtain ⟨ga, gc, rfl⟩ := own_shape hrow
    have hn0 : rnf pre = [] ∨ ∃ R' p, rnf pre = R' ++ [p] := last_or _
    rcases hn0 with hnil | ⟨R, ⟨s, e⟩, hR⟩
    · rw [hnil] at hrow hsn hc hv
      simp only [List.length_nil] at hrow hc hv
      have hsn2 : rnf (pre ++ [x]) = [(X, X + 1)] := hsn
      have HSN := Lib.hid hsn2
      clear hsn hsn2 hX hnil hrl
      gi_wp2_with (gi_at_builtin; refine wpListIn_append_own _ rfl _ _ 42 rfl w.heap.size 50 i0 (.agg #[.int .i64 0, .int .i64 0]) 2 16 Tryd.underlying42 hi hz0 hz1 hz2 rfl (by decide) _ _ _ rfl (hrow.alloc _) ⟨W.heap.size, 0, none⟩ 1 1 [.int .i64 (X : Int), .int .i64 ((X : Int) + 1)] rfl rfl (two_cells _ _ _ _) (two_one _ _) (by unfold maxLen; omega) (by omega) (by simp; omega) ?_; intro v' w1 hown' hgrow _; obtain ⟨g', cap', rfl⟩ := ownsRow_succ hown'; obtain ⟨hv1, hv2, hr2, hk2, hb2⟩ := hv.appended (by decide) hrow hsz (Nat.le_succ _) hown' hgrow; have hc1 := hv1.cell; have hf1 := hv1.frozen)
      refine ⟨hk2.from _, hb2, ⟨_, hv2, ?_, trivial⟩, hB.trans hb2⟩
      rw [HSN.out]
      simpa [pcs] using hr2
    · rw [hR] at hrow hsn hc hv hrl
      simp only [List.length_append, List.length_singleton] at hrow hc hv hrl
      obtain ⟨g, gc2, hgg⟩ := ownsRow_succ hrow
      cases hgg
      obtain ⟨g2, hg2, hrg⟩ := own_pair hrow (i := R.length) (by omega)
      cases hg2
      have hpe : (R ++ [(s, e)])[R.length]?.getD (0, 0) = (s, e) := by simp
      rw [hpe] at hrg
      have hce := hrg 1 _ rfl
      obtain ⟨j, hj⟩ : ∃ j, j = R.length := ⟨_, rfl⟩
      obtain ⟨K, hK⟩ : ∃ K, K = R.length + 1 := ⟨_, rfl⟩
      rw [← hj] at hce
      rw [← hK] at hrow hc hv hrl
      have e1 : (K : Int) - 1 = (j : Int) := by omega
      have i1 : (j : Int) < (K : Int) := by omega
      have i0' : (0 : Int) ≤ (j : Int) := by omega
      have hKp : decide ((0 : Int) < (K : Int)) = true := by simp; omega
      have HK := Lib.hid hK
      have HJ := Lib.hid hj
      clear hK hpe hrg hR hX
      by_cases hex : e = X
      · have hb : ((e : Int) == (X : Int)) = true := by simp; omega
        rw [hex, addm_more] at hsn
        have hfz2 : W.frozen? ⟨g, j * 2 + 1, none⟩ = false := World.ownsRow.frozenAt hrow _
        have hst2 := World.ownsRow.stored hrow (j * 2 + 1) (.int .i64 ((X + 1 : Nat) : Int))
        rw [hj, hex, pcs_set, ← hj] at hst2
        have ec : ((X + 1 : Nat) : Int) = (X : Int) + 1 := by push_cast; rfl
        rw [ec] at hst2
        have hgB : w.heap.size + 1 ≠ g := fun he => hv.not_row (by decide) hrow (by simp [Value.ownBlock, he])
        have hvx := hv.kept hst2.2 (by simpa using hgB)
        have hgw : w.heap.size ≤ g := (World.ownsRow.lt hrow g rfl).1
        have hbx : Below w.heap.size W (W.setCell ⟨g, j * 2 + 1, none⟩ (.int .i64 ((X : Int) + 1))) := (Below.refl _ W).setCell (p := ⟨g, j * 2 + 1, none⟩) hgw _
        have eL : (rnf (pre ++ [x])).length = K := by rw [hsn, HK.out]; simp
        have eP : pcs (rnf (pre ++ [x])) = pcs (R ++ [(s, X + 1)]) := by rw [hsn]
        have hrx := hst2.1
        rw [← eP] at hrx
        have HF := Lib.hid (And.intro eL (And.intro hvx (And.intro hrx hbx)))
        have HHB := Lib.hid hB
        clear hsn hst2 hj hvx hrx hbx eL eP ec hgB
        subst hex
        have hjb : j ≤ 65536 := by have := HJ.out; have := HK.out; omega
        have ew1 : IntKind.i64.wrap ((K : Int) - 1) = (j : Int) := by rw [IntKind.wrap_i64]; omega
        have ew2 : IntKind.i64.wrap (j : Int) = (j : Int) := by rw [IntKind.wrap_i64]; omega
        have ew3 : IntKind.i64.wrap ((e : Int) + 1) = (e : Int) + 1 := by rw [IntKind.wrap_i64]; omega
        have htn : ((j : Int)).toNat = j := Int.toNat_natCast j
        gi_wp2_with fail
        gi_region
        all_goals gi_wp2_with fail
        all_goals
          refine ⟨((KeepsOthers.setCell W ⟨g, j * 2 + 1, none⟩ _).trans (KeepsOthers.drew _)).from _, HF.out.2.2.2.drew, ⟨_, HF.out.2.1, ?_⟩, HHB.out.trans HF.out.2.2.2.drew⟩
          rw [HF.out.1]
          exact ⟨HF.out.2.2.1, trivial⟩
      · have hb : ((e : Int) == (X : Int)) = false := by simp; omega
        rw [addm_other hex] at hsn
        have HSN := Lib.hid hsn
        clear hsn hj
        gi_wp2_with (gi_at_builtin; refine wpListIn_append_own _ rfl _ _ 42 rfl w.heap.size 50 i0 (.agg #[.int .i64 0, .int .i64 0]) 2 16 Tryd.underlying42 hi hz0 hz1 hz2 rfl (by decide) _ _ _ rfl (hrow.alloc _) ⟨W.heap.size, 0, none⟩ 1 1 [.int .i64 (X : Int), .int .i64 ((X : Int) + 1)] rfl rfl (two_cells _ _ _ _) (two_one _ _) (by unfold maxLen; omega) (by omega) (by simp; omega) ?_; intro v' w1 hown' hgrow _; obtain ⟨g', cap', rfl⟩ := ownsRow_succ hown'; obtain ⟨hv1, hv2, hr2, hk2, hb2⟩ := hv.appended (by decide) hrow hsz (Nat.le_succ _) hown' hgrow; have hc1 := hv1.cell; have hf1 := hv1.frozen)
        have eL : (rnf (pre ++ [x])).length = K + 1 := by rw [HSN.out, List.length_append, List.length_append, HK.out]; rfl
        have eP : pcs (rnf (pre ++ [x])) = pcs (R ++ [(s, e)]) ++ [.int .i64 (X : Int), .int .i64 ((X : Int) + 1)] := by rw [HSN.out, pcs_snoc]; rfl
        exact ⟨hk2.from _, hb2, ⟨_, hv2, by rw [eL, eP]; exact hr2⟩, hB.trans hb2⟩
  case done =>
    rintro D ys W hD hS ⟨⟨v, hv, hrow, _⟩, hB⟩ hK
    have hc := hv.cell
    rw [hfin ys hS] at hrow
    obtain ⟨g5, c5, rfl⟩ := own_shape hrow
    gi_wp2
    refine ⟨by simp, .inl ⟨_, _, rfl, run_takeDeferred hK, ?_⟩⟩
    exact ⟨_, results_tmp rfl _ _ _, g5, c5, rfl, ownsRow_putObj hrow _ hK rfl, hB.trans (belowK_b (w := w) (Nat.le_refl _) W D _ _ (by omega) hK rfl rfl)⟩
  case stop =>
    rintro D c pre W _ _ h _
    exact h.elim

theorem runs_any (w : World) (N : Int) (a : Option Addr) (n c : Nat) (l : List Int) (h : SetIn w N a n c l) :
    Calls Tryd.prog 22 #[.agg #[.int .i64 N, .slice a n c]] w (GivesR w (runs (ef N l))) :=
  (callsIn_wide (n := 3)).1 (runs_in w N a n c l h)
end Go.Proofs.YtcdjfgkjllonhaaDoor
