/-
  The contracts of poly's term and Text; for every number of 64 bits.
-/
import Derived.Test.YtjajojdlgpmpfaaDoorPdb
import Derived.Test.YtjajojdlgpmpfaaDoorTxt
import Derived.Deep.RegionLaw
namespace Go.Proofs.YtjajojdlgpmpfaaDoor
open Go.RowKit Go.Shelf

attribute [local go_sem] Oper.semAt_some

set_option maxHeartbeats 400000 in
theorem term_any (i : Nat) (w : World) (hi : i < 64) :
    Calls Tryd.prog 39 #[.int .i64 (i : Int)] w fun e w' => (∃ s : ByteArray, s = ⟨(termT i).toArray⟩ ∧ e = .returned (.string s)) ∧ w = w' := by
  by_cases h0 : i = 0
  · subst h0
    go_enter Tryd.func39, Tryd.ntmps39
    go_wp2_with fail
    go_ret
    exact ⟨⟨_, rfl, rfl⟩, rfl⟩
  · by_cases h1 : i = 1
    · subst h1
      go_enter Tryd.func39, Tryd.ntmps39
      go_wp2_with fail
      go_ret
      exact ⟨⟨_, rfl, rfl⟩, rfl⟩
    · have hb0 : ((i : Int) == 0) = false := by simp; omega
      have hb1 : ((i : Int) == 1) = false := by simp; omega
      have ht := termT_big (by omega : 2 ≤ i)
      have HT := Lib.hid ht
      have hl : (Lib.decDigits i).length ≤ 2 := by
        have h : ∀ j : Fin 64, (Lib.decDigits j.val).length ≤ 2 := by decide +kernel
        exact h ⟨i, hi⟩
      clear ht
      go_enter Tryd.func39, Tryd.ntmps39
      go_wp2_with fail
      refine (Tryd.strconv_Itoa_small i (by omega) _).mono ?_
      rintro e w' ⟨rfl, rfl⟩
      go_wp2_with fail
      go_ret
      exact ⟨⟨_, by rw [HT.out]; rfl, rfl⟩, rfl⟩

/-- append, as one step of a region that draws, inside a fence. -/
theorem step_append_in {F : Fence} {n : Nat} {P : Program} {ops : Array Oper} {o : Oper} {a : Act} {w : World} {K : Act → World → Prop} {Q : Exit → Act → World → Prop} {E : Prop}
    (hg : o.guard = none) (s x : Operand) (t : TypeId) (hop : o.op = Op.call { callee := Callee.builtin Builtin.append, args := #[s, x], argTypes := #[t, t] })
    (base : Nat) (e : TypeId) (i : TypeInfo) (z : Value) (size bytes : Nat) (h1 : P.underlying t = some (.slice e)) (h2 : P.info? e = some i) (h3 : i.zero = some z) (h4 : i.size = size) (h5 : i.bytes = bytes) (h6 : z.cells.size = size) (h7 : 0 < size)
    (v : Value) (k : Nat) (xs : List Value) (hs : a.eval s = v) (hown : w.ownsRow base e size v k xs) (ad : Addr) (m c : Nat) (news : List Value) (hx : a.eval x = .slice (some ad) m c) (hn : news.length = m * size)
    (hc : ∀ j u, news[j]? = some u → w.cell? (ad.add j) = some u) (h1c : ∀ u ∈ news, u.oneCell' = true) (b1 : k + m ≤ maxLen) (b2 : (k + m) * bytes ≤ 140737488355328) (b3 : base ≤ w.heap.size)
    (hK : ∀ v' w', w'.ownsRow base e size v' (k + m) (xs ++ news) → w.grownBy w' v.ownBlock → K (a.put o.dst v') w') :
    if Region.wanted o (yielded ops a.tmps) = true then Oper.wpIn F n P o a w K Q else E := by
  have hw : Region.wanted o (yielded ops a.tmps) = true := by simp [Region.wanted, hg]
  rw [if_pos hw]
  obtain ⟨v', w', hrun, r1, r2, _⟩ := run_append_own (P := P) w base t o.type e i z size bytes h1 h2 h3 h4 h5 h6 h7 v k xs hown ad m c news hn hc h1c b1 b2 b3
  unfold Oper.wpIn
  refine ⟨?_, ?_⟩
  · simp [Oper.about, hop, resolve, Target.leads, Sem.run_pure]
  · rw [Oper.semAt_plain F _ _ (by rw [hop]; intro c hc'; cases hc')]
    simp [execOp, hop, resolve, invoke, builtin, hs, hx, hrun, Result.andThen]
    exact hK _ _ r1 r2

theorem own_shape' {w : World} {base : Nat} {e : TypeId} {s : Nat} {v : Value} {n : Nat} {xs : List Value} (h : w.ownsRow base e s v n xs) : ∃ a cap, v = .slice a n cap := by
  rcases h.2 with ⟨rfl, rfl⟩ | ⟨g, cap, cur, rfl, _⟩
  · exact ⟨none, 0, rfl⟩
  · exact ⟨_, cap, rfl⟩
/-- The texts of terms, as values. -/
def strsV (l : List Nat) : List Value := l.map fun i => Value.string ⟨(termT i).toArray⟩
theorem infoStr : (Tryd.prog.info? 9).map (fun i => (i.zero, i.size, i.bytes)) = some (some (.string ⟨#[]⟩), 1, 16) := by kernel_rfl

/-- The strings of the row, cell by cell. -/
theorem strs_row {W : World} {base : Nat} {v : Value} {ys : List (Fin 64)} {p : Nat} (h : W.ownsRow base 9 1 v ys.length (strsV (ys.map Fin.val))) (hy : termsOf p ys) (hp : p ≠ 0) :
    ∃ g cap, g < W.heap.size ∧ ((tdeg p).map fun i => (⟨(termT i).toArray⟩ : ByteArray)).length ≤ cap ∧ (∀ (j : Nat) x, ((tdeg p).map fun i => (⟨(termT i).toArray⟩ : ByteArray))[j]? = some x → W.cell? ⟨g, 0 + j, none⟩ = some (.string x)) ∧ v = .slice (some ⟨g, 0, none⟩) ((tdeg p).map fun i => (⟨(termT i).toArray⟩ : ByteArray)).length cap := by
  have hl : ys.length = (tdeg p).length := by have := congrArg List.length hy; simpa using this
  have hpos : 0 < (tdeg p).length := by rw [tdeg_cons hp]; simp
  rcases h.2 with ⟨_, h0⟩ | ⟨g, cap, cur, rfl, hb, hg, hle, hm, hcs, ht⟩
  · omega
  · refine ⟨g, cap, (Array.getElem?_eq_some_iff.1 hg).1, by simp; omega, ?_, by simp [hl]⟩
    intro j x hx
    rw [show ys.map Fin.val = tdeg p from hy] at ht
    have e : (strsV (tdeg p))[j]? = some (.string x) := by
      unfold strsV
      rw [List.getElem?_map] at hx ⊢
      cases hq : (tdeg p)[j]? with
      | none => rw [hq] at hx; simp at hx
      | some i => rw [hq] at hx; simp at hx; simp [hx]
    rw [← ht, List.getElem?_take] at e
    split at e
    · simp only [World.cell?, hg]
      simpa using e
    · simp at e

set_option maxRecDepth 100000 in
set_option maxHeartbeats 2000000 in
theorem text_in (p : Nat) (w : World) (hp : p < 18446744073709551616) (hp0 : p ≠ 0) :
    CallsIn Fence.wide 3 Tryd.prog 18 #[.int .u64 (p : Int)] w fun e w' => (∃ s : ByteArray, s = ⟨(textT p).toArray⟩ ∧ e = .returned (.string s)) ∧ Below w.heap.size w w' := by
  have hz : ((p : Int) == 0) = false := by simpa using hp0
  obtain ⟨i0, hi, hz0, hz1, hz2⟩ := info_parts infoStr
  refine callsIn_of_wp_marks Tryd.func18 rfl trivial ?_ rfl
  simp only [Tryd.ntmps18, List.size_toArray, List.length_cons, List.length_nil, Nat.reduceAdd, Nat.reduceSub, Array.replicate_succ, Array.replicate_zero, List.push_toArray, List.append_toArray, List.nil_append, List.cons_append]
  gi_wp2_with fail
  refine ⟨trivial, (terms_in 2 _ _).mono ?_⟩
  rintro e w' ⟨rfl, rfl⟩
  gi_wp2_with fail
  have bL := Boxed.new w 35 (.slice none 0 0)
  have bN := Boxed.new (w.alloc (.cells #[.slice none 0 0] 35)) 22 (.int .u64 (p : Int))
  rw [World.size_alloc] at bN
  have hB0 : Below w.heap.size w ((w.alloc (.cells #[.slice none 0 0] 35)).alloc (.cells #[.int .u64 (p : Int)] 22)) := ((Below.refl _ w).alloc (Nat.le_refl _) _).alloc (by simp) _
  refine wpIn_rangeFunc_ownG (F := Fence.wide) (n := 3) rfl (by omega) (gf := 58) (lb := #[.pointer (some ⟨w.heap.size + 1, 0, none⟩)]) rfl trivial (enters_of Tryd.func58 (by kernel_rfl) rfl)
    (terms_stops 2 (by omega) (w.heap.size + 1) p hp _ (by simp) bN.cell) (fun _ _ => trivial) (fun _ _ _ _ _ _ _ _ => trivial) (Below.refl _ _) (fun _ => rfl)
    (fun pre W => ((∃ v, Boxed W w.heap.size 35 v ∧ W.ownsRow w.heap.size 9 1 v pre.length (strsV (pre.map Fin.val)) ∧ True) ∧ pre.length ≤ 64) ∧ Below w.heap.size w W)
    (fun _ _ _ => False)
    (OwnFrom.and (OwnFrom.and (Own.from (holdsRow_own w.heap.size w.heap.size 35 9 1 (fun pre : List (Fin 64) => pre.length) (fun pre => strsV (pre.map Fin.val)) (fun _ _ => True)) _) (ownFrom_pure _ (fun pre : List (Fin 64) => pre.length ≤ 64))) (ownFrom_below (w₀ := w) (Nat.le_refl _) (by simp; omega)))
    (fun _ _ _ _ _ hs _ _ => hs)
    ⟨⟨⟨_, bL.alloc _, World.ownsRow_nil _ _ _ _, trivial⟩, by simp⟩, hB0⟩
    (fun c => { tmps := #[.int .u64 (p : Int), undef, .string ⟨#[]⟩, .pointer (some ⟨w.heap.size, 0, none⟩), .int .i64 (c.val : Int), .int .u64 (p : Int), .bool false, .int .u64 (p : Int), .func (.func 58) #[] #[.pointer (some ⟨w.heap.size + 1, 0, none⟩)], .int .i64 (c.val : Int), undef, undef, undef, undef, undef, undef, undef], defers := [] }) ?assign ?body ?done ?stop
  case assign =>
    intro l c W K hK
    gi_wp2
    exact hK
  case body =>
    rintro l pre c W ⟨⟨⟨v, hv, hrow, _⟩, _⟩, hB⟩ hlt
    have hc := hv.cell
    have hsz := hB.size
    obtain ⟨ga, gc, rfl⟩ := own_shape' hrow
    have hcA : ∀ o, (W.alloc o).cell? ⟨w.heap.size, 0, none⟩ = some (.slice ga pre.length gc) := fun o => (hv.alloc o).cell
    have hvD : Boxed W.drew w.heap.size 35 (.slice ga pre.length gc) := hv
    have hrD : W.drew.ownsRow w.heap.size 9 1 (.slice ga pre.length gc) pre.length (strsV (pre.map Fin.val)) := hrow
    have hd0 : Below w.heap.size W W.drew := (Below.refl _ W).drew
    have hpl : pre.length < 64 := by have := tdeg_len p; have := bl_64 hp; omega
    have HS := Lib.hid (show strsV ((pre ++ [c]).map Fin.val) = strsV (pre.map Fin.val) ++ [Value.string ⟨(termT c.val).toArray⟩] by simp [strsV])
    gi_wp2
    refine wpIn_region_any (by kernel_rfl) ?_
    change wpAnyIn _ _ _ _ _ _ _ _ _ (World.drew _)
    refine wpAnyIn_ready (rs := [0, 1]) (by kernel_rfl) (by simp) ?_
    refine AllReadyIn.cons rfl (fun K hK => ?_) (AllReadyIn.cons rfl (fun K hK => ?_) AllReadyIn.nil)
    · go_simp
      refine hK _ _ ?_; clear hK K
      refine wpAnyIn_ready (rs := [1]) (by kernel_rfl) (by simp) ?_
      refine AllReadyIn.cons rfl (fun K hK => ?_) AllReadyIn.nil
      go_simp
      refine hK _ _ ?_; clear hK K
      refine wpAnyIn_ready (rs := [2]) (by kernel_rfl) (by simp) ?_
      refine AllReadyIn.cons rfl (fun K hK => ?_) AllReadyIn.nil
      go_simp
      refine ⟨trivial, (CallsIn.inRound l (callsIn_wide.2 (term_any c.val _ c.isLt))).mono ?_⟩
      rintro e w'' ⟨⟨_, rfl, rfl⟩, rfl⟩
      refine hK _ _ ?_; clear hK K
      refine wpAnyIn_ready (rs := [3]) (by kernel_rfl) (by simp) ?_
      refine AllReadyIn.cons rfl (fun K hK => ?_) AllReadyIn.nil
      go_simp
      refine hK _ _ ?_; clear hK K
      refine wpAnyIn_ready (rs := [4]) (by kernel_rfl) (by simp) ?_
      refine AllReadyIn.cons rfl (fun K hK => ?_) AllReadyIn.nil
      refine step_append_in rfl _ _ 35 rfl w.heap.size 9 i0 (.string ⟨#[]⟩) 1 16 Tryd.underlying35 hi hz0 hz1 hz2 rfl (by decide) _ _ _ rfl (show ((W.alloc (.cells #[.string ⟨(termT c.val).toArray⟩] 9)).drew).ownsRow w.heap.size 9 1 (.slice ga pre.length gc) pre.length (strsV (pre.map Fin.val)) from hrow.alloc _) ⟨W.heap.size, 0, none⟩ 1 1 [.string ⟨(termT c.val).toArray⟩] rfl rfl (cell_one_new W (.string ⟨(termT c.val).toArray⟩) 9) (by simp [Value.oneCell']) (by unfold maxLen; omega) (by omega) (by simp; omega) ?_
      intro v' w1 hown' hgrow
      obtain ⟨g', cap', rfl⟩ := ownsRow_succ hown'
      obtain ⟨hv1, hv2, hr2, hk2, hb2⟩ := hvD.appended (by decide) hrD (by simp; omega) (Nat.le_refl _) hown' (show (W.drew.alloc (.cells #[.string ⟨(termT c.val).toArray⟩] 9)).grownBy w1 _ from hgrow)
      have hc1 := hv1.cell
      have hf1 := hv1.frozen
      refine hK _ _ ?_; clear hK K
      refine wpAnyIn_ready (rs := [5]) (by kernel_rfl) (by simp) ?_
      refine AllReadyIn.cons rfl (fun K hK => ?_) AllReadyIn.nil
      go_simp
      refine hK _ _ ?_; clear hK K
      refine wpAnyIn_done (by kernel_rfl) ?_ _
      exact ⟨((KeepsOthers.drew W).trans hk2).from _, trivial, ⟨⟨_, hv2, by rw [HS.out]; simpa using hr2, trivial⟩, by simp; omega⟩, hB.trans (hd0.trans hb2)⟩
    · go_simp
      refine hK _ _ ?_; clear hK K
      refine wpAnyIn_ready (rs := [0, 2]) (by kernel_rfl) (by simp) ?_
      refine AllReadyIn.cons rfl (fun K hK => ?_) (AllReadyIn.cons rfl (fun K hK => ?_) AllReadyIn.nil)
      · go_simp
        refine hK _ _ ?_; clear hK K
        refine wpAnyIn_ready (rs := [2]) (by kernel_rfl) (by simp) ?_
        refine AllReadyIn.cons rfl (fun K hK => ?_) AllReadyIn.nil
        go_simp
        refine ⟨trivial, (CallsIn.inRound l (callsIn_wide.2 (term_any c.val _ c.isLt))).mono ?_⟩
        rintro e w'' ⟨⟨_, rfl, rfl⟩, rfl⟩
        refine hK _ _ ?_; clear hK K
        refine wpAnyIn_ready (rs := [3]) (by kernel_rfl) (by simp) ?_
        refine AllReadyIn.cons rfl (fun K hK => ?_) AllReadyIn.nil
        go_simp
        refine hK _ _ ?_; clear hK K
        refine wpAnyIn_ready (rs := [4]) (by kernel_rfl) (by simp) ?_
        refine AllReadyIn.cons rfl (fun K hK => ?_) AllReadyIn.nil
        refine step_append_in rfl _ _ 35 rfl w.heap.size 9 i0 (.string ⟨#[]⟩) 1 16 Tryd.underlying35 hi hz0 hz1 hz2 rfl (by decide) _ _ _ rfl (show ((W.alloc (.cells #[.string ⟨(termT c.val).toArray⟩] 9)).drew).ownsRow w.heap.size 9 1 (.slice ga pre.length gc) pre.length (strsV (pre.map Fin.val)) from hrow.alloc _) ⟨W.heap.size, 0, none⟩ 1 1 [.string ⟨(termT c.val).toArray⟩] rfl rfl (cell_one_new W (.string ⟨(termT c.val).toArray⟩) 9) (by simp [Value.oneCell']) (by unfold maxLen; omega) (by omega) (by simp; omega) ?_
        intro v' w1 hown' hgrow
        obtain ⟨g', cap', rfl⟩ := ownsRow_succ hown'
        obtain ⟨hv1, hv2, hr2, hk2, hb2⟩ := hvD.appended (by decide) hrD (by simp; omega) (Nat.le_refl _) hown' (show (W.drew.alloc (.cells #[.string ⟨(termT c.val).toArray⟩] 9)).grownBy w1 _ from hgrow)
        have hc1 := hv1.cell
        have hf1 := hv1.frozen
        refine hK _ _ ?_; clear hK K
        refine wpAnyIn_ready (rs := [5]) (by kernel_rfl) (by simp) ?_
        refine AllReadyIn.cons rfl (fun K hK => ?_) AllReadyIn.nil
        go_simp
        refine hK _ _ ?_; clear hK K
        refine wpAnyIn_done (by kernel_rfl) ?_ _
        exact ⟨((KeepsOthers.drew W).trans hk2).from _, trivial, ⟨⟨_, hv2, by rw [HS.out]; simpa using hr2, trivial⟩, by simp; omega⟩, hB.trans (hd0.trans hb2)⟩
      · go_simp
        refine ⟨trivial, (CallsIn.inRound l (callsIn_wide.2 (term_any c.val _ c.isLt))).mono ?_⟩
        rintro e w'' ⟨⟨_, rfl, rfl⟩, rfl⟩
        refine hK _ _ ?_; clear hK K
        refine wpAnyIn_ready (rs := [0, 3]) (by kernel_rfl) (by simp) ?_
        refine AllReadyIn.cons rfl (fun K hK => ?_) (AllReadyIn.cons rfl (fun K hK => ?_) AllReadyIn.nil)
        · go_simp
          refine hK _ _ ?_; clear hK K
          refine wpAnyIn_ready (rs := [3]) (by kernel_rfl) (by simp) ?_
          refine AllReadyIn.cons rfl (fun K hK => ?_) AllReadyIn.nil
          go_simp
          refine hK _ _ ?_; clear hK K
          refine wpAnyIn_ready (rs := [4]) (by kernel_rfl) (by simp) ?_
          refine AllReadyIn.cons rfl (fun K hK => ?_) AllReadyIn.nil
          refine step_append_in rfl _ _ 35 rfl w.heap.size 9 i0 (.string ⟨#[]⟩) 1 16 Tryd.underlying35 hi hz0 hz1 hz2 rfl (by decide) _ _ _ rfl (show ((W.alloc (.cells #[.string ⟨(termT c.val).toArray⟩] 9)).drew).ownsRow w.heap.size 9 1 (.slice ga pre.length gc) pre.length (strsV (pre.map Fin.val)) from hrow.alloc _) ⟨W.heap.size, 0, none⟩ 1 1 [.string ⟨(termT c.val).toArray⟩] rfl rfl (cell_one_new W (.string ⟨(termT c.val).toArray⟩) 9) (by simp [Value.oneCell']) (by unfold maxLen; omega) (by omega) (by simp; omega) ?_
          intro v' w1 hown' hgrow
          obtain ⟨g', cap', rfl⟩ := ownsRow_succ hown'
          obtain ⟨hv1, hv2, hr2, hk2, hb2⟩ := hvD.appended (by decide) hrD (by simp; omega) (Nat.le_refl _) hown' (show (W.drew.alloc (.cells #[.string ⟨(termT c.val).toArray⟩] 9)).grownBy w1 _ from hgrow)
          have hc1 := hv1.cell
          have hf1 := hv1.frozen
          refine hK _ _ ?_; clear hK K
          refine wpAnyIn_ready (rs := [5]) (by kernel_rfl) (by simp) ?_
          refine AllReadyIn.cons rfl (fun K hK => ?_) AllReadyIn.nil
          go_simp
          refine hK _ _ ?_; clear hK K
          refine wpAnyIn_done (by kernel_rfl) ?_ _
          exact ⟨((KeepsOthers.drew W).trans hk2).from _, trivial, ⟨⟨_, hv2, by rw [HS.out]; simpa using hr2, trivial⟩, by simp; omega⟩, hB.trans (hd0.trans hb2)⟩
        · go_simp
          refine hK _ _ ?_; clear hK K
          refine wpAnyIn_ready (rs := [0]) (by kernel_rfl) (by simp) ?_
          refine AllReadyIn.cons rfl (fun K hK => ?_) AllReadyIn.nil
          go_simp
          refine hK _ _ ?_; clear hK K
          refine wpAnyIn_ready (rs := [4]) (by kernel_rfl) (by simp) ?_
          refine AllReadyIn.cons rfl (fun K hK => ?_) AllReadyIn.nil
          refine step_append_in rfl _ _ 35 rfl w.heap.size 9 i0 (.string ⟨#[]⟩) 1 16 Tryd.underlying35 hi hz0 hz1 hz2 rfl (by decide) _ _ _ rfl (show ((W.alloc (.cells #[.string ⟨(termT c.val).toArray⟩] 9)).drew).ownsRow w.heap.size 9 1 (.slice ga pre.length gc) pre.length (strsV (pre.map Fin.val)) from hrow.alloc _) ⟨W.heap.size, 0, none⟩ 1 1 [.string ⟨(termT c.val).toArray⟩] rfl rfl (cell_one_new W (.string ⟨(termT c.val).toArray⟩) 9) (by simp [Value.oneCell']) (by unfold maxLen; omega) (by omega) (by simp; omega) ?_
          intro v' w1 hown' hgrow
          obtain ⟨g', cap', rfl⟩ := ownsRow_succ hown'
          obtain ⟨hv1, hv2, hr2, hk2, hb2⟩ := hvD.appended (by decide) hrD (by simp; omega) (Nat.le_refl _) hown' (show (W.drew.alloc (.cells #[.string ⟨(termT c.val).toArray⟩] 9)).grownBy w1 _ from hgrow)
          have hc1 := hv1.cell
          have hf1 := hv1.frozen
          refine hK _ _ ?_; clear hK K
          refine wpAnyIn_ready (rs := [5]) (by kernel_rfl) (by simp) ?_
          refine AllReadyIn.cons rfl (fun K hK => ?_) AllReadyIn.nil
          go_simp
          refine hK _ _ ?_; clear hK K
          refine wpAnyIn_done (by kernel_rfl) ?_ _
          exact ⟨((KeepsOthers.drew W).trans hk2).from _, trivial, ⟨⟨_, hv2, by rw [HS.out]; simpa using hr2, trivial⟩, by simp; omega⟩, hB.trans (hd0.trans hb2)⟩
  case done =>
    rintro D ys W hD hys ⟨⟨⟨v, hv, hrow, _⟩, hy64⟩, hB⟩ hK
    have hD' : w.heap.size ≤ D := by simp at hD; omega
    have hc := hv.cell
    have hsz := hB.size
    obtain ⟨g, gc, hgl, hcap, hcells, hve⟩ := strs_row hrow hys hp0
    subst hve
    have hdl : (tdeg p).length ≤ 64 := by have := tdeg_len p; have := bl_64 hp; omega
    have hmm : (((tdeg p).map fun i => (⟨(termT i).toArray⟩ : ByteArray)).map (·.data.toList)) = (tdeg p).map termT := by simp
    have htx : Lib.join ((tdeg p).map termT) [43] = textT p := by unfold textT; rw [if_neg hp0]
    have hlen := textT_len hp
    have hj := Tryd.strings_Join g 0 gc _ ⟨#[43]⟩ W hcells hgl (by simp; omega) hcap (by rw [hmm]; show (Lib.join ((tdeg p).map termT) [43]).length ≤ _; rw [htx]; omega)
    rw [hmm, List.length_map] at hj
    have hDW : D < W.heap.size := (Array.getElem?_eq_some_iff.1 hK).1
    have HX := Lib.hid htx
    clear hmm htx hcells hcap
    gi_wp2_with fail
    refine ⟨trivial, (callsIn_wide.2 hj).mono ?_⟩
    rintro e w1 ⟨rfl, hB1⟩
    have hK1 : w1.heap[D]? = some (Obj.deferred (some [])) := (hB1.block D hDW).trans hK
    gi_wp2
    refine ⟨by simp, .inl ⟨_, _, rfl, run_takeDeferred hK1, ?_⟩⟩
    refine ⟨_, results_tmp rfl _ _ _, ⟨_, ?_, rfl⟩, (hB.trans (hB1.mono hsz)).trans (belowK_b (w := w) (Nat.le_refl _) w1 D _ _ hD' hK1 rfl rfl)⟩
    rw [← HX.out]
  case stop =>
    rintro D c pre W _ _ h _
    exact h.elim

set_option maxHeartbeats 400000 in
theorem text_zero (w : World) :
    Calls Tryd.prog 18 #[.int .u64 0] w fun e w' => (∃ s : ByteArray, s = ⟨(textT 0).toArray⟩ ∧ e = .returned (.string s)) ∧ w = w' := by
  go_enter Tryd.func18, Tryd.ntmps18
  go_wp2_with fail
  go_ret
  exact ⟨⟨_, rfl, rfl⟩, rfl⟩
theorem text_any (p : Nat) (w : World) (hp : p < 18446744073709551616) :
    Calls Tryd.prog 18 #[.int .u64 (p : Int)] w fun e w' => (∃ s : ByteArray, s = ⟨(textT p).toArray⟩ ∧ e = .returned (.string s)) ∧ Below w.heap.size w w' := by
  by_cases h0 : p = 0
  · subst h0
    refine (text_zero w).mono ?_
    rintro e w' ⟨h, rfl⟩
    exact ⟨h, Below.refl _ _⟩
  · exact callsIn_wide.1 (text_in p w hp h0)
end Go.Proofs.YtjajojdlgpmpfaaDoor
