/-
  The contracts of varint's put and Write: put appends the form of a number to a row that is already owned; Write returns the form in new memory; for every number.
-/
import Derived.Test.YtakpockkagfphaaPut
namespace Go.Proofs.Ytakpockkagfphaa
open Go.RowKit Go.Shelf

attribute [local go_sem] Oper.semAt_some

set_option maxRecDepth 100000 in
set_option maxHeartbeats 2000000 in
theorem put_in (F : Fence) (n : Nat) (h3 : F.fn 50) (h4 : F.fn 64) (h5 : F.fn 68) (hro : F.round = none) (hn : 3 ≤ n) (base : Nat) (v : Value) (pre0 : List Int) (x : Int) (w : World) (h0 : 0 ≤ x) (h1x : x ≤ 18446744073709551615) (hb : base ≤ w.heap.size) (hlen : pre0.length ≤ 140737488355000)
    (hown : w.ownsRow base 5 1 v pre0.length (pre0.map (Value.int .u8))) :
    CallsIn F n Try.prog 50 #[v, .int .u64 x] w fun e W' => ∃ v', e = .returned v' ∧ W'.ownsRow base 5 1 v' (pre0 ++ vform x).length ((pre0 ++ vform x).map (Value.int .u8)) ∧ Below base w W' := by
  have h1 : 1 ≤ n := by omega
  obtain ⟨a, cap, rfl⟩ := own_shape hown
  obtain ⟨i0, hi, hz0, hz1, hz2⟩ := info_parts infoU8
  have h10 : (vform x).length ≤ 10 := vsize_10 h1x
  refine callsIn_of_wp_marks Try.func50 rfl h3 ?_ hro
  simp only [Try.ntmps50, List.size_toArray, List.length_cons, List.length_nil, Nat.reduceAdd, Nat.reduceSub, Array.replicate_succ, Array.replicate_zero, List.push_toArray, List.append_toArray, List.nil_append, List.cons_append]
  gi_wp2_with (gi_at_call 64; refine (groups_in F (n - 1) h4 hro _ _).mono ?_; rintro e w' ⟨rfl, rfl⟩)
  have bO := Boxed.new w 22 (.slice a pre0.length cap)
  have bN := Boxed.new (w.alloc (.cells #[.slice a pre0.length cap] 22)) 28 (.int .u64 x)
  rw [World.size_alloc] at bN
  have hB0 : Below base w ((w.alloc (.cells #[.slice a pre0.length cap] 22)).alloc (.cells #[.int .u64 x] 28)) := ((Below.refl _ w).alloc hb _).alloc (by simp; omega) _
  refine wpIn_rangeFunc_ownG hro h1 (gf := 68) (lb := #[.pointer (some ⟨w.heap.size + 1, 0, none⟩)]) rfl h5 (enters_of Try.func68 (by kernel_rfl) rfl)
    (groups_stops F (n - 1) h5 hro (by omega) (w.heap.size + 1) x h0 h1x _ (by simp) bN.cell) (fun _ _ => trivial) (fun _ _ _ _ _ _ _ _ => trivial) (Below.refl _ _) (fun _ => rfl)
    (fun pre W => (∃ v, Boxed W w.heap.size 22 v ∧ W.ownsRow base 5 1 v (pre0 ++ pre).length ((pre0 ++ pre).map (Value.int .u8)) ∧ True) ∧ Below base w W)
    (fun _ _ _ => False)
    (OwnFrom.and (Own.from (holdsRow_own base w.heap.size 22 5 1 (fun pre => (pre0 ++ pre).length) (fun pre => (pre0 ++ pre).map (Value.int .u8)) (fun _ _ => True)) _) (ownFrom_below (w₀ := w) hb (by simp; omega)))
    (fun _ _ _ _ _ hs _ _ => hs)
    ⟨⟨_, bO.alloc _, by simpa using (hown.alloc _).alloc _, trivial⟩, hB0⟩
    (fun c => { tmps := #[.slice a pre0.length cap, .int .u64 x, .pointer (some ⟨w.heap.size, 0, none⟩), undef, .slice none 0 0, .int .u8 c, .int .u64 x, .func (.func 68) #[] #[.pointer (some ⟨w.heap.size + 1, 0, none⟩)], .int .u8 c, undef, undef, undef, undef, undef], defers := [] }) ?assign ?body ?done ?stop
  case assign =>
    intro l c W K hK
    gi_wp2
    exact hK
  case body =>
    rintro l pre c W ⟨⟨v, hv, hrow, _⟩, hB⟩ hlt
    have hc := hv.cell
    have hsz := hB.size
    have hln : (pre0 ++ pre).length ≤ 140737488355010 := by simp; omega
    obtain ⟨m, hm⟩ : ∃ m, m = pre0 ++ pre := ⟨_, rfl⟩
    have hm2 : pre0 ++ (pre ++ [c]) = m ++ [c] := by rw [hm]; simp
    rw [← hm] at hrow hln
    have HM := Lib.hid hm2
    clear hm hm2
    gi_wp2_with (gi_at_builtin; refine wpListIn_append_own _ rfl _ _ 22 rfl base 5 i0 (.int .u8 0) 1 1 Try.underlying22 hi hz0 hz1 hz2 rfl (by decide) _ _ _ rfl (hrow.alloc _) ⟨W.heap.size, 0, none⟩ 1 1 [.int .u8 c] rfl rfl (cell_one_new _ _ _) (by simp [Value.oneCell']) (by unfold maxLen; omega) (by omega) (by simp; omega) ?_; intro v' w1 hown' hgrow _; obtain ⟨g', cap', rfl⟩ := ownsRow_succ hown'; obtain ⟨hv1, hv2, hr2, hk2, hb2⟩ := hv.appended (by decide) hrow (by omega) hb hown' hgrow; have hc1 := hv1.cell; have hf1 := hv1.frozen)
    exact ⟨hk2.from _, trivial, ⟨_, hv2, by rw [HM.out]; simpa using hr2, trivial⟩, hB.trans hb2⟩
  case done =>
    rintro D ys W hD rfl ⟨⟨v, hv, hrow, _⟩, hB⟩ hK
    have hc := hv.cell
    gi_wp2
    refine ⟨by simp, .inl ⟨_, _, rfl, run_takeDeferred hK, ?_⟩⟩
    exact ⟨_, results_tmp rfl _ _ _, v, rfl, ownsRow_putObj hrow _ hK rfl, hB.trans (belowK_b (w := w) hb W D _ _ (by simp at hD; omega) hK rfl rfl)⟩
  case stop =>
    rintro D c pre W _ _ h _
    exact h.elim

theorem put_any (base : Nat) (v : Value) (pre0 : List Int) (x : Int) (w : World) (h0 : 0 ≤ x) (h1x : x ≤ 18446744073709551615) (hb : base ≤ w.heap.size) (hlen : pre0.length ≤ 140737488355000)
    (hown : w.ownsRow base 5 1 v pre0.length (pre0.map (Value.int .u8))) :
    Calls Try.prog 50 #[v, .int .u64 x] w fun e W' => ∃ v', e = .returned v' ∧ W'.ownsRow base 5 1 v' (pre0 ++ vform x).length ((pre0 ++ vform x).map (Value.int .u8)) ∧ Below base w W' :=
  (callsIn_wide (n := 3)).1 (put_in Fence.wide 3 trivial trivial trivial rfl (by omega) base v pre0 x w h0 h1x hb hlen hown)

set_option maxHeartbeats 1000000 in
theorem write_any (x : Int) (w : World) (h0 : 0 ≤ x) (h1 : x ≤ 18446744073709551615) :
    Calls Try.prog 24 #[.int .u64 x] w (Made .u8 5 (vform x) w) := by
  obtain ⟨i0, hi, hz0, hz1, hz2⟩ := info_parts infoU8
  have h10 : vsize x ≤ 10 := vsize_10 h1
  have hpos := vsize_pos x
  go_enter Try.func24, Try.ntmps24
  go_wp2_with (first | (go_at_call 45; refine (size_any _ _ h0 h1).mono ?_; rintro e w' ⟨rfl, rfl⟩) | (at_make; refine wpList_make_own _ rfl (.const (.int .i64 0)) (.tmp 4) 22 rfl w.heap.size 5 i0 (.int .u8 0) 1 Try.underlying22 hi hz0 hz1 .i64 .i64 _ (vsize x) rfl rfl rfl ?c1 ?c2 ?c3 ?_))
  case c1 => rw [hz2]; omega
  case c2 => unfold maxLen; omega
  case c3 => exact Nat.le_refl _
  · intro w1 hown hgrow
    have hB : Below w.heap.size w w1 := (Below.refl _ _).grown hgrow (Nat.le_refl _) (fun k hk => by cases hk)
    have hsz := hB.size
    clear hgrow
    go_wp2_with (go_at_call 50; refine (put_any w.heap.size _ [] x _ h0 h1 hsz (by simp) hown).mono ?_; rintro e w2 ⟨v', rfl, hown2, hB2⟩)
    go_ret
    obtain ⟨a, cap, rfl⟩ := own_shape hown2
    exact ⟨a, cap, by simp, by simpa using hown2, hB.trans hB2⟩
end Go.Proofs.Ytakpockkagfphaa
