/-
  The contracts of the library's AppendSeq over bits' members, and of bits' Members: they return the members, in new memory.
-/
import Derived.Test.YtcdjfgkjllonhaaDoorBzf
import Derived.Test.YtcdjfgkjllonhaaDoorBrf
namespace Go.Proofs.YtcdjfgkjllonhaaDoor
open Go.RowKit Go.Shelf

attribute [local go_sem] Oper.semAt_some

theorem infoIb : (Tryd.prog.info? 3).map (fun i => (i.zero, i.size, i.bytes)) = some (some (.int .i64 0), 1, 8) := by kernel_rfl
/-- Numbers as values. -/
def nvs (l : List Nat) : List Value := l.map fun m : Nat => Value.int .i64 (m : Int)
theorem nvs_ints (l : List Nat) : nvs l = (ints l).map (Value.int .i64) := by unfold nvs ints; rw [List.map_map]; rfl
theorem nvs_snoc (pre : List (Fin 65536)) (x : Fin 65536) : nvs ((pre ++ [x]).map Fin.val) = nvs (pre.map Fin.val) ++ [.int .i64 (x.val : Int)] := by simp [nvs]

set_option maxRecDepth 100000 in
set_option maxHeartbeats 2000000 in
theorem appendSeq_in (Bn : Nat) (wb : World) (N : Int) (a : Option Addr) (k c : Nat) (l : List Int) (hset : SetIn wb N a k c l) (w : World) (hBw : Below wb.heap.size wb w) (m : Nat) (hm1 : wb.heap.size ≤ m) (hm2 : m ≤ w.heap.size)
    (c0 : w.cell? ⟨Bn, 0, none⟩ = some (.int .i64 N)) (c1 : w.cell? ⟨Bn, 1, none⟩ = some (.slice a k c)) (a0 : Option Addr) (cc : Nat) (hr0 : w.ownsRow m 3 1 (.slice a0 0 cc) 0 []) :
    CallsIn Fence.wide 3 Tryd.prog 63 #[.slice a0 0 cc, .func (.func 76) #[] #[.pointer (some ⟨Bn, 0, none⟩)]] w fun e W' => ∃ v, e = .returned v ∧ W'.ownsRow m 3 1 v (all (ef N l)).length (nvs (all (ef N l))) ∧ Below m w W' := by
  obtain ⟨i0, hi, hz0, hz1, hz2⟩ := info_parts infoIb
  have hEl := efw_len N l
  have hlen : (all (ef N l)).length ≤ 65536 := by
    have := rk_max hEl (64 * (ef N l).length)
    rw [rk_big (Nat.le_refl _)] at this; exact this
  have hst := fun W hb c0 c1 => members_stops 2 (by omega) Bn wb N a k c l hset W hb c0 c1
  obtain ⟨E, hE⟩ : ∃ E, E = ef N l := ⟨_, rfl⟩
  rw [← hE] at hlen ⊢
  simp only [← hE] at hst
  clear hE
  refine callsIn_of_wp_marks Tryd.func63 rfl trivial ?_ rfl
  simp only [Tryd.ntmps63, List.size_toArray, List.length_cons, List.length_nil, Nat.reduceAdd, Nat.reduceSub, Array.replicate_succ, Array.replicate_zero, List.push_toArray, List.append_toArray, List.nil_append, List.cons_append]
  gi_wp2_with fail
  have bO := Boxed.new w 27 (.slice a0 0 cc)
  have hB0 : Below wb.heap.size wb (w.alloc (.cells #[.slice a0 0 cc] 27)) := hBw.alloc hBw.size _
  have hA0 : Below w.heap.size w (w.alloc (.cells #[.slice a0 0 cc] 27)) := (Below.refl _ w).alloc (Nat.le_refl _) _
  have hst := hst (w.alloc (.cells #[.slice a0 0 cc] 27)) hB0 ((hA0.cell (p := ⟨Bn, 0, none⟩) (World.block_lt_of_cell? _ _ c0)).trans c0) ((hA0.cell (p := ⟨Bn, 1, none⟩) (World.block_lt_of_cell? _ _ c1)).trans c1)
  have hwb := hBw.size
  refine wpIn_rangeFunc_ownG (F := Fence.wide) (n := 3) rfl (by omega) (gf := 76) (lb := #[.pointer (some ⟨Bn, 0, none⟩)]) rfl trivial (enters_of Tryd.func76 (by kernel_rfl) rfl)
    hst belowK_t (belowK_b (by simp; omega)) (Below.refl _ _) (fun _ => rfl)
    (fun pre W => (∃ v, Boxed W w.heap.size 27 v ∧ W.ownsRow m 3 1 v pre.length (nvs (pre.map Fin.val)) ∧ True) ∧ Below m w W)
    (fun _ _ _ => False)
    (OwnFrom.and (Own.from (holdsRow_own m w.heap.size 27 3 1 (fun pre : List (Fin 65536) => pre.length) (fun pre => nvs (pre.map Fin.val)) (fun _ _ => True)) _) (ownFrom_below (w₀ := w) hm2 (by simp; omega)))
    (fun _ _ _ _ _ hs _ _ => hs)
    ⟨⟨_, bO, hr0.alloc _, trivial⟩, (Below.refl m w).alloc hm2 _⟩
    (fun x => { tmps := #[.slice a0 0 cc, .func (.func 76) #[] #[.pointer (some ⟨Bn, 0, none⟩)], .pointer (some ⟨w.heap.size, 0, none⟩), undef, .slice none 0 0, .int .i64 (x.val : Int), .func (.func 76) #[] #[.pointer (some ⟨Bn, 0, none⟩)], .int .i64 (x.val : Int), undef, undef, undef, undef, undef], defers := [] }) ?assign ?body ?done ?stop
  case assign =>
    intro l x W K hK
    gi_wp2
    exact hK
  case body =>
    rintro l pre x W ⟨⟨v, hv, hrow, _⟩, hB⟩ hlt
    have hc := hv.cell
    have hsn := nvs_snoc pre x
    have hmW : m ≤ W.heap.size := by have := hB.size; omega
    gi_wp2_with (gi_at_builtin; refine wpListIn_append_own _ rfl _ _ 27 rfl m 3 i0 (.int .i64 0) 1 8 Tryd.underlying27 hi hz0 hz1 hz2 rfl (by decide) _ _ _ rfl (hrow.alloc _) ⟨W.heap.size, 0, none⟩ 1 1 [.int .i64 (x.val : Int)] rfl rfl (cell_one_new _ _ _) (by simp [Value.oneCell']) (by unfold maxLen; omega) (by omega) (by simp; omega) ?_; intro v' w1 hown' hgrow _; obtain ⟨g', cap', rfl⟩ := ownsRow_succ hown'; obtain ⟨hv1, hv2, hr2, hk2, hb2⟩ := hv.appended (by decide) hrow hmW hm2 hown' hgrow; have hc1 := hv1.cell; have hf1 := hv1.frozen)
    exact ⟨hk2.from _, hb2.mono hm1, ⟨_, hv2, by rw [hsn]; simpa using hr2, trivial⟩, hB.trans hb2⟩
  case done =>
    rintro D ys W hD hS ⟨⟨v, hv, hrow, _⟩, hB⟩ hK
    have hc := hv.cell
    have hyl : ys.length = (all E).length := by rw [← hS, List.length_map]
    rw [hS, hyl] at hrow
    gi_wp2
    refine ⟨by simp, .inl ⟨_, _, rfl, run_takeDeferred hK, ?_⟩⟩
    exact ⟨_, results_tmp rfl _ _ _, v, rfl, ownsRow_putObj hrow _ hK rfl, hB.trans (belowK_b (w := w) hm2 W D _ _ (by simp at hD; omega) hK rfl rfl)⟩
  case stop =>
    rintro D c pre W _ _ h _
    exact h.elim

set_option maxRecDepth 100000 in
set_option maxHeartbeats 4000000 in
theorem members_any (w : World) (N : Int) (a : Option Addr) (n c : Nat) (l : List Int) (h : SetIn w N a n c l) :
    Calls Tryd.prog 24 #[.agg #[.int .i64 N, .slice a n c]] w (GivesI w (all (ef N l))) := by
  obtain ⟨i0, hinf, hz0, hz1, hz2⟩ := info_parts infoIb
  have hB : Below w.heap.size w (w.alloc (.cells #[.int .i64 N, .slice a n c] 24)) := (Below.refl _ w).alloc (Nat.le_refl _) _
  have hT : Two (w.alloc (.cells #[.int .i64 N, .slice a n c] 24)) w.heap.size 24 (.int .i64 N) (.slice a n c) := Two.new w _ _ _
  have qc := fun W (hb : Below w.heap.size w W) => count_any W N a n c l (h.below hb)
  have qm := fun W => (callsIn_wide (n := 3)).1 (members_in 3 N a n c W)
  have qa := fun Bn W hb m hm1 hm2 c0 c1 a0 cc hr => (callsIn_wide (n := 3)).1 (appendSeq_in Bn w N a n c l h W hb m hm1 hm2 c0 c1 a0 cc hr)
  have hlen : (all (ef N l)).length ≤ 65536 := by
    have := rk_max (efw_len N l) (64 * (ef N l).length)
    rw [rk_big (Nat.le_refl _)] at this; exact this
  unfold GivesI
  rw [← nvs_ints]
  obtain ⟨L, hL⟩ : ∃ L, L = all (ef N l) := ⟨_, rfl⟩
  simp only [← hL] at qc qa hlen ⊢
  clear hL h
  obtain ⟨C, hC⟩ : ∃ C, C = L.length := ⟨_, rfl⟩
  rw [← hC] at hlen
  simp only [← hC] at qc
  clear hC
  go_enter Tryd.func24, Tryd.ntmps24
  go_wp2_with fail
  obtain ⟨w1, hw1⟩ : ∃ wz, wz = w.alloc (.cells #[.int .i64 N, .slice a n c] 24) := ⟨_, rfl⟩
  have hS0 : KSt w w.heap.size (.int .i64 N) (.slice a n c) w1 := by rw [hw1]; exact ⟨hB, hT.c0, hT.c1⟩
  rw [← hw1]
  clear hw1 hB hT
  refine wp_region_noPanic ?_
  refine wp_region_held_drew (S := fun w' => Below w.heap.size w w' ∧ w'.cell? ⟨w.heap.size, 0, none⟩ = some (.int .i64 N) ∧ w'.cell? ⟨w.heap.size, 1, none⟩ = some (.slice a n c)) (by kernel_rfl) (hS0.drew) (fun hHeld => ?_)
  refine wpAnyH_take (i := 0) (oi := { dst := some 3, op := Go.Op.load 24 (Go.Operand.tmp 1), type := 24, pos := "bits.go:91", after := #[], guard := none }) (v := ?v0x1) rfl (by kernel_rfl) (by kernel_rfl) (by kernel_rfl) (fun _ _ _ h => h) (Or.inl ⟨by rfl, ?hy0x1⟩) hHeld ?rest0x1
  case hy0x1 =>
    intro w hSw
    try dsimp only at hSw
    go_simp
    try with_reducible rfl
  try simp only [Act.put, List.setIfInBounds_toArray, List.set_cons_zero, List.set_cons_succ]
  refine wpAnyH_take (i := 3) (oi := { dst := some 6, op := Go.Op.load 24 (Go.Operand.tmp 1), type := 24, pos := "bits.go:91", after := #[], guard := none }) (v := ?v3x2) rfl (by kernel_rfl) (by kernel_rfl) (by kernel_rfl) (fun _ _ _ h => h) (Or.inl ⟨by rfl, ?hy3x2⟩) hHeld ?rest3x2
  case hy3x2 =>
    intro w hSw
    try dsimp only at hSw
    go_simp
    try with_reducible rfl
  try simp only [Act.put, List.setIfInBounds_toArray, List.set_cons_zero, List.set_cons_succ]
  refine wpAnyH_ready (rs := [1]) (by kernel_rfl) (by simp) ?_
  refine AllReadyH.cons (o := { dst := some 4, op := Go.Op.call { callee := Go.Callee.value (Go.Operand.func 21), args := #[Go.Operand.tmp 3], argTypes := #[24] }, type := 3, pos := "bits.go:91", after := #[{ on := 0, ground := Go.Ground.data }], guard := none }) rfl (fun K hK => ?_) AllReadyH.nil
  go_simp
  refine (qc _ hS0.drew.1).mono ?_
  rintro e w2 ⟨rfl, hD⟩
  have hS1 := hS0.drew.step hD
  go_wp2_with fail
  refine hK.out _ _ (hS1) (fun hHeld => ?_)
  clear hK K
  try simp only [Act.put, List.setIfInBounds_toArray, List.set_cons_zero, List.set_cons_succ]
  refine wpAnyH_ready (rs := [2, 4]) (by kernel_rfl) (by simp) ?_
  refine AllReadyH.cons (o := { dst := some 5, op := Go.Op.makeSlice 27 (Go.Operand.const (Go.Value.int Go.IntKind.i64 0)) (Go.Operand.tmp 4), type := 27, pos := "bits.go:91", after := #[{ on := 1, ground := Go.Ground.data }], guard := none }) rfl (fun K hK => ?_) (AllReadyH.cons (o := { dst := some 7, op := Go.Op.call { callee := Go.Callee.value (Go.Operand.func 62), args := #[Go.Operand.tmp 6], argTypes := #[24] }, type := 82, pos := "bits.go:91", after := #[{ on := 3, ground := Go.Ground.data }, { on := 1, ground := Go.Ground.chain }], guard := none }) rfl (fun K hK => ?_) AllReadyH.nil)
  · obtain ⟨w3, w3R, w3O, w3G⟩ := run_make_own (P := Tryd.prog) w2 w2.heap.size 27 3 i0 (.int .i64 0) 1 Tryd.underlying27 hinf hz0 hz1 .i64 .i64 C (by rw [hz2]; omega) (by unfold maxLen; omega) (Nat.le_refl _)
    have w3B : Below w2.heap.size w2 w3 := (Below.refl _ _).grown w3G (Nat.le_refl _) (fun _ e => by cases e)
    go_simp
    refine hK.out _ _ (hS1.step w3B) (fun hHeld => ?_)
    clear hK K
    try simp only [Act.put, List.setIfInBounds_toArray, List.set_cons_zero, List.set_cons_succ]
    refine wpAnyH_ready (rs := [4]) (by kernel_rfl) (by simp) ?_
    refine AllReadyH.cons (o := { dst := some 7, op := Go.Op.call { callee := Go.Callee.value (Go.Operand.func 62), args := #[Go.Operand.tmp 6], argTypes := #[24] }, type := 82, pos := "bits.go:91", after := #[{ on := 3, ground := Go.Ground.data }, { on := 1, ground := Go.Ground.chain }], guard := none }) rfl (fun K hK => ?_) AllReadyH.nil
    go_simp
    refine (qm _).mono ?_
    rintro e w9 ⟨rfl, hE9⟩
    obtain ⟨w4, hww4⟩ : ∃ wz, wz = w3.alloc (.cells #[.int .i64 N, .slice a n c] 24) := ⟨_, rfl⟩
    rw [hE9, ← hww4]
    clear hE9
    have w4B : Below w3.heap.size w3 w4 := by rw [hww4]; exact (Below.refl _ _).alloc (Nat.le_refl _) _
    have w4T : Two w4 w3.heap.size 24 (.int .i64 N) (.slice a n c) := by rw [hww4]; exact Two.new _ _ _ _
    clear hww4
    go_wp2_with fail
    refine hK.out _ _ ((hS1.step w3B).step w4B) (fun hHeld => ?_)
    clear hK K
    try simp only [Act.put, List.setIfInBounds_toArray, List.set_cons_zero, List.set_cons_succ]
    refine wpAnyH_ready (rs := [5]) (by kernel_rfl) (by simp) ?_
    refine AllReadyH.cons (o := { dst := some 8, op := Go.Op.call { callee := Go.Callee.value (Go.Operand.func 63), args := #[Go.Operand.tmp 5, Go.Operand.tmp 7], argTypes := #[27, 82] }, type := 27, pos := "bits.go:91", after := #[{ on := 2, ground := Go.Ground.data }, { on := 4, ground := Go.Ground.data }, { on := 4, ground := Go.Ground.chain }], guard := none }) rfl (fun K hK => ?_) AllReadyH.nil
    go_simp
    refine (qa w3.heap.size w4 ((hS1.step w3B).step w4B).1 w2.heap.size (hS1.1.size) (Nat.le_trans w3B.size w4B.size) w4T.c0 w4T.c1 _ _ (ownsRow_below w3O w4B)).mono ?_
    rintro e w5 ⟨v, rfl, hown5, hB5⟩
    have hS5 : KSt w w.heap.size (.int .i64 N) (.slice a n c) w5 := ⟨((hS1.step w3B).step w4B).1.trans (hB5.mono (hS1.1.size)), (hB5.cell (p := ⟨w.heap.size, 0, none⟩) (World.block_lt_of_cell? _ ⟨w.heap.size, 0, none⟩ hS1.2.1)).trans ((hS1.step w3B).step w4B).2.1, (hB5.cell (p := ⟨w.heap.size, 1, none⟩) (World.block_lt_of_cell? _ ⟨w.heap.size, 0, none⟩ hS1.2.1)).trans ((hS1.step w3B).step w4B).2.2⟩
    have hown6 := own_base hown5 (hS1.1.size)
    go_wp2_with fail
    refine hK.out _ _ (hS5) (fun hHeld => ?_)
    clear hK K
    try simp only [Act.put, List.setIfInBounds_toArray, List.set_cons_zero, List.set_cons_succ]
    refine wpAnyH_take (i := 6) (oi := { dst := some 2, op := Go.Op.assign (Go.Operand.tmp 8), type := 27, pos := "bits.go:91", after := #[{ on := 5, ground := Go.Ground.data }, { on := 5, ground := Go.Ground.chain }, { on := 0, ground := Go.Ground.phase }, { on := 1, ground := Go.Ground.phase }, { on := 2, ground := Go.Ground.phase }, { on := 3, ground := Go.Ground.phase }, { on := 4, ground := Go.Ground.phase }, { on := 5, ground := Go.Ground.phase }], guard := none }) (v := ?v6x7) rfl (by kernel_rfl) (by kernel_rfl) (by kernel_rfl) (fun _ _ _ h => h) (Or.inl ⟨by rfl, ?hy6x7⟩) hHeld ?rest6x7
    case hy6x7 =>
      intro w hSw
      try dsimp only at hSw
      go_simp
      try with_reducible rfl
    try simp only [Act.put, List.setIfInBounds_toArray, List.set_cons_zero, List.set_cons_succ]
    refine wpAnyH_done (by kernel_rfl) ?_ _
    refine NoPanic.normal ?_
    obtain ⟨g5, c5, rfl⟩ := own_shape hown6
    go_wp2_with fail
    go_ret
    exact ⟨g5, c5, rfl, hown6, hS5.1⟩
  · go_simp
    refine (qm _).mono ?_
    rintro e w9 ⟨rfl, hE9⟩
    obtain ⟨w3, hww3⟩ : ∃ wz, wz = w2.alloc (.cells #[.int .i64 N, .slice a n c] 24) := ⟨_, rfl⟩
    rw [hE9, ← hww3]
    clear hE9
    have w3B : Below w2.heap.size w2 w3 := by rw [hww3]; exact (Below.refl _ _).alloc (Nat.le_refl _) _
    have w3T : Two w3 w2.heap.size 24 (.int .i64 N) (.slice a n c) := by rw [hww3]; exact Two.new _ _ _ _
    clear hww3
    go_wp2_with fail
    refine hK.out _ _ (hS1.step w3B) (fun hHeld => ?_)
    clear hK K
    try simp only [Act.put, List.setIfInBounds_toArray, List.set_cons_zero, List.set_cons_succ]
    obtain ⟨w4, w4R, w4O, w4G⟩ := run_make_own (P := Tryd.prog) w3 w3.heap.size 27 3 i0 (.int .i64 0) 1 Tryd.underlying27 hinf hz0 hz1 .i64 .i64 C (by rw [hz2]; omega) (by unfold maxLen; omega) (Nat.le_refl _)
    have w4B : Below w3.heap.size w3 w4 := (Below.refl _ _).grown w4G (Nat.le_refl _) (fun _ e => by cases e)
    refine wpAnyH_ready (rs := [2]) (by kernel_rfl) (by simp) ?_
    refine AllReadyH.cons (o := { dst := some 5, op := Go.Op.makeSlice 27 (Go.Operand.const (Go.Value.int Go.IntKind.i64 0)) (Go.Operand.tmp 4), type := 27, pos := "bits.go:91", after := #[{ on := 1, ground := Go.Ground.data }], guard := none }) rfl (fun K hK => ?_) AllReadyH.nil
    go_simp
    refine hK.out _ _ ((hS1.step w3B).step w4B) (fun hHeld => ?_)
    clear hK K
    try simp only [Act.put, List.setIfInBounds_toArray, List.set_cons_zero, List.set_cons_succ]
    refine wpAnyH_ready (rs := [5]) (by kernel_rfl) (by simp) ?_
    refine AllReadyH.cons (o := { dst := some 8, op := Go.Op.call { callee := Go.Callee.value (Go.Operand.func 63), args := #[Go.Operand.tmp 5, Go.Operand.tmp 7], argTypes := #[27, 82] }, type := 27, pos := "bits.go:91", after := #[{ on := 2, ground := Go.Ground.data }, { on := 4, ground := Go.Ground.data }, { on := 4, ground := Go.Ground.chain }], guard := none }) rfl (fun K hK => ?_) AllReadyH.nil
    go_simp
    refine (qa w2.heap.size w4 ((hS1.step w3B).step w4B).1 w3.heap.size ((hS1.step w3B).1.size) (w4B.size) (w3T.below w4B w3T.lt).c0 (w3T.below w4B w3T.lt).c1 _ _ w4O).mono ?_
    rintro e w5 ⟨v, rfl, hown5, hB5⟩
    have hS5 : KSt w w.heap.size (.int .i64 N) (.slice a n c) w5 := ⟨((hS1.step w3B).step w4B).1.trans (hB5.mono ((hS1.step w3B).1.size)), (hB5.cell (p := ⟨w.heap.size, 0, none⟩) (World.block_lt_of_cell? _ ⟨w.heap.size, 0, none⟩ (hS1.step w3B).2.1)).trans ((hS1.step w3B).step w4B).2.1, (hB5.cell (p := ⟨w.heap.size, 1, none⟩) (World.block_lt_of_cell? _ ⟨w.heap.size, 0, none⟩ (hS1.step w3B).2.1)).trans ((hS1.step w3B).step w4B).2.2⟩
    have hown6 := own_base hown5 ((hS1.step w3B).1.size)
    go_wp2_with fail
    refine hK.out _ _ (hS5) (fun hHeld => ?_)
    clear hK K
    try simp only [Act.put, List.setIfInBounds_toArray, List.set_cons_zero, List.set_cons_succ]
    refine wpAnyH_take (i := 6) (oi := { dst := some 2, op := Go.Op.assign (Go.Operand.tmp 8), type := 27, pos := "bits.go:91", after := #[{ on := 5, ground := Go.Ground.data }, { on := 5, ground := Go.Ground.chain }, { on := 0, ground := Go.Ground.phase }, { on := 1, ground := Go.Ground.phase }, { on := 2, ground := Go.Ground.phase }, { on := 3, ground := Go.Ground.phase }, { on := 4, ground := Go.Ground.phase }, { on := 5, ground := Go.Ground.phase }], guard := none }) (v := ?v6x11) rfl (by kernel_rfl) (by kernel_rfl) (by kernel_rfl) (fun _ _ _ h => h) (Or.inl ⟨by rfl, ?hy6x11⟩) hHeld ?rest6x11
    case hy6x11 =>
      intro w hSw
      try dsimp only at hSw
      go_simp
      try with_reducible rfl
    try simp only [Act.put, List.setIfInBounds_toArray, List.set_cons_zero, List.set_cons_succ]
    refine wpAnyH_done (by kernel_rfl) ?_ _
    refine NoPanic.normal ?_
    obtain ⟨g5, c5, rfl⟩ := own_shape hown6
    go_wp2_with fail
    go_ret
    exact ⟨g5, c5, rfl, hown6, hS5.1⟩
end Go.Proofs.YtcdjfgkjllonhaaDoor
