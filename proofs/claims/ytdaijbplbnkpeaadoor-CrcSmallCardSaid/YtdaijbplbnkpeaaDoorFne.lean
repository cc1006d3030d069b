/-
  The contract of crc's Find.
-/
import Derived.Test.YtdaijbplbnkpeaaDoorFnd
import Derived.WalkMore
namespace Go.Proofs.YtdaijbplbnkpeaaDoor
open Go.RowKit Go.Shelf

attribute [local go_sem] Oper.semAt_some

/-- Marks of ended rounds among the deferred calls. -/
def marks (Ds : List Nat) : List Deferred := Ds.map fun D => { target := .collected D, args := #[] }

theorem leaves_marks {F : Fence} {n : Nat} {P : Program} {fn : Func} {tmps : Array Value} {R : Ending → World → Prop} {B : Nat} : ∀ (Ds : List Nat) (w : World), Ds.Nodup → B ≤ w.heap.size → (∀ D ∈ Ds, B ≤ D ∧ w.heap[D]? = some (.deferred (some []))) →
    (∀ w', Below B w w' → LeavesIn F n P fn tmps R [] .returning w') → LeavesInM F n P fn tmps R (marks Ds) .returning w := by
  intro Ds
  induction Ds with
  | nil => intro w _ _ _ h; exact h w (Below.refl _ _)
  | cons D Ds ih =>
    intro w hnd hB hD h
    obtain ⟨hBD, hK⟩ := hD D (by simp)
    refine ⟨by simp, .inl ⟨_, _, rfl, run_takeDeferred hK, ?_⟩⟩
    have hb : Below B w (w.putObj D (.deferred none)) := (Below.refl B w).grown (grownBy_putObj' w D _) (by have := (Array.getElem?_eq_some_iff.1 hK).1; omega) (fun k e => by cases e; omega)
    refine ih _ (List.nodup_cons.1 hnd).2 (Nat.le_trans hB hb.size) (fun D' hD' => ?_) (fun w' hw' => h w' (hb.trans hw'))
    obtain ⟨h1, h2⟩ := hD D' (by simp [hD'])
    exact ⟨h1, by rw [World.putObj_heap_other (fun e => by subst e; exact (List.nodup_cons.1 hnd).1 hD')]; exact h2⟩

theorem wrap_bit (i c : Nat) (hi : i < 65536) (hc : c < 8) : IntKind.i64.wrap (IntKind.i64.wrap (8 * (i : Int)) + (c : Int)) = 8 * (i : Int) + (c : Int) := by
  have h1 : IntKind.i64.wrap (8 * (i : Int)) = 8 * (i : Int) := by rw [IntKind.wrap_i64]; omega
  rw [h1, IntKind.wrap_i64]; omega
theorem prt_moved {n i x : Nat} (h : 8 * i + x < 8 * n) : prt n x = hn (8 * i) (prt n (8 * i + x)) := by
  unfold prt
  rw [← hn_add]
  congr 1
  omega
theorem prt_at {n i x C : Nat} (h : 8 * i + x < 8 * n) (hC : C < 2 ^ 32) : prt n x = hn (8 * i) C ↔ prt n (8 * i + x) = C := by
  rw [prt_moved h]
  exact ⟨fun e => hn_inj _ (prt_lt _ _) hC e, fun e => by rw [e]⟩
theorem before_of {pre : List (Fin 8)} {x : Fin 8} {k : Nat} (h : pre ++ [x] = (List.finRange 8).take k) (y : Fin 8) (hy : y.val < x.val) : y ∈ pre := by
  have hl : (pre ++ [x]).length = ((List.finRange 8).take k).length := by rw [h]
  simp at hl
  have hx : (pre ++ [x])[pre.length]? = some x := by simp
  rw [h, List.getElem?_take_of_lt (by omega), List.getElem?_eq_getElem (by simp; omega)] at hx
  simp at hx
  have hxv : x.val = pre.length := by rw [← hx]
  have hy2 : (pre ++ [x])[y.val]? = some y := by
    rw [h, List.getElem?_take_of_lt (by omega), List.getElem?_eq_getElem (by simp)]
    simp
  rw [List.getElem?_append_left (by omega)] at hy2
  exact List.mem_of_getElem? hy2

theorem ownFrom_marks {β : Type} {B : Nat} {Ds : List Nat} (h : ∀ D ∈ Ds, D < B) : OwnFrom B (fun (_ : β) W => ∀ D ∈ Ds, W.heap[D]? = some (.deferred (some []))) :=
  fun _ _ _ _ hs hg hr D hD => (hg.block D (Array.getElem?_eq_some_iff.1 (hs D hD)).1 (fun e => by have := (hr D e.symm).1; have := h D hD; omega)).trans (hs D hD)

theorem wpIn_scope_wide {n : Nat} {P : Program} {c : Code} {Q : Exit → Act → World → Prop} {a : Act} {w : World} (h : c.wpIn Fence.wide n P (Exit.noGoto Q) a w) : (Code.scope c).wpIn Fence.wide n P Q a w :=
  wpIn_wide.2 (wp_scope_straight (wpIn_wide.1 h))

set_option maxRecDepth 100000 in
set_option maxHeartbeats 2000000 in
theorem find_in (a : Option Addr) (n cap : Nat) (l : List Int) (w : World) (hT : Tab w) (hS : Sl .u8 w a n cap l) (hB : Bys l) (h4 : 4 ≤ n) (hn65 : n ≤ 65536) :
    CallsIn Fence.wide 3 Tryd.prog 20 #[.slice a n cap] w fun e w' => ((∃ k : Nat, k < 8 * n ∧ prt n k = chg l ∧ (∀ j, j < k → prt n j ≠ chg l) ∧ e = .returned (.tuple #[.int .i64 (k : Int), .int .i64 0])) ∨ ((∀ k, k < 8 * n → prt n k ≠ chg l) ∧ e = .returned (.tuple #[.int .i64 0, .int .i64 6]))) ∧ Below w.heap.size w w' := by
  have hd1 : decide ((n : Int) < 4) = false := by simp; omega
  have hd2 : decide ((65536 : Int) < (n : Int)) = false := by simp; omega
  have hp := fun w => part_any n 0 w (by omega) (by omega)
  have hS4 := fun {w'} (h : Below w.heap.size w w') => hS.below h
  have hcl := chg_lt hB
  obtain ⟨C, hC⟩ : ∃ C, C = chg l := ⟨_, rfl⟩
  rw [← hC] at hcl ⊢
  have HC := Lib.hid hC
  clear hC
  refine callsIn_of_wp_marks Tryd.func20 rfl trivial ?_ rfl
  simp only [Tryd.ntmps20, List.size_toArray, List.length_cons, List.length_nil, Nat.reduceAdd, Nat.reduceSub, Array.replicate_succ, Array.replicate_zero, List.push_toArray, List.append_toArray, List.nil_append, List.cons_append]
  gi_wp2_with (first | apply wpIn_scope_wide | apply wpIn_label)
  have b4 := Boxed.new w 4 (.bool false)
  have b5 := Boxed.new (w.alloc (.cells #[.bool false] 4)) 3 (.int .i64 0)
  rw [World.size_alloc] at b5
  have b4 := b4.alloc (.cells #[.int .i64 0] 3)
  have hB1 : Below w.heap.size w ((w.alloc (.cells #[.bool false] 4)).alloc (.cells #[.int .i64 0] 3)) := ((Below.refl _ w).alloc (Nat.le_refl _) _).alloc (by simp) _
  have hs1 : ((w.alloc (.cells #[.bool false] 4)).alloc (.cells #[.int .i64 0] 3)).heap.size = w.heap.size + 2 := by simp
  obtain ⟨w1, hw1⟩ : ∃ w1, (w.alloc (.cells #[.bool false] 4)).alloc (.cells #[.int .i64 0] 3) = w1 := ⟨_, rfl⟩
  rw [hw1] at b4 b5 hB1 hs1 ⊢
  clear hw1
  refine ⟨trivial, (callsIn_wide.2 (hp w1)).mono ?_⟩
  rintro e w2 ⟨rfl, hb2⟩
  have hB2 := hB1.trans (hb2.mono hB1.size)
  have hS2 := hS.below hB2
  have c4 : Boxed w2 w.heap.size 4 (.bool false) := (hb2.block _ (by omega)).trans b4
  have c5 : Boxed w2 (w.heap.size + 1) 3 (.int .i64 0) := (hb2.block _ (by omega)).trans b5
  have hs2 := hb2.size
  rw [hs1] at hs2
  have hch := change_any a n cap l w2 (hT.below hB2 hT.1) hS2 hB
  rw [← HC.out] at hch
  clear b4 b5 hB1 hs1 hb2 hp hS4 hS hS2
  have hC0 : hn (8 * 0) C = C := rfl
  gi_wp2_with fail
  refine ⟨trivial, (callsIn_wide.2 hch).mono ?_⟩
  rintro e w' ⟨rfl, rfl⟩
  gi_wp2_with (apply wpIn_label)
  clear hch
  refine wpIn_loop (fun a' w' => ∃ (u8 u27 u28 u29 u30 u40 u41 u42 : Value) (i : Nat) (Ds : List Nat), i ≤ n ∧ Ds.Nodup ∧ (∀ D ∈ Ds, w.heap.size ≤ D ∧ D < w'.heap.size ∧ w2.heap.size < D) ∧ (∀ D ∈ Ds, w'.heap[D]? = some (.deferred (some []))) ∧ Boxed w' w.heap.size 4 (.bool false) ∧ Boxed w' (w.heap.size + 1) 3 (.int .i64 0) ∧ Boxed w' w2.heap.size 23 (.int .u32 ((hn (8 * i) C : Nat) : Int)) ∧ (∀ k, k < 8 * i → prt n k ≠ C) ∧ Below w.heap.size w w' ∧
      a' = { tmps := #[.slice a n cap, undef, .int .i64 0, .int .i64 0, .pointer (some ⟨w.heap.size, 0, none⟩), .pointer (some ⟨w.heap.size + 1, 0, none⟩), .int .u32 ((prt n 0 : Nat) : Int), .pointer (some ⟨w2.heap.size, 0, none⟩), u8, undef, undef, .slice a n cap, .int .i64 (n : Int), .bool false, .bool false, .slice a n cap, .int .i64 (n : Int), .bool false, .bool false, .slice a n cap, .int .i64 (n : Int), .int .u32 ((prt n 0 : Nat) : Int), .slice a n cap, .int .u32 (C : Int), .slice a n cap, .int .i64 (n : Int), .int .i64 (i : Int), u27, u28, u29, u30, undef, undef, undef, undef, undef, undef, undef, undef, undef, u40, u41, u42, undef, undef, undef], defers := marks Ds })
    (fun a' _ => n - (intOf (a'.tmps.getD 26 undef)).toNat) ⟨undef, undef, undef, undef, undef, undef, undef, undef, 0, [], by omega, List.nodup_nil, by simp, by simp, c4.alloc _, c5.alloc _, Boxed.new w2 _ _, by omega, hB2.alloc hB2.size _, rfl⟩ ?_
  rintro a' wr ⟨u8, u27, u28, u29, u30, u40, u41, u42, i, Ds, hi, hnd, hDb, hDk, g4, g5, g7, hno, hBr, rfl⟩
  dsimp only
  by_cases hlt : i < n
  · obtain ⟨mv, hmv⟩ : ∃ mv, mv = hn (8 * i) C := ⟨_, rfl⟩
    rw [← hmv] at g7
    have HMV := Lib.hid hmv
    clear hmv hC0 c4 c5
    have q4 := g4.alloc (.cells #[.int .i64 (i : Int)] 3)
    have q5 := g5.alloc (.cells #[.int .i64 (i : Int)] 3)
    have q7 := g7.alloc (.cells #[.int .i64 (i : Int)] 3)
    have q8 := Boxed.new wr 3 (.int .i64 (i : Int))
    have hBw : Below w.heap.size w (wr.alloc (.cells #[.int .i64 (i : Int)] 3)) := hBr.alloc hBr.size _
    have hkw : ∀ D ∈ Ds, (wr.alloc (.cells #[.int .i64 (i : Int)] 3)).heap[D]? = some (.deferred (some [])) := fun D hD => (Below.heap_alloc _ _ _ (hDb D hD).2.1).trans (hDk D hD)
    have hsw := hBr.size
    have h7lt := g7.lt
    gi_wp2_with fail
    refine ⟨trivial, (bits_in 2 _ _).mono ?_⟩
    rintro e w' ⟨rfl, rfl⟩
    have q4 := q4.alloc (.cells #[.int .u32 ((prt n 0 : Nat) : Int)] 23)
    have q5 := q5.alloc (.cells #[.int .u32 ((prt n 0 : Nat) : Int)] 23)
    have q7 := q7.alloc (.cells #[.int .u32 ((prt n 0 : Nat) : Int)] 23)
    have q8 := q8.alloc (.cells #[.int .u32 ((prt n 0 : Nat) : Int)] 23)
    have qB := Boxed.new (wr.alloc (.cells #[.int .i64 (i : Int)] 3)) 23 (.int .u32 ((prt n 0 : Nat) : Int))
    have hBw2 := hBw.alloc hBw.size (.cells #[.int .u32 ((prt n 0 : Nat) : Int)] 23)
    have hkw2 : ∀ D ∈ Ds, ((wr.alloc (.cells #[.int .i64 (i : Int)] 3)).alloc (.cells #[.int .u32 ((prt n 0 : Nat) : Int)] 23)).heap[D]? = some (.deferred (some [])) := fun D hD => (Below.heap_alloc _ _ _ (by have := (hDb D hD).2.1; simp; omega)).trans (hkw D hD)
    rw [World.size_alloc] at qB
    have hs4 : ((wr.alloc (.cells #[.int .i64 (i : Int)] 3)).alloc (.cells #[.int .u32 ((prt n 0 : Nat) : Int)] 23)).heap.size = wr.heap.size + 2 := by simp
    gi_wp2_with fail
    obtain ⟨W0, hW0⟩ : ∃ W0, (wr.alloc (.cells #[.int .i64 (i : Int)] 3)).alloc (.cells #[.int .u32 ((prt n 0 : Nat) : Int)] 23) = W0 := ⟨_, rfl⟩
    rw [hW0] at q4 q5 q7 q8 qB hBw2 hkw2 hs4 ⊢
    clear hW0 hkw hBw
    refine wpIn_rangeFunc_ownG (F := Fence.wide) (n := 3) rfl (by omega) (gf := 60) (lb := #[.pointer (some ⟨wr.heap.size + 1, 0, none⟩)]) rfl trivial (enters_of Tryd.func60 (by kernel_rfl) rfl)
      (bits_stops 2 (by omega) (wr.heap.size + 1) n (by omega) W0 (by omega) qB.cell) (fun _ _ => trivial) (fun _ _ _ _ _ _ _ _ => trivial) (Below.refl _ _) (fun _ => rfl)
      (fun pre W => ((Boxed W w.heap.size 4 (.bool false) ∧ Boxed W (w.heap.size + 1) 3 (.int .i64 0)) ∧ (Boxed W w2.heap.size 23 (.int .u32 (mv : Int)) ∧ Boxed W wr.heap.size 3 (.int .i64 (i : Int)))) ∧ ((∀ D ∈ Ds, W.heap[D]? = some (.deferred (some []))) ∧ Below w.heap.size w W) ∧ (∀ y ∈ pre, prt n y.val ≠ mv))
      (fun c pre W => c = Code.exit 0 ∧ ∃ (pre' : List (Fin 8)) (x : Fin 8), (pre = pre' ++ [x] ∧ (∀ y ∈ pre', prt n y.val ≠ mv) ∧ prt n x.val = mv) ∧ (Boxed W w.heap.size 4 (.bool true) ∧ Boxed W (w.heap.size + 1) 3 (.int .i64 (8 * (i : Int) + (x.val : Int)))) ∧ (∀ D ∈ Ds, W.heap[D]? = some (.deferred (some []))) ∧ Below w.heap.size w W)
      (OwnFrom.and (OwnFrom.and (OwnFrom.and (Own.from (boxed_own w.heap.size 4 (fun _ => .bool false)) _) (Own.from (boxed_own (w.heap.size + 1) 3 (fun _ => .int .i64 0)) _)) (OwnFrom.and (Own.from (boxed_own w2.heap.size 23 (fun _ => .int .u32 (mv : Int))) _) (Own.from (boxed_own wr.heap.size 3 (fun _ => .int .i64 (i : Int))) _)))
        (OwnFrom.and (OwnFrom.and (ownFrom_marks (fun D hD => by have := (hDb D hD).2.1; omega)) (ownFrom_below (w₀ := w) (Nat.le_refl _) (by omega))) (ownFrom_pure _ _)))
      (fun c s W W' row h hg hr => by
        obtain ⟨h1, pre', x, h2, ⟨h3, h4'⟩, h5, h6⟩ := h
        exact ⟨h1, pre', x, h2, ⟨Own.from (boxed_own w.heap.size 4 (fun _ : Unit => .bool true)) _ () W W' row h3 hg hr, Own.from (boxed_own (w.heap.size + 1) 3 (fun _ : Unit => .int .i64 (8 * (i : Int) + (x.val : Int)))) _ () W W' row h4' hg hr⟩, ownFrom_marks (fun D hD => by have := (hDb D hD).2.1; omega) () W W' row h5 hg hr, ownFrom_below (w₀ := w) (Nat.le_refl _) (by omega) () W W' row h6 hg hr⟩)
      ⟨⟨⟨q4, q5⟩, q7, q8⟩, ⟨hkw2, hBw2⟩, by simp⟩
      (fun c => { tmps := #[.slice a n cap, undef, .int .i64 0, .int .i64 0, .pointer (some ⟨w.heap.size, 0, none⟩), .pointer (some ⟨w.heap.size + 1, 0, none⟩), .int .u32 ((prt n 0 : Nat) : Int), .pointer (some ⟨w2.heap.size, 0, none⟩), .pointer (some ⟨wr.heap.size, 0, none⟩), .int .i64 (c.val : Int), .int .u32 ((prt n c.val : Nat) : Int), .slice a n cap, .int .i64 (n : Int), .bool false, .bool false, .slice a n cap, .int .i64 (n : Int), .bool false, .bool false, .slice a n cap, .int .i64 (n : Int), .int .u32 ((prt n 0 : Nat) : Int), .slice a n cap, .int .u32 (C : Int), .slice a n cap, .int .i64 (n : Int), .int .i64 (i : Int), .bool true, .int .i64 (i : Int), .int .u32 ((prt n 0 : Nat) : Int), .func (.func 60) #[] #[.pointer (some ⟨wr.heap.size + 1, 0, none⟩)], .int .i64 (c.val : Int), .int .u32 ((prt n c.val : Nat) : Int), undef, undef, undef, undef, undef, undef, undef, u40, u41, u42, undef, undef, undef], defers := [] }) ?assign ?body ?done ?stop
    case assign =>
      intro l c W K hK
      gi_wp2
      exact hK
    case body =>
      rintro l pre c W ⟨⟨⟨r4, r5⟩, r7, r8⟩, ⟨hk, hBW⟩, hpre⟩ hlen
      have hc8 := c.isLt
      have k4 := r4.cell
      have k5 := r5.cell
      have k7 := r7.cell
      have k8 := r8.cell
      have f4 := r4.frozen
      have f5 := r5.frozen
      have hz1 : w.heap.size + 1 ≠ w.heap.size := by omega
      by_cases hm : prt n c.val = mv
      · have e35 : (((prt n c.val : Nat) : Int) == (mv : Int)) = true := by simp [hm]
        have HM := Lib.hid hm
        clear hm
        gi_wp2
        have ew : IntKind.i64.wrap (IntKind.i64.wrap (8 * (i : Int)) + (c.val : Int)) = 8 * (i : Int) + (c.val : Int) := wrap_bit i c.val (by omega) hc8
        have EW := Lib.hid ew
        clear ew
        gi_region
        all_goals
          gi_wp2
          rw [EW.out]
          exact ⟨((KeepsOthers.setCell W _ _).trans ((KeepsOthers.setCell _ _ _).trans (KeepsOthers.drew _))).from _, rfl, pre, c, ⟨rfl, hpre, HM.out⟩,
            ⟨(r4.set (.bool true)).other (by omega) _, (r5.other (by omega) _).set _⟩,
            fun D hD => (Below.heap_setCell _ _ _ D (by have := hDb D hD; simp; omega)).trans ((Below.heap_setCell W _ _ D (by have := hDb D hD; simp; omega)).trans (hk D hD)),
            ((hBW.setCell (by simp) _).setCell (by simp) _).drew⟩
      · have e35 : (((prt n c.val : Nat) : Int) == (mv : Int)) = false := by simp; omega
        have HM := Lib.hid hm
        clear hm
        gi_wp2
        refine ⟨KeepsFrom.refl _ _, trivial, ⟨⟨r4, r5⟩, r7, r8⟩, ⟨hk, hBW⟩, fun y hy => ?_⟩
        rcases List.mem_append.1 hy with hy | hy
        · exact hpre y hy
        · rw [List.mem_singleton.1 hy]; exact HM.out
    case done =>
      rintro D ys W hD rfl ⟨⟨⟨r4, r5⟩, r7, r8⟩, ⟨hk, hBW⟩, hpre⟩ hK
      have k7 := r7.cell
      have f7 := r7.frozen
      have hmvl : mv < 4294967296 := by rw [HMV.out]; exact hn_lt _ hcl
      gi_wp2_with fail
      refine ⟨trivial, (callsIn_wide.2 (next_any mv 0 W (hT.below hBW hT.1) hmvl (by omega))).mono ?_⟩
      rintro e w' ⟨rfl, rfl⟩
      gi_wp2_with fail
      have hDs : ∀ D' ∈ Ds, D' < W0.heap.size := fun D' hD' => by have := (hDb D' hD').2.1; omega
      have e1 : ((i + 1 : Nat) : Int) = (i : Int) + 1 := by omega
      have hDl := (Array.getElem?_eq_some_iff.1 hK).1
      have hszS : (W.setCell ⟨w2.heap.size, 0, none⟩ (.int .u32 ((hn 8 mv : Nat) : Int))).heap.size = W.heap.size := by simp [World.setCell]
      refine ⟨⟨.pointer (some ⟨wr.heap.size, 0, none⟩), .bool true, .int .i64 (i : Int), .int .u32 ((prt n 0 : Nat) : Int), .func (.func 60) #[] #[.pointer (some ⟨wr.heap.size + 1, 0, none⟩)], .int .u32 (mv : Int), .int .u32 ((hn 8 mv : Nat) : Int), .int .i64 ((i : Int) + 1), i + 1, D :: Ds, by omega, List.nodup_cons.2 ⟨fun h => by have := hDs D h; omega, hnd⟩, ?_, ?_, r4.other (by omega) _, r5.other (by omega) _, ?_, ?_, hBW.setCell (by show w.heap.size ≤ w2.heap.size; omega) _, ?eq⟩, ?meas⟩
      case eq => rw [e1]; rfl
      case meas => simp [intOf]; omega
      · intro D' hD'
        rw [hszS]
        rcases List.mem_cons.1 hD' with rfl | hD'
        · exact ⟨by omega, hDl, by omega⟩
        · exact ⟨(hDb D' hD').1, by have := (Array.getElem?_eq_some_iff.1 (hk D' hD')).1; omega, (hDb D' hD').2.2⟩
      · intro D' hD'
        rcases List.mem_cons.1 hD' with rfl | hD'
        · exact (Below.heap_setCell _ _ _ _ (by show D' ≠ w2.heap.size; omega)).trans hK
        · exact (Below.heap_setCell _ _ _ _ (by have := (hDb D' hD').2.2; show D' ≠ w2.heap.size; omega)).trans (hk D' hD')
      · have e8 : hn (8 * (i + 1)) C = hn 8 mv := by rw [HMV.out, show 8 * (i + 1) = 8 * i + 8 from by omega, hn_add]
        rw [e8]
        exact r7.set _
      · intro k hk8 e
        by_cases hj8 : k < 8 * i
        · exact hno k hj8 e
        · refine hpre (⟨k - 8 * i, by omega⟩ : Fin 8) (by simp) ?_
          rw [HMV.out]
          exact (prt_at (x := k - 8 * i) (by omega) hcl).2 (by rw [show 8 * i + (k - 8 * i) = k from by omega]; exact e)
    case stop =>
      rintro D c pre W hD ⟨k, hk⟩ ⟨rfl, pre', x, ⟨hp, hno', hx⟩, ⟨r4, r5⟩, hkD, hBW⟩ hK
      have k4 := r4.cell
      have k5 := r5.cell
      gi_wp2_with fail
      have hDs : ∀ D' ∈ Ds, D' < W0.heap.size := fun D' hD' => by have := (hDb D' hD').2.1; omega
      show LeavesInM Fence.wide 3 _ _ _ _ (marks (D :: Ds)) .returning W
      refine leaves_marks (B := w.heap.size) (D :: Ds) W (List.nodup_cons.2 ⟨fun h => by have := hDs D h; omega, hnd⟩) hBW.size (fun D' hD' => ?_) (fun w' hw' => ⟨_, results_tmp2 rfl _ _ _, .inl ⟨8 * i + x.val, by have := x.isLt; omega, ?_, ?_, by simp⟩, hBW.trans hw'⟩)
      · rcases List.mem_cons.1 hD' with rfl | hD'
        · exact ⟨by omega, hK⟩
        · exact ⟨(hDb D' hD').1, hkD D' hD'⟩
      · have hx8 := x.isLt
        exact (prt_at (by omega) hcl).1 (by rw [← HMV.out]; exact hx)
      · intro j hj e
        have hx8 := x.isLt
        by_cases hj8 : j < 8 * i
        · exact hno j hj8 e
        · have hy := before_of (hp.symm.trans hk) (⟨j - 8 * i, by omega⟩ : Fin 8) (by show j - 8 * i < x.val; omega)
          refine hno' _ hy ?_
          rw [HMV.out]
          exact (prt_at (x := j - 8 * i) (by omega) hcl).2 (by rw [show 8 * i + (j - 8 * i) = j from by omega]; exact e)
  · obtain rfl : i = n := by omega
    have hc4 := g4.cell
    have HNO := Lib.hid hno
    clear hno
    gi_wp2_with fail
    show LeavesInM Fence.wide 3 _ _ _ _ (marks Ds) .returning wr
    exact leaves_marks (B := w.heap.size) Ds wr hnd hBr.size (fun D' hD' => ⟨(hDb D' hD').1, hDk D' hD'⟩) (fun w' hw' => ⟨_, results_tmp2 rfl _ _ _, .inr ⟨HNO.out, rfl⟩, hBr.trans hw'⟩)
end Go.Proofs.YtdaijbplbnkpeaaDoor
