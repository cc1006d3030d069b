/-
  The contracts of poly's terms and Mul: the iterator yields the degrees of a polynomial's terms, for every loop body; Mul returns the product; for every number of 64 bits.
-/
import Derived.RangeFuncBox
import Derived.RangeFuncLeaves
import Derived.RangeFuncWrites
import Derived.RangeFuncCalls
import Derived.RangeFuncNested
import Derived.Shelf.Abstract
import Derived.WalkKit
import Derived.OwnWalkIn
import Derived.TacticsInMore
import Derived.LoopNIn
import Derived.LoopIn
import Derived.Maps.AppendAt
import Derived.Test.YtjajojdlgpmpfaaDoorPda
import Derived.Test.YtjajojdlgpmpfaaDoorTrm
namespace Go.Proofs.YtjajojdlgpmpfaaDoor
open Go.RowKit Go.Shelf

attribute [local go_sem] Oper.semAt_some

def KpAll (_ _ : World) : Prop := True
/-- The degrees of terms, as an iterator yields them. -/
def termsOf (p : Nat) (l : List (Fin 64)) : Prop := l.map Fin.val = tdeg p

set_option maxRecDepth 100000 in
set_option maxHeartbeats 1000000 in
/-- The iterator yields the degrees of the terms, for every loop body. -/
theorem terms1_in (n : Nat) (hn : 1 ≤ n) (l Bn : Nat) (p : Nat) (hp : p < 18446744073709551616) (J Jx : List (Fin 64) → World → Prop)
    (hY : ∀ pre (c : Fin 64) W, J pre W → pre.length < (tdeg p).length → YieldAt Fence.wide (n - 1) Tryd.prog l #[.int .i64 (c.val : Int)] W fun e W' =>
      (e = .returned (.bool true) ∧ J (pre ++ [c]) W' ∧ KpAll W W') ∨ (e = .returned (.bool false) ∧ Jx (pre ++ [c]) W'))
    (W : World) (hBn : W.cell? ⟨Bn, 0, none⟩ = some (.int .u64 (p : Int))) (h0 : J [] W) :
    CallsIn Fence.wide n Tryd.prog 58 #[.func (.yield l) #[] #[], .pointer (some ⟨Bn, 0, none⟩)] W fun e W' => (∃ v, e = .returned v) ∧
      ((∃ ys, termsOf p ys ∧ J ys W') ∨ (∃ pre : List (Fin 64), pre.map Fin.val <+: tdeg p ∧ Jx pre W')) := by
  refine callsIn_of_wp Tryd.func58 rfl trivial ?_ rfl
  simp only [Tryd.ntmps58, List.size_toArray, List.length_cons, List.length_nil, Nat.reduceAdd, Nat.reduceSub, Array.replicate_succ, Array.replicate_zero, List.push_toArray, List.append_toArray, List.nil_append, List.cons_append]
  gi_wp2
  gi_loopw [3, 4] (fun r _ wr => ∃ (pre : List (Fin 64)) (z : Nat), z < 18446744073709551616 ∧ r = .int .u64 (z : Int) ∧ pre.map Fin.val ++ tdeg z = tdeg p ∧ J pre wr)
    (fun r _ _ => bl (intOf r).toNat)
  case atStart => exact ⟨[], p, hp, rfl, rfl, h0⟩
  case round =>
    obtain ⟨pre, z, hz, rfl, hx, hJs⟩ := hrel
    by_cases hc : z = 0
    · subst hc
      rw [tdeg_zero, List.append_nil] at hx
      have HX := Lib.hid hx
      clear hx
      gi_wp2
      go_end0
      exact ⟨⟨_, rfl⟩, .inl ⟨_, HX.out, hJs⟩⟩
    · have hn1 : ((z : Int) != 0) = true := by simpa using hc
      have hn0 : (!(z : Int) == 0) = true := by simpa using hc
      have hb := bl_64 hz
      have hbp := bl_pos hc
      have htop := top_off hc
      rw [tdeg_cons hc] at hx
      have hlt : pre.length < (tdeg p).length := by rw [← hx]; simp
      have hx2 : (pre ++ [(⟨bl z - 1, by omega⟩ : Fin 64)]).map Fin.val ++ tdeg (z ^^^ 2 ^ (bl z - 1)) = tdeg p := by rw [← hx]; simp
      obtain ⟨fn, tmps, assign, body, hy, hR⟩ := hY pre ⟨bl z - 1, by omega⟩ wr hJs hlt
      have HX := Lib.hid hx2
      clear hx hx2 hlt
      have e1 : ((bl z - 1 : Nat) : Int) = (bl z : Int) - 1 := by omega
      rw [e1] at hy
      have l2 : 2 ^ (bl z - 1) < 18446744073709551616 := (bl_le (k := 64)).1 (by rw [bl_two_pow]; omega)
      have l3 : z ^^^ 2 ^ (bl z - 1) < 18446744073709551616 := Nat.xor_lt_two_pow (n := 64) hz l2
      clear e1
      gi_wp2_with fail
      refine ⟨trivial, (callsIn_wide.2 (degree_any _ z _ rfl hz)).mono ?_⟩
      rintro e w' ⟨rfl, rfl⟩
      gi_wp2_with fail
      refine hR.mono ?_
      rintro e W3 (⟨rfl, hJ3, hk3⟩ | ⟨rfl, hJx3⟩)
      · gi_wp2
        have e2 := wrapN _ l2 ((2 : Int) ^ (bl z - 1)) (by push_cast; rfl)
        have e3 := xor_u64 _ _ hz l2 _ _ rfl rfl
        go_roundw
        case rel => exact ⟨pre ++ [⟨bl z - 1, by omega⟩], z ^^^ 2 ^ (bl z - 1), l3, by rw [e2, e3], HX.out, hJ3⟩
        case measure => rw [e2, e3]; simpa [intOf] using htop
      · gi_wp2
        refine bodyPost_ret (results_none rfl _ _ _) rfl ?_
        exact ⟨⟨_, rfl⟩, .inr ⟨pre ++ [⟨bl z - 1, by omega⟩], ⟨_, HX.out⟩, hJx3⟩⟩

set_option maxHeartbeats 1000000 in
theorem terms_in (n : Nat) (p : Int) (w : World) :
    CallsIn Fence.wide n Tryd.prog 41 #[.int .u64 p] w fun e w' => e = .returned (.func (.func 58) #[] #[.pointer (some ⟨w.heap.size, 0, none⟩)]) ∧ w' = w.alloc (.cells #[.int .u64 p] 22) := by
  refine callsIn_of_wp Tryd.func41 rfl trivial ?_ rfl
  simp only [Tryd.ntmps41, List.size_toArray, List.length_cons, List.length_nil, Nat.reduceAdd, Nat.reduceSub, Array.replicate_succ, Array.replicate_zero, List.push_toArray, List.append_toArray, List.nil_append, List.cons_append]
  gi_wp2
  go_ret
  exact ⟨rfl, rfl⟩

theorem terms_stops (n : Nat) (hn : 1 ≤ n) (Bn : Nat) (p : Nat) (hp : p < 18446744073709551616) (w : World) (hBn : Bn < w.heap.size)
    (hc : w.cell? ⟨Bn, 0, none⟩ = some (.int .u64 (p : Int))) :
    SeqStopsK Fence.wide n Tryd.prog 58 #[.pointer (some ⟨Bn, 0, none⟩)] (fun c : Fin 64 => #[Value.int .i64 (c.val : Int)]) KpAll (termsOf p) (fun pre => pre.map Fin.val <+: tdeg p) (tdeg p).length w := fun l J Jx W hW _ _ hY h0 =>
  terms1_in n hn l Bn p hp J Jx hY W ((hW.cell (p := ⟨Bn, 0, none⟩) hBn).trans hc) h0

theorem wrapM (n : Nat) (x : Int) (hx : x = (n : Int)) : IntKind.u64.wrap x = ((n % 18446744073709551616 : Nat) : Int) := by
  subst hx; rw [IntKind.wrap_u64]; omega
/-- The sum, as far as 64 bits go. -/
theorem ts_step (a : Nat) (pre : List (Fin 64)) (c : Fin 64) : (ts a (pre.map Fin.val) % 18446744073709551616) ^^^ (a * 2 ^ c.val % 18446744073709551616) = ts a ((pre ++ [c]).map Fin.val) % 18446744073709551616 := by
  have := Nat.xor_mod_two_pow (a := ts a (pre.map Fin.val)) (b := a * 2 ^ c.val) (n := 64)
  rw [List.map_append, List.map_cons, List.map_nil, ts_snoc]
  exact this.symm

set_option maxRecDepth 100000 in
set_option maxHeartbeats 2000000 in
theorem mul_in (a b : Nat) (w : World) (ha : a < 18446744073709551616) (hb : b < 18446744073709551616) (hs : bl a + bl b ≤ 65) :
    CallsIn Fence.wide 3 Tryd.prog 20 #[.int .u64 (a : Int), .int .u64 (b : Int)] w fun e w' => (∃ p : Nat, p = cm a b ∧ e = .returned (.tuple #[.int .u64 (p : Int), .int .i64 0])) ∧ Below w.heap.size w w' := by
  have hba := bl_64 ha
  have hbb := bl_64 hb
  have hsb : decide (63 < (bl a : Int) - 1 + ((bl b : Int) - 1)) = false := by simp; omega
  refine callsIn_of_wp_marks Tryd.func20 rfl trivial ?_ rfl
  simp only [Tryd.ntmps20, List.size_toArray, List.length_cons, List.length_nil, Nat.reduceAdd, Nat.reduceSub, Array.replicate_succ, Array.replicate_zero, List.push_toArray, List.append_toArray, List.nil_append, List.cons_append]
  gi_wp2_with fail
  refine ⟨trivial, (callsIn_wide.2 (degree_any _ a _ rfl ha)).mono ?_⟩
  rintro e w' ⟨rfl, rfl⟩
  gi_wp2_with fail
  refine ⟨trivial, (callsIn_wide.2 (degree_any _ b _ rfl hb)).mono ?_⟩
  rintro e w' ⟨rfl, rfl⟩
  gi_wp2_with fail
  refine ⟨trivial, (terms_in 2 _ _).mono ?_⟩
  rintro e w' ⟨rfl, rfl⟩
  gi_wp2_with fail
  have bA := Boxed.new w 22 (.int .u64 (a : Int))
  have bP := Boxed.new (w.alloc (.cells #[.int .u64 (a : Int)] 22)) 22 (.int .u64 0)
  have bN := Boxed.new ((w.alloc (.cells #[.int .u64 (a : Int)] 22)).alloc (.cells #[.int .u64 0] 22)) 22 (.int .u64 (b : Int))
  rw [World.size_alloc] at bP
  rw [World.size_alloc, World.size_alloc] at bN
  have hB0 : Below w.heap.size w (((w.alloc (.cells #[.int .u64 (a : Int)] 22)).alloc (.cells #[.int .u64 0] 22)).alloc (.cells #[.int .u64 (b : Int)] 22)) := (((Below.refl _ w).alloc (Nat.le_refl _) _).alloc (by simp) _).alloc (by simp; omega) _
  refine wpIn_rangeFunc_ownG (F := Fence.wide) (n := 3) rfl (by omega) (gf := 58) (lb := #[.pointer (some ⟨w.heap.size + 1 + 1, 0, none⟩)]) rfl trivial (enters_of Tryd.func58 (by kernel_rfl) rfl)
    (terms_stops 2 (by omega) (w.heap.size + 1 + 1) b hb _ (by simp) bN.cell) (fun _ _ => trivial) (fun _ _ _ _ _ _ _ _ => trivial) (Below.refl _ _) (fun _ => rfl)
    (fun pre W => (Boxed W w.heap.size 22 (.int .u64 (a : Int)) ∧ Boxed W (w.heap.size + 1) 22 (.int .u64 ((ts a (pre.map Fin.val) % 18446744073709551616 : Nat) : Int))) ∧ Below w.heap.size w W)
    (fun _ _ _ => False)
    (OwnFrom.and (OwnFrom.and (Own.from (boxed_own w.heap.size 22 (fun _ => .int .u64 (a : Int))) _) (Own.from (boxed_own (w.heap.size + 1) 22 (fun pre : List (Fin 64) => .int .u64 ((ts a (pre.map Fin.val) % 18446744073709551616 : Nat) : Int))) _)) (ownFrom_below (w₀ := w) (Nat.le_refl _) (by simp; omega)))
    (fun _ _ _ _ _ hs _ _ => hs)
    ⟨⟨(bA.alloc _).alloc _, bP.alloc _⟩, hB0⟩
    (fun c => { tmps := #[.int .u64 (a : Int), .int .u64 (b : Int), .pointer (some ⟨w.heap.size, 0, none⟩), undef, .int .u64 0, .int .i64 0, .pointer (some ⟨w.heap.size + 1, 0, none⟩), .int .i64 (c.val : Int), .int .u64 (a : Int), .int .i64 ((bl a : Int) - 1), .int .u64 (b : Int), .int .i64 ((bl b : Int) - 1), .int .i64 ((bl a : Int) - 1 + ((bl b : Int) - 1)), .bool false, .int .u64 (b : Int), .func (.func 58) #[] #[.pointer (some ⟨w.heap.size + 1 + 1, 0, none⟩)], .int .i64 (c.val : Int), undef, undef, undef, undef, undef, undef], defers := [] }) ?assign ?body ?done ?stop
  case assign =>
    intro l c W K hK
    gi_wp2
    exact hK
  case body =>
    rintro l pre c W ⟨⟨hA, hP⟩, hB⟩ hlt
    have hst := ts_step a pre c
    have hP64 : ts a (pre.map Fin.val) % 18446744073709551616 < 18446744073709551616 := Nat.mod_lt _ (by omega)
    obtain ⟨P, hPe⟩ : ∃ P, P = ts a (pre.map Fin.val) % 18446744073709551616 := ⟨_, rfl⟩
    rw [← hPe] at hP hst hP64
    have HST := Lib.hid hst
    clear hst hPe
    have hcA := hA.cell
    have hcP := hP.cell
    have hfP := hP.frozen
    have hc0 : 0 ≤ (c.val : Int) := by omega
    have e1 : IntKind.u64.wrap ((a : Int) * 2 ^ c.val) = ((a * 2 ^ c.val % 18446744073709551616 : Nat) : Int) := wrapM (a * 2 ^ c.val) _ (by rw [Int.natCast_mul, Int.natCast_pow]; rfl)
    have e2 := xor_u64 P (a * 2 ^ c.val % 18446744073709551616) hP64 (Nat.mod_lt _ (by omega)) _ _ rfl rfl
    have E1 := Lib.hid e1
    have E2 := Lib.hid e2
    clear e1 e2
    gi_wp2
    gi_region
    all_goals
      rw [E1.out, E2.out, HST.out]
      refine ⟨((KeepsOthers.setCell W _ _).trans (KeepsOthers.drew _)).from _, trivial, ⟨?_, ?_⟩, ?_⟩
      · exact hA.other (by omega) _
      · exact hP.set _
      · exact (hB.setCell (by simp) _).drew
  case done =>
    rintro D ys W hD hys ⟨⟨hA, hP⟩, hB⟩ hK
    have hcP := hP.cell
    gi_wp2
    refine ⟨by simp, .inl ⟨_, _, rfl, run_takeDeferred hK, ?_⟩⟩
    have hD' : w.heap.size ≤ D := by simp at hD; omega
    have ht : ts a (ys.map Fin.val) % 18446744073709551616 = cm a b := by
      rw [show ys.map Fin.val = tdeg b from hys, ts_tdeg]
      refine Nat.mod_eq_of_lt ((bl_le (k := 64)).1 ?_)
      by_cases h1 : a = 0
      · subst h1; simp
      · by_cases h2 : b = 0
        · subst h2; simp
        · have := (bl_cm h1 h2).1; omega
    refine ⟨_, results_tmp2 rfl _ _ _, ⟨cm a b, rfl, ?_⟩, hB.trans (belowK_b (w := w) (Nat.le_refl _) W D _ _ hD' hK rfl rfl)⟩
    rw [← ht]; rfl
  case stop =>
    rintro D c pre W _ _ h _
    exact h.elim

/-- The product, whatever else its memory is. -/
theorem mul_any (x y : Int) (a b : Nat) (w : World) (hx : x = (a : Int)) (hy : y = (b : Int)) (ha : a < 18446744073709551616) (hb : b < 18446744073709551616) (hs : bl a + bl b ≤ 65) :
    Calls Tryd.prog 20 #[.int .u64 x, .int .u64 y] w fun e w' => e = .returned (.tuple #[.int .u64 ((cm a b : Nat) : Int), .int .i64 0]) ∧ Below w.heap.size w w' := by
  subst hx hy
  refine (callsIn_wide.1 (mul_in a b w ha hb hs)).mono ?_
  rintro e w' ⟨⟨p, rfl, rfl⟩, hB⟩
  exact ⟨rfl, hB⟩

set_option maxHeartbeats 1000000 in
theorem mul_long (x y : Int) (a b : Nat) (w : World) (hx : x = (a : Int)) (hy : y = (b : Int)) (ha : a < 18446744073709551616) (hb : b < 18446744073709551616) (hs : 65 < bl a + bl b) :
    Calls Tryd.prog 20 #[.int .u64 x, .int .u64 y] w fun e w' => e = .returned (.tuple #[.int .u64 0, .int .i64 3]) ∧ Below w.heap.size w w' := by
  subst hx hy
  have hba := bl_64 ha
  have hbb := bl_64 hb
  have hsb : decide (63 < (bl a : Int) - 1 + ((bl b : Int) - 1)) = true := by simp; omega
  go_enter Tryd.func20, Tryd.ntmps20
  go_wp2_with fail
  refine (degree_any _ a _ rfl ha).mono ?_
  rintro e w' ⟨rfl, rfl⟩
  go_wp2_with fail
  refine (degree_any _ b _ rfl hb).mono ?_
  rintro e w' ⟨rfl, rfl⟩
  go_wp2_with fail
  go_ret2
  exact ⟨rfl, (Below.refl _ _).alloc (Nat.le_refl _) _⟩
end Go.Proofs.YtjajojdlgpmpfaaDoor
