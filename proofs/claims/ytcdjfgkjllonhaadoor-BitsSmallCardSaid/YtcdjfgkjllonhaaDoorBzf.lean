/-
  The contract of bits' members: the iterator yields the members of a set, one after the other, for every loop body that leaves the set's words as they are.
-/
import Derived.RangeFuncBox
import Derived.RangeFuncLeaves
import Derived.RangeFuncWrites
import Derived.RangeFuncCalls
import Derived.RangeFuncNested
import Derived.Shelf.Abstract
import Derived.WalkKit
import Derived.OwnWalkIn
import Derived.TacticsInMore
import Derived.LoopNIn
import Derived.LoopIn
import Derived.Maps.AppendAt
import Derived.Test.YtcdjfgkjllonhaaDoorBze
namespace Go.Proofs.YtcdjfgkjllonhaaDoor
open Go.RowKit Go.Shelf

attribute [local go_sem] Oper.semAt_some

theorem grown_of {w w' : World} (h : Below w.heap.size w w') (row : Option Nat) : w.grownBy w' row := ⟨h.os, h.tape, h.output, h.size, fun k hk _ => h.block k hk⟩
theorem abide {β : Type} {B : Nat} {J : β → World → Prop} (h : AbidesFrom B J) {s : β} {W W' : World} (hs : J s W) (hb : Below W.heap.size W W') : J s W' :=
  h s W W' none hs (grown_of hb none) (fun _ e => by cases e)
/-- The members, as an iterator yields them. -/
def memsOf (E : List Int) (ys : List (Fin 65536)) : Prop := ys.map Fin.val = all E

set_option maxRecDepth 100000 in
set_option maxHeartbeats 2000000 in
theorem members1_in (n : Nat) (hn : 1 ≤ n) (y Bn : Nat) (wb : World) (N : Int) (a : Option Addr) (k c : Nat) (l : List Int) (hset : SetIn wb N a k c l) (J Jx : List (Fin 65536) → World → Prop)
    (W : World) (hA : AbidesFrom W.heap.size J)
    (hY : ∀ pre (x : Fin 65536) W, J pre W → pre.length < (all (ef N l)).length → YieldAt Fence.wide (n - 1) Tryd.prog y #[.int .i64 (x.val : Int)] W fun e W' =>
      (e = .returned (.bool true) ∧ J (pre ++ [x]) W' ∧ Below wb.heap.size W W') ∨ (e = .returned (.bool false) ∧ Jx (pre ++ [x]) W'))
    (hB : Below wb.heap.size wb W) (c0 : W.cell? ⟨Bn, 0, none⟩ = some (.int .i64 N)) (c1 : W.cell? ⟨Bn, 1, none⟩ = some (.slice a k c)) (h0 : J [] W) :
    CallsIn Fence.wide n Tryd.prog 76 #[.func (.yield y) #[] #[], .pointer (some ⟨Bn, 0, none⟩)] W fun e W' => (∃ v, e = .returned v) ∧
      ((∃ ys, memsOf (ef N l) ys ∧ J ys W') ∨ (∃ pre : List (Fin 65536), pre.map Fin.val <+: all (ef N l) ∧ Jx pre W')) := by
  have hW := words_any W N a k c l (hset.below hB)
  have hEl := efw_len N l
  have hEw := hset.wds.ef N
  have hTb := hset.tab
  have hSl := hset.sl
  obtain ⟨E, hE⟩ : ∃ E, E = ef N l := ⟨_, rfl⟩
  rw [← hE] at hW hEl hEw hY ⊢
  clear hE hset
  refine callsIn_of_wp Tryd.func76 rfl trivial ?_ rfl
  simp only [Tryd.ntmps76, List.size_toArray, List.length_cons, List.length_nil, Nat.reduceAdd, Nat.reduceSub, Array.replicate_succ, Array.replicate_zero, List.push_toArray, List.append_toArray, List.nil_append, List.cons_append]
  gi_wp2_with fail
  refine ⟨trivial, (callsIn_wide.2 hW).mono ?_⟩
  rintro e W1 ⟨a', n', c', rfl, hs, hB1, hall⟩
  have hJ1 := abide hA h0 hB1
  have hB2 : Below wb.heap.size wb W1 := hB.trans (hB1.mono hB.size)
  have HLN := Lib.hid hs.1
  have hc1 := hs.2.1
  have hc2 := hs.2.2.1
  have hnb : n' ≤ 1024 := by have := hs.1; omega
  have HALL := Lib.hid (fun W (hb : Below wb.heap.size wb W) => hall W (hSl.below hb))
  have HTAB := Lib.hid (fun W (hb : Below wb.heap.size wb W) => hTb.step hb)
  have HA := Lib.hid hA
  have HY := Lib.hid hY
  clear hW hB hB1 hTb hs hall hSl h0 hA hY c0 c1
  gi_wp2_with fail
  gi_loopw [8] (fun X wr => ∃ (j : Nat) (pre : List (Fin 65536)), j ≤ n' ∧ X = .int .i64 (j : Int) ∧ pre.map Fin.val = mem (64 * j) E ∧ J pre wr ∧ Below wb.heap.size wb wr) (fun X _ => n' - (intOf X).toNat)
  case atStart => exact ⟨0, [], by omega, rfl, rfl, hJ1, hB2⟩
  case round =>
    obtain ⟨j, pre, hj, rfl, hpre, hJ, hBr⟩ := hrel
    by_cases hlt : j < n'
    · have hs := HALL.out wr hBr
      obtain ⟨b, off, rfl, hc⟩ := hs.view (by omega)
      have hcell := hc j hlt
      rw [wd_eq hEw j] at hcell
      have hx := wd_lt hEw j
      obtain ⟨v, hv⟩ : ∃ v, v = wd E j := ⟨_, rfl⟩
      rw [← hv] at hcell hx
      have HV := Lib.hid hv
      have i1 : (j : Int) < (n' : Int) := by omega
      have HP := Lib.hid hpre
      have hjb : j ≤ 1023 := by omega
      clear hv hc hs hpre
      gi_wp2_with fail
      gi_loopw [4] (fun V wr => ∃ (z v : Nat) (pre : List (Fin 65536)), V = .int .u64 (v : Int) ∧ Left (wd E j) z v ∧ z ≤ 64 ∧ pre.map Fin.val = mem (64 * j + z) E ∧ J pre wr ∧ Below wb.heap.size wb wr) (fun V _ => (intOf V).toNat)
      case atStart => exact ⟨0, v, pre, rfl, by rw [← HV.out]; exact Left.zero hx, by omega, HP.out, hJ, hBr⟩
      case round =>
        obtain ⟨z, u, pre, rfl, hL, hz, hpre, hJ, hBr⟩ := hrel
        have hu64 := hL.1
        by_cases hu0 : u = 0
        · subst hu0
          have hd := hL.done hz
          rw [← hpre] at hd
          have HD := Lib.hid hd
          have hne : ((((0 : Nat) : Int)) != 0) = false := rfl
          clear hd hpre hL
          gi_wp2_with fail
          go_roundw
          case rel => exact ⟨j + 1, pre, by omega, by go_num, HD.out.symm, hJ, hBr⟩
          case measure => simp [intOf]; omega
        · have hne : ((u : Int) != 0) = true := by simpa using hu0
          obtain ⟨t, ht, ht64, hmem, hbit, hLn, hlt2⟩ := hL.step hu0
          have hpl : pre.length < (all E).length := by
            have h1 := congrArg List.length hpre
            rw [List.length_map] at h1
            have h2 := rk_le_all E (64 * j + t + 1)
            have h3 : (mem (64 * j + t + 1) E).length = rk E (64 * j + t + 1) := rfl
            rw [hmem, List.length_append, List.length_singleton] at h3
            omega
          have hxl : 64 * j + t < 65536 := by omega
          have hpre2 : (pre ++ [(⟨64 * j + t, hxl⟩ : Fin 65536)]).map Fin.val = mem (64 * j + (t + 1)) E := by
            rw [List.map_append, List.map_cons, List.map_nil, hpre, ← Nat.add_assoc, hmem]
          obtain ⟨fn, tmps, assign, body, hy, hR⟩ := HY.out pre ⟨64 * j + t, hxl⟩ wr hJ hpl
          have e1 : ((64 * j + t : Nat) : Int) = 64 * (j : Int) + (t : Int) := by push_cast; rfl
          simp only [e1] at hy
          have hTw := HTAB.out wr hBr
          have qc := ctz_any u wr hTw hu0 hu64
          rw [ht] at qc
          have qd := fun W => withoutLowest_any u W hu64
          obtain ⟨u2, hu2⟩ : ∃ u2, u2 = dl u := ⟨_, rfl⟩
          rw [← hu2] at qd hLn hlt2
          have HPX := Lib.hid (And.intro hpre2 hLn)
          clear hpre2 hLn e1 hmem hbit hpre hL hpl hu2 ht hJ hTw
          gi_wp2_with fail
          refine ⟨trivial, (callsIn_wide.2 qc).mono ?_⟩
          rintro e w' ⟨rfl, rfl⟩
          gi_wp2_with fail
          refine hR.mono ?_
          rintro e W3 (⟨rfl, hJ3, hk3⟩ | ⟨rfl, hJx3⟩)
          · have hB3 := hBr.trans hk3
            gi_wp2_with fail
            refine ⟨trivial, (callsIn_wide.2 (qd _)).mono ?_⟩
            rintro e w' ⟨rfl, rfl⟩
            gi_wp2_with fail
            go_roundw
            case rel => exact ⟨t + 1, u2, _, rfl, HPX.out.2, by omega, HPX.out.1, hJ3, hB3⟩
            case measure => simp [intOf]; omega
          · gi_wp2_with fail
            refine bodyPost_ret (results_none rfl _ _ _) rfl ?_
            refine ⟨⟨_, rfl⟩, .inr ⟨_, ?_, hJx3⟩⟩
            rw [HPX.out.1]
            obtain ⟨s, hs, _⟩ := mem_part E (n := 64 * E.length) (m := 64 * j + (t + 1)) (by have := HLN.out; omega)
            exact ⟨s, hs.symm⟩
    · obtain rfl : j = n' := by omega
      have hend : memsOf E pre := by
        unfold memsOf
        rw [hpre, ← HLN.out]; rfl
      have HE := Lib.hid hend
      clear hend hpre
      gi_wp2_with fail
      go_end0
      exact ⟨⟨_, rfl⟩, .inl ⟨_, HE.out, hJ⟩⟩

set_option maxHeartbeats 1000000 in
theorem members_in (n : Nat) (N : Int) (a : Option Addr) (k c : Nat) (w : World) :
    CallsIn Fence.wide n Tryd.prog 62 #[.agg #[.int .i64 N, .slice a k c]] w fun e w' => e = .returned (.func (.func 76) #[] #[.pointer (some ⟨w.heap.size, 0, none⟩)]) ∧ w' = w.alloc (.cells #[.int .i64 N, .slice a k c] 24) := by
  refine callsIn_of_wp Tryd.func62 rfl trivial ?_ rfl
  simp only [Tryd.ntmps62, List.size_toArray, List.length_cons, List.length_nil, Nat.reduceAdd, Nat.reduceSub, Array.replicate_succ, Array.replicate_zero, List.push_toArray, List.append_toArray, List.nil_append, List.cons_append]
  gi_wp2
  go_ret
  exact ⟨rfl, rfl⟩

theorem members_stops (n : Nat) (hn : 1 ≤ n) (Bn : Nat) (wb : World) (N : Int) (a : Option Addr) (k c : Nat) (l : List Int) (hset : SetIn wb N a k c l) (w : World) (hB : Below wb.heap.size wb w)
    (c0 : w.cell? ⟨Bn, 0, none⟩ = some (.int .i64 N)) (c1 : w.cell? ⟨Bn, 1, none⟩ = some (.slice a k c)) :
    SeqStopsK Fence.wide n Tryd.prog 76 #[.pointer (some ⟨Bn, 0, none⟩)] (fun x : Fin 65536 => #[Value.int .i64 (x.val : Int)]) (Below wb.heap.size) (memsOf (ef N l)) (fun pre => pre.map Fin.val <+: all (ef N l)) (all (ef N l)).length w :=
  fun y J Jx W hW hJ _ hY h0 =>
    members1_in n hn y Bn wb N a k c l hset J Jx W hJ hY (hB.trans (hW.mono hB.size))
      ((hW.cell (p := ⟨Bn, 0, none⟩) (World.block_lt_of_cell? _ _ c0)).trans c0) ((hW.cell (p := ⟨Bn, 1, none⟩) (World.block_lt_of_cell? _ _ c1)).trans c1) h0
end Go.Proofs.YtcdjfgkjllonhaaDoor
