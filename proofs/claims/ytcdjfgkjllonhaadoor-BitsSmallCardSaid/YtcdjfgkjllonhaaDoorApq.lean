/-
  append of any slice to a row that the call owns, as a step of a region that draws its order. No condition but those in the statement.
-/
import Derived.Test.YtcdjfgkjllonhaaDoorApp
import Derived.Test.YtcdjfgkjllonhaaDoorStr
import Derived.Deep.AppendLies
import Derived.Deep.RegionHeldLaw
namespace Go.Proofs.YtcdjfgkjllonhaaDoor
open Go.RowKit

theorem step_append_onsl {P : Program} (w : World) {ops : Array Oper} {o : Oper} {a : Act} {K : Act → World → Prop} {Q : Exit → Act → World → Prop} {E : Prop}
    (hg : o.guard = none) (s x : Operand) (t : TypeId) (hop : o.op = Op.call { callee := Callee.builtin Builtin.append, args := #[s, x], argTypes := #[t, t] })
    (k : IntKind) (base : Nat) (e : TypeId) (i : TypeInfo) (bytes : Nat) (h1 : P.underlying t = some (.slice e)) (h2 : P.info? e = some i) (h3 : i.zero = some (.int k 0)) (h4 : i.size = 1) (h5 : i.bytes = bytes)
    (v : Value) (l1 : List Int) (a2 : Option Addr) (m c : Nat) (l2 : List Int) (hs : a.eval s = v) (hx : a.eval x = .slice a2 m c) (s1 : w.ownsRow base e 1 v l1.length (l1.map (Value.int k))) (s2 : Sl k w a2 m c l2)
    (b1 : l1.length + m ≤ maxLen) (b2 : (l1.length + m) * bytes ≤ 140737488355328) (b3 : base ≤ w.heap.size)
    (hK : ∀ v' w', w'.ownsRow base e 1 v' (l1 ++ l2).length ((l1 ++ l2).map (Value.int k)) → w.grownBy w' v.ownBlock → K (a.put o.dst v') w') :
    if Region.wanted o (yielded ops a.tmps) = true then Oper.wp P o a w K Q else E := by
  have hw : Region.wanted o (yielded ops a.tmps) = true := by simp [Region.wanted, hg]
  rw [if_pos hw]
  by_cases hm : m = 0
  · subst hm
    obtain ⟨a1, cap1, rfl⟩ := own_shape s1
    have hcap : l1.length ≤ cap1 := (own_sl s1).2.1
    have hrun := run_append_zero (P := P) w t o.type e i h1 h2 a1 a2 l1.length cap1 c hcap
    unfold Oper.wp
    simp [execOp, hop, resolve, invoke, builtin, hs, hx, hrun, Result.andThen]
    have hl2 : l2 = [] := List.eq_nil_of_length_eq_zero s2.1
    subst hl2
    exact hK _ w (by simpa using s1) (World.grownBy.refl _ _)
  · have s2' := s2
    obtain ⟨e1, e2, e3, e4⟩ := s2
    rcases e4 with ⟨e5, _⟩ | ⟨b, off, rfl, hlt, hc⟩
    · omega
    exact wp_append_lies w s x t hop base e i (.int k 0) 1 bytes h1 h2 h3 h4 h5 rfl (by decide) v l1.length (l1.map (Value.int k)) hs s1 ⟨b, off, none⟩ m c (l2.map (Value.int k)) hx (by simp [e1]) (s2'.olds (by omega)) (ints_one k l2) (by omega) b1 b2 b3 w.heap.size rfl
      (fun g cap w' hown hgrow _ _ => hK _ w' (by rw [List.length_append, e1, List.map_append]; exact hown) hgrow)

theorem own_empty (w : World) (e : TypeId) (base : Nat) (hb : base ≤ w.heap.size) : (w.alloc (.cells #[] e)).ownsRow base e 1 (.slice (some ⟨w.heap.size, 0, none⟩) 0 0) 0 [] :=
  ⟨rfl, .inr ⟨w.heap.size, 0, #[], rfl, hb, heap_alloc_new w _, Nat.le_refl _, by decide, by simp, by simp⟩⟩
end Go.Proofs.YtcdjfgkjllonhaaDoor
