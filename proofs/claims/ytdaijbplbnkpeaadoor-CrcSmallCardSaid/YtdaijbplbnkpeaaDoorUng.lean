/-
  An append onto a row of the call's own that tells where the new slice lies; an operation that is guarded, and wanted, goes as the one without its guard. No condition but those in each statement.
-/
import Derived.Test.YtdaijbplbnkpeaaDoorApz
import Derived.Deep.AppendLies
namespace Go.Proofs.YtdaijbplbnkpeaaDoor
open Go.RowKit

theorem wpList_unguard {P : Program} {ops : Array Oper} {rest : List Oper} {o : Oper} {a : Act} {w : World} {Q : Exit → Act → World → Prop}
    (hg : Region.wanted o (yielded ops a.tmps) = true) (h : wpList P ops Q ({ o with guard := none } :: rest) a w) : wpList P ops Q (o :: rest) a w := by
  unfold wpList at h ⊢
  rw [if_pos hg]
  simp only [Region.wanted] at h
  exact h
theorem own_shape_at {w : World} {base : Nat} {e : TypeId} {s : Nat} {v : Value} {n : Nat} {xs : List Value} (h : w.ownsRow base e s v n xs) (hb : v.ownBlock ≠ none) : ∃ g cap, v = .slice (some ⟨g, 0, none⟩) n cap ∧ base ≤ g := by
  rcases h.2 with ⟨rfl, rfl⟩ | ⟨g, cap, cur, rfl, hg, _⟩
  · exact absurd rfl hb
  · exact ⟨g, cap, rfl, hg⟩

/-- 'append(v, b...)', v the call's own, b whatever; and where the new slice lies. -/
theorem wpList_append_onat {P : Program} (w : World) {ops : Array Oper} {rest : List Oper} {o : Oper} {a : Act} {Q : Exit → Act → World → Prop}
    (hg : o.guard = none) (s x : Operand) (t : TypeId) (hop : o.op = Op.call { callee := Callee.builtin Builtin.append, args := #[s, x], argTypes := #[t, t] })
    (k : IntKind) (base : Nat) (e : TypeId) (i : TypeInfo) (bytes : Nat) (h1 : P.underlying t = some (.slice e)) (h2 : P.info? e = some i) (h3 : i.zero = some (.int k 0)) (h4 : i.size = 1) (h5 : i.bytes = bytes)
    (v : Value) (l1 : List Int) (a2 : Option Addr) (m c : Nat) (l2 : List Int) (hs : a.eval s = v) (hx : a.eval x = .slice a2 m c) (s1 : w.ownsRow base e 1 v l1.length (l1.map (Value.int k))) (s2 : Sl k w a2 m c l2)
    (b1 : l1.length + m ≤ maxLen) (b2 : (l1.length + m) * bytes ≤ 140737488355328) (b3 : base ≤ w.heap.size)
    (hK : ∀ v' w', w'.ownsRow base e 1 v' (l1 ++ l2).length ((l1 ++ l2).map (Value.int k)) → w.grownBy w' v.ownBlock → (v'.ownBlock = v.ownBlock ∨ v'.ownBlock = some w.heap.size) → wpList P ops Q rest (a.put o.dst v') w') :
    wpList P ops Q (o :: rest) a w := by
  by_cases hm : m = 0
  · subst hm
    obtain ⟨a1, cap1, rfl⟩ := own_shape s1
    have hcap : l1.length ≤ cap1 := (own_sl s1).2.1
    refine wpList_plain hg fun K hK' => ?_
    have hrun := run_append_zero (P := P) w t o.type e i h1 h2 a1 a2 l1.length cap1 c hcap
    unfold Oper.wp
    simp [execOp, hop, resolve, invoke, builtin, hs, hx, hrun, Result.andThen]
    have hl2 : l2 = [] := List.eq_nil_of_length_eq_zero s2.1
    subst hl2
    exact hK' _ _ (hK _ w (by simpa using s1) (World.grownBy.refl _ _) (.inl rfl))
  · have s2' := s2
    obtain ⟨e1, e2, e3, e4⟩ := s2
    rcases e4 with ⟨e5, _⟩ | ⟨b, off, rfl, hlt, hc⟩
    · omega
    refine wpList_plain hg fun K hK' => ?_
    exact wp_append_lies w s x t hop base e i (.int k 0) 1 bytes h1 h2 h3 h4 h5 rfl (by decide) v l1.length (l1.map (Value.int k)) hs s1 ⟨b, off, none⟩ m c (l2.map (Value.int k)) hx (by simp [e1]) (s2'.olds (by omega)) (ints_one k l2) (by omega) b1 b2 b3 w.heap.size rfl
      (fun g cap w' hown hgrow hat _ => hK' _ _ (hK _ w' (by rw [List.length_append, e1, List.map_append]; exact hown) hgrow (by rcases hat with h | h; exact .inl h.symm; exact .inr (by rw [h]; rfl))))

end Go.Proofs.YtdaijbplbnkpeaaDoor
