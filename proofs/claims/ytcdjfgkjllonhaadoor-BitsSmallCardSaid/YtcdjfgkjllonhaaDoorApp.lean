/-
  Two laws on appending one slice of integers to another one: where the first slice has no spare room, and where nothing is appended. No condition but those in each statement.
-/
import Derived.Test.YtcdjfgkjllonhaaDoorOwn
namespace Go.Proofs.YtcdjfgkjllonhaaDoor
open Go.RowKit

theorem run_append_zero {P : Program} (w : World) (t ty e : TypeId) (i : TypeInfo) (ht : P.underlying t = some (.slice e)) (hi : P.info? e = some i) (a b : Option Addr) (n cap c : Nat) (hn : n ≤ cap) :
    (Builtin.append_ #[t, t] ty #[.slice a n cap, .slice b 0 c]).run P w = .ok (.slice a n cap) w := by
  cases a <;> cases b <;> simp [Builtin.append_, run_underlying ht, sizeOf, typeInfo, hi, Builtin.lenOf, Builtin.firstCells, loadCells, loadCellsFrom, storeCells, hn]

theorem Sl.olds {k : IntKind} {w : World} {b off len cap : Nat} {l : List Int} (h : Sl k w (some ⟨b, off, none⟩) len cap l) (h0 : 0 < len) : ∀ j u, (l.map (Value.int k))[j]? = some u → w.cell? ((⟨b, off, none⟩ : Addr).add j) = some u := by
  intro j u hj
  obtain ⟨h1, _, _, h4⟩ := h
  have hlt : j < l.length := by
    have := (List.getElem?_eq_some_iff.1 hj).1
    simpa using this
  rcases h4 with ⟨h5, _⟩ | ⟨b', off', ha, _, hc⟩
  · omega
  · cases ha
    have hx := hc j (by omega)
    have e0 : (⟨b, off, none⟩ : Addr).add j = ⟨b, off + j, none⟩ := by cases j <;> simp [Addr.add]
    rw [e0, hx]
    simp [List.getElem?_eq_getElem hlt] at hj
    simp [List.getElem?_eq_getElem hlt, hj]

theorem ints_one (k : IntKind) (l : List Int) : ∀ u ∈ l.map (Value.int k), u.oneCell' = true := by
  intro u hu
  obtain ⟨n, _, rfl⟩ := List.mem_map.1 hu
  rfl

/-- What is owned stays owned behind a call that changes nothing that was there. -/
theorem ownsRow_below {w w' : World} {base : Nat} {e : TypeId} {size : Nat} {v : Value} {n : Nat} {xs : List Value} (h : w.ownsRow base e size v n xs) (hb : Below w.heap.size w w') : w'.ownsRow base e size v n xs := by
  obtain ⟨h1, h2⟩ := h
  refine ⟨h1, ?_⟩
  rcases h2 with h2 | ⟨g, cap, cur, hv, hg, hh, r⟩
  · exact .inl h2
  · exact .inr ⟨g, cap, cur, hv, hg, by rw [hb.block g (Array.getElem?_eq_some_iff.1 hh).1]; exact hh, r⟩

/-- 'append(a, b...)' where a has no spare room, as one operation. -/
theorem wp_append_full {P : Program} (w : World) {o : Oper} {a : Act} {K : Act → World → Prop} {Q : Exit → Act → World → Prop}
    (s x : Operand) (t : TypeId) (hop : o.op = Op.call { callee := Callee.builtin Builtin.append, args := #[s, x], argTypes := #[t, t] })
    (k : IntKind) (e : TypeId) (i : TypeInfo) (bytes : Nat) (h1 : P.underlying t = some (.slice e)) (h2 : P.info? e = some i) (h3 : i.zero = some (.int k 0)) (h4 : i.size = 1) (h5 : i.bytes = bytes)
    (a1 a2 : Option Addr) (n m c : Nat) (l1 l2 : List Int) (hs : a.eval s = .slice a1 n n) (hx : a.eval x = .slice a2 m c) (s1 : Sl k w a1 n n l1) (s2 : Sl k w a2 m c l2)
    (b1 : n + m ≤ maxLen) (b2 : (n + m) * bytes ≤ 140737488355328)
    (hK : ∀ a' c' w', Sl k w' a' (n + m) c' (l1 ++ l2) → Below w.heap.size w w' → K (a.put o.dst (.slice a' (n + m) c')) w') :
    o.wp P a w K Q := by
  by_cases hm : m = 0
  · subst hm
    have hrun := run_append_zero (P := P) w t o.type e i h1 h2 a1 a2 n n c (Nat.le_refl _)
    unfold Oper.wp
    simp [execOp, hop, resolve, invoke, builtin, hs, hx, hrun, Result.andThen]
    have hl2 : l2 = [] := List.eq_nil_of_length_eq_zero s2.1
    subst hl2
    exact hK a1 n w (by simpa using s1) (Below.refl _ _)
  · have s2' := s2
    obtain ⟨e1, e2, e3, e4⟩ := s2
    rcases e4 with ⟨e5, _⟩ | ⟨b, off, rfl, hlt, hc⟩
    · omega
    have hfin : ∀ v' w', w'.ownsRow w.heap.size e 1 v' (n + m) (l1.map (Value.int k) ++ l2.map (Value.int k)) → w.grownBy w' none → K (a.put o.dst v') w' := by
      intro v' w' hown hgrow
      obtain ⟨a', c', rfl⟩ := own_shape hown
      exact hK a' c' w' (own_sl (by simpa using hown)) ((Below.refl _ _).grown hgrow (Nat.le_refl _) (fun _ hk => by cases hk))
    have hold : ∀ ad, a1 = some ad → ∀ j u, (l1.map (Value.int k))[j]? = some u → w.cell? (ad.add j) = some u := by
      rintro ad rfl j u hj
      have hlt : j < l1.length := by
        have := (List.getElem?_eq_some_iff.1 hj).1
        simpa using this
      have hn : 0 < n := by have := s1.1; omega
      obtain ⟨b', off', ha, _⟩ := s1.view hn
      cases ha
      exact s1.olds hn j u hj
    cases a1 with
    | none =>
      have hn0 : n = 0 := by
        rcases s1.2.2.2 with ⟨d5, _⟩ | ⟨_, _, d, _⟩
        · exact d5
        · cases d
      subst hn0
      have hl1 : l1 = [] := List.eq_nil_of_length_eq_zero s1.1
      subst hl1
      obtain ⟨v', w', hrun, r1, r2, _⟩ := run_append_own (P := P) w w.heap.size t o.type e i (.int k 0) 1 bytes h1 h2 h3 h4 h5 rfl (by decide) (.slice none 0 0) 0 [] (World.ownsRow_nil w _ e 1) ⟨b, off, none⟩ m c (l2.map (Value.int k)) (by simp [e1]) (s2'.olds (by omega)) (ints_one k l2) b1 b2 (Nat.le_refl _)
      unfold Oper.wp
      simp [execOp, hop, resolve, invoke, builtin, hs, hx, hrun, Result.andThen]
      exact hfin v' w' (by simpa using r1) r2
    | some ad =>
      obtain ⟨v', w', hrun, r1, r2⟩ := run_append_arg_grows (P := P) w t o.type e i (.int k 0) 1 bytes h1 h2 h3 h4 h5 rfl (by decide) ad n n (l1.map (Value.int k)) (by simp [s1.1]) (hold ad rfl) ⟨b, off, none⟩ m c (l2.map (Value.int k)) (by simp [e1]) (s2'.olds (by omega)) (by omega) b1 b2
      unfold Oper.wp
      simp [execOp, hop, resolve, invoke, builtin, hs, hx, hrun, Result.andThen]
      exact hfin v' w' r1 r2

/-- 'append(a, b...)' where a has no spare room. -/
theorem wpList_append_full {P : Program} (w : World) {ops : Array Oper} {rest : List Oper} {o : Oper} {a : Act} {Q : Exit → Act → World → Prop}
    (hg : o.guard = none) (s x : Operand) (t : TypeId) (hop : o.op = Op.call { callee := Callee.builtin Builtin.append, args := #[s, x], argTypes := #[t, t] })
    (k : IntKind) (e : TypeId) (i : TypeInfo) (bytes : Nat) (h1 : P.underlying t = some (.slice e)) (h2 : P.info? e = some i) (h3 : i.zero = some (.int k 0)) (h4 : i.size = 1) (h5 : i.bytes = bytes)
    (a1 a2 : Option Addr) (n m c : Nat) (l1 l2 : List Int) (hs : a.eval s = .slice a1 n n) (hx : a.eval x = .slice a2 m c) (s1 : Sl k w a1 n n l1) (s2 : Sl k w a2 m c l2)
    (b1 : n + m ≤ maxLen) (b2 : (n + m) * bytes ≤ 140737488355328)
    (hK : ∀ a' c' w', Sl k w' a' (n + m) c' (l1 ++ l2) → Below w.heap.size w w' → wpList P ops Q rest (a.put o.dst (.slice a' (n + m) c')) w') :
    wpList P ops Q (o :: rest) a w :=
  wpList_plain hg fun _ hK' => wp_append_full w s x t hop k e i bytes h1 h2 h3 h4 h5 a1 a2 n m c l1 l2 hs hx s1 s2 b1 b2 fun a' c' w' r1 r2 => hK' _ _ (hK a' c' w' r1 r2)

/-- The same where the operation is guarded, and wanted. -/
theorem wpList_append_wanted {P : Program} (w : World) {ops : Array Oper} {rest : List Oper} {o : Oper} {a : Act} {Q : Exit → Act → World → Prop}
    (hg : Region.wanted o (yielded ops a.tmps) = true) (s x : Operand) (t : TypeId) (hop : o.op = Op.call { callee := Callee.builtin Builtin.append, args := #[s, x], argTypes := #[t, t] })
    (k : IntKind) (e : TypeId) (i : TypeInfo) (bytes : Nat) (h1 : P.underlying t = some (.slice e)) (h2 : P.info? e = some i) (h3 : i.zero = some (.int k 0)) (h4 : i.size = 1) (h5 : i.bytes = bytes)
    (a1 a2 : Option Addr) (n m c : Nat) (l1 l2 : List Int) (hs : a.eval s = .slice a1 n n) (hx : a.eval x = .slice a2 m c) (s1 : Sl k w a1 n n l1) (s2 : Sl k w a2 m c l2)
    (b1 : n + m ≤ maxLen) (b2 : (n + m) * bytes ≤ 140737488355328)
    (hK : ∀ a' c' w', Sl k w' a' (n + m) c' (l1 ++ l2) → Below w.heap.size w w' → wpList P ops Q rest (a.put o.dst (.slice a' (n + m) c')) w') :
    wpList P ops Q (o :: rest) a w :=
  wpList_step fun _ hK' => by
    rw [if_pos hg]
    exact wp_append_full w s x t hop k e i bytes h1 h2 h3 h4 h5 a1 a2 n m c l1 l2 hs hx s1 s2 b1 b2 fun a' c' w' r1 r2 => hK' _ _ (hK a' c' w' r1 r2)

/-- 'append(v, b...)', v the call's own, b whatever. -/
theorem wpList_append_onsl {P : Program} (w : World) {ops : Array Oper} {rest : List Oper} {o : Oper} {a : Act} {Q : Exit → Act → World → Prop}
    (hg : o.guard = none) (s x : Operand) (t : TypeId) (hop : o.op = Op.call { callee := Callee.builtin Builtin.append, args := #[s, x], argTypes := #[t, t] })
    (k : IntKind) (base : Nat) (e : TypeId) (i : TypeInfo) (bytes : Nat) (h1 : P.underlying t = some (.slice e)) (h2 : P.info? e = some i) (h3 : i.zero = some (.int k 0)) (h4 : i.size = 1) (h5 : i.bytes = bytes)
    (v : Value) (l1 : List Int) (a2 : Option Addr) (m c : Nat) (l2 : List Int) (hs : a.eval s = v) (hx : a.eval x = .slice a2 m c) (s1 : w.ownsRow base e 1 v l1.length (l1.map (Value.int k))) (s2 : Sl k w a2 m c l2)
    (b1 : l1.length + m ≤ maxLen) (b2 : (l1.length + m) * bytes ≤ 140737488355328) (b3 : base ≤ w.heap.size)
    (hK : ∀ v' w', w'.ownsRow base e 1 v' (l1 ++ l2).length ((l1 ++ l2).map (Value.int k)) → w.grownBy w' v.ownBlock → wpList P ops Q rest (a.put o.dst v') w') :
    wpList P ops Q (o :: rest) a w := by
  by_cases hm : m = 0
  · subst hm
    obtain ⟨a1, cap1, rfl⟩ := own_shape s1
    have hcap : l1.length ≤ cap1 := (own_sl s1).2.1
    refine wpList_plain hg fun K hK' => ?_
    have hrun := run_append_zero (P := P) w t o.type e i h1 h2 a1 a2 l1.length cap1 c hcap
    unfold Oper.wp
    simp [execOp, hop, resolve, invoke, builtin, hs, hx, hrun, Result.andThen]
    have hl2 : l2 = [] := List.eq_nil_of_length_eq_zero s2.1
    subst hl2
    exact hK' _ _ (hK _ w (by simpa using s1) (World.grownBy.refl _ _))
  · have s2' := s2
    obtain ⟨e1, e2, e3, e4⟩ := s2
    rcases e4 with ⟨e5, _⟩ | ⟨b, off, rfl, hlt, hc⟩
    · omega
    exact wpList_append_own w hg s x t hop base e i (.int k 0) 1 bytes h1 h2 h3 h4 h5 rfl (by decide) v l1.length (l1.map (Value.int k)) hs s1 ⟨b, off, none⟩ m c (l2.map (Value.int k)) hx (by simp [e1]) (s2'.olds (by omega)) (ints_one k l2) b1 b2 b3
      (fun v' w' hown hgrow _ => hK v' w' (by rw [List.length_append, e1, List.map_append]; exact hown) hgrow)
end Go.Proofs.YtcdjfgkjllonhaaDoor
