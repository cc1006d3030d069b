/-
  Appending onto a row that is owned, in its two ways: within the capacity, in place; beyond it, in new memory, and then nothing that was there is changed. And the marks of slices that are looked at for shared memory.
-/
import Derived.Test.YtcdjfgkjllonhaaDoorLin
import Derived.ArgAppend
import Derived.Deep.DeepAppendRoom
import Derived.RegionTactic
import Derived.LoopTactic
namespace Go.Proofs.YtcdjfgkjllonhaaDoor
open Go.RowKit Go.Shelf

theorem wpList_append_ways {P : Program} (w : World) {ops : Array Oper} {rest : List Oper} {o : Oper} {a : Act} {Q : Exit → Act → World → Prop}
    (hg : o.guard = none) (s x : Operand) (t : TypeId) (hop : o.op = Op.call { callee := Callee.builtin Builtin.append, args := #[s, x], argTypes := #[t, t] })
    (base : Nat) (e : TypeId) (i : TypeInfo) (z : Value) (bytes : Nat) (h1 : P.underlying t = some (.slice e)) (h2 : P.info? e = some i) (h3 : i.zero = some z) (h4 : i.size = 1) (h5 : i.bytes = bytes) (hz : z.cells.size = 1)
    (v : Value) (n : Nat) (xs : List Value) (hs : a.eval s = v) (hown : w.ownsRow base e 1 v n xs)
    (ad : Addr) (m c : Nat) (news : List Value) (hx : a.eval x = .slice (some ad) m c) (hl : news.length = m) (hnews : ∀ j u, news[j]? = some u → w.cell? (ad.add j) = some u) (ho : ∀ u ∈ news, u.oneCell' = true)
    (b1 : n + m ≤ maxLen) (b2 : (n + m) * bytes ≤ 140737488355328)
    (hA : ∀ g cap w', v = .slice (some ⟨g, 0, none⟩) n cap → n + m ≤ cap → w'.ownsRow base e 1 (.slice (some ⟨g, 0, none⟩) (n + m) cap) (n + m) (xs ++ news) → w.grownBy w' (some g) → wpList P ops Q rest (a.put o.dst (.slice (some ⟨g, 0, none⟩) (n + m) cap)) w')
    (hB : ∀ v' w', w'.ownsRow w.heap.size e 1 v' (n + m) (xs ++ news) → w.grownBy w' none → wpList P ops Q rest (a.put o.dst v') w') :
    wpList P ops Q (o :: rest) a w := by
  refine wpList_plain hg fun K hK => ?_
  have key : ∀ v' w', (Builtin.append_ #[t, t] o.type #[v, .slice (some ad) m c]).run P w = .ok v' w' → K (a.put o.dst v') w' → o.wp P a w K Q := by
    intro v' w' hr hk
    unfold Oper.wp execOp
    simp only [hop, resolve, invoke, builtin, Sem.run_bind, Sem.run_pure, Result.andThen_ok, List.map_toArray, List.map_cons, List.map_nil, hs, hx, hr]
    exact hk
  rcases hown.2 with ⟨rfl, rfl⟩ | ⟨g, cap, cur, rfl, hb, hh, hn, hm, hc, ht⟩
  · have hxs : xs = [] := List.eq_nil_of_length_eq_zero (by simpa using hown.1)
    subst hxs
    obtain ⟨v', w', hrun, r1, r2, _⟩ := run_append_own (P := P) w w.heap.size t o.type e i z 1 bytes h1 h2 h3 h4 h5 hz (by decide) (.slice none 0 0) 0 [] (World.ownsRow_nil w _ e 1) ad m c news (by rw [hl, Nat.mul_one]) hnews ho b1 b2 (Nat.le_refl _)
    exact key v' w' hrun (hK _ _ (hB v' w' r1 r2))
  · by_cases hroom : n + m ≤ cap
    · obtain ⟨w', hrun, r1, r2⟩ := run_append_own_spare (P := P) w base t o.type e i 1 h1 h2 h4 g n cap xs hown ad m c news (by rw [hl, Nat.mul_one]) hnews ho hroom
      exact key _ w' hrun (hK _ _ (hA g cap w' rfl hroom r1 r2))
    · obtain ⟨v', w', hrun, r1, r2⟩ := run_append_arg_grows (P := P) w t o.type e i z 1 bytes h1 h2 h3 h4 h5 hz (by decide) ⟨g, 0, none⟩ n cap xs (by rw [hown.1]) (hown.cells (g := g) rfl) ad m c news (by rw [hl, Nat.mul_one]) hnews (by omega) b1 b2
      exact key v' w' hrun (hK _ _ (hB v' w' r1 r2))

/-- Of a row that is owned, the first cells alone. -/
theorem own_front {w : World} {base : Nat} {e : TypeId} {g n m cap : Nat} {xs ys : List Value} (h : w.ownsRow base e 1 (.slice (some ⟨g, 0, none⟩) (n + m) cap) (n + m) (xs ++ ys)) (hx : xs.length = n) : w.ownsRow base e 1 (.slice (some ⟨g, 0, none⟩) n cap) n xs := by
  refine ⟨by rw [hx, Nat.mul_one], ?_⟩
  rcases h.2 with ⟨h0, _⟩ | ⟨g', cap', cur, hv, hb, hh, hn, hm, hc, ht⟩
  · cases h0
  · cases hv
    refine .inr ⟨g, cap, cur, rfl, hb, hh, by omega, hm, hc, ?_⟩
    rw [Nat.mul_one] at ht ⊢
    have e1 : cur.toList.take n = (cur.toList.take (n + m)).take n := by rw [List.take_take, Nat.min_eq_left (by omega)]
    rw [e1, ht, ← hx]
    exact List.take_left

/-- The mark of the place i of the slice k. -/
def mkN (k i : Nat) : Int := IntKind.u64.wrap ((1000003 * ((k : Int) + 7) + (i : Int)) * 11400714819323198485)
/-- The marks of the slice k. -/
def mks (k n : Nat) : List Int := (List.range n).map (mkN k)
theorem mks_len (k n : Nat) : (mks k n).length = n := by simp [mks]
theorem mks_at {k n i : Nat} (h : i < n) : (mks k n)[i]?.getD 0 = mkN k i := by simp [mks, h]
theorem mks_succ (k n : Nat) : mks k (n + 1) = mks k n ++ [mkN k n] := by simp [mks, List.range_succ]
theorem mks_add (k n m : Nat) : ∃ t, mks k (n + m) = mks k n ++ t := by
  refine ⟨((List.range m).map (n + ·)).map (mkN k), ?_⟩
  unfold mks; rw [List.range_add, List.map_append]

set_option maxHeartbeats 400000 in
theorem markk_any (k i : Nat) (w : World) (hk : k ≤ 1000000) (hi : i ≤ 1000000) :
    Calls Tryd.prog 73 #[.int .i64 (k : Int), .int .i64 (i : Int)] w fun e w' => e = .returned (.int .i64 (1000003 * ((k : Int) + 7) + (i : Int))) ∧ w = w' := by
  go_enter Tryd.func73, Tryd.ntmps73
  go_wp2
  go_ret
  exact ⟨rfl, rfl⟩
set_option maxHeartbeats 400000 in
theorem markN_any (k i : Nat) (w : World) (hk : k ≤ 1000000) (hi : i ≤ 1000000) :
    Calls Tryd.prog 72 #[.int .i64 (k : Int), .int .i64 (i : Int)] w fun e w' => e = .returned (.int .u64 (mkN k i)) ∧ w' = w := by
  go_enter Tryd.func72, Tryd.ntmps72
  go_wp2_with (go_at_call 73; refine (markk_any k i _ hk hi).mono ?_; rintro e w' ⟨rfl, rfl⟩)
  go_ret
  refine ⟨?_, rfl⟩
  unfold mkN
  first | rfl | (simp only [IntKind.wrap_u64]) | (congr 3)
end Go.Proofs.YtcdjfgkjllonhaaDoor
