/-
  The contracts of poly's term and Text; for every number of 64 bits.
-/
import Derived.Test.YtdaijbplbnkpeaaDoorPdb
import Derived.Test.YtdaijbplbnkpeaaDoorTxt
import Derived.Deep.RegionLaw
namespace Go.Proofs.YtdaijbplbnkpeaaDoor
open Go.RowKit Go.Shelf

attribute [local go_sem] Oper.semAt_some

/-- append, as one step of a region that draws, inside a fence. -/
theorem step_append_in {F : Fence} {n : Nat} {P : Program} {ops : Array Oper} {o : Oper} {a : Act} {w : World} {K : Act → World → Prop} {Q : Exit → Act → World → Prop} {E : Prop}
    (hg : o.guard = none) (s x : Operand) (t : TypeId) (hop : o.op = Op.call { callee := Callee.builtin Builtin.append, args := #[s, x], argTypes := #[t, t] })
    (base : Nat) (e : TypeId) (i : TypeInfo) (z : Value) (size bytes : Nat) (h1 : P.underlying t = some (.slice e)) (h2 : P.info? e = some i) (h3 : i.zero = some z) (h4 : i.size = size) (h5 : i.bytes = bytes) (h6 : z.cells.size = size) (h7 : 0 < size)
    (v : Value) (k : Nat) (xs : List Value) (hs : a.eval s = v) (hown : w.ownsRow base e size v k xs) (ad : Addr) (m c : Nat) (news : List Value) (hx : a.eval x = .slice (some ad) m c) (hn : news.length = m * size)
    (hc : ∀ j u, news[j]? = some u → w.cell? (ad.add j) = some u) (h1c : ∀ u ∈ news, u.oneCell' = true) (b1 : k + m ≤ maxLen) (b2 : (k + m) * bytes ≤ 140737488355328) (b3 : base ≤ w.heap.size)
    (hK : ∀ v' w', w'.ownsRow base e size v' (k + m) (xs ++ news) → w.grownBy w' v.ownBlock → K (a.put o.dst v') w') :
    if Region.wanted o (yielded ops a.tmps) = true then Oper.wpIn F n P o a w K Q else E := by
  have hw : Region.wanted o (yielded ops a.tmps) = true := by simp [Region.wanted, hg]
  rw [if_pos hw]
  obtain ⟨v', w', hrun, r1, r2, _⟩ := run_append_own (P := P) w base t o.type e i z size bytes h1 h2 h3 h4 h5 h6 h7 v k xs hown ad m c news hn hc h1c b1 b2 b3
  unfold Oper.wpIn
  refine ⟨?_, ?_⟩
  · simp [Oper.about, hop, resolve, Target.leads, Sem.run_pure]
  · rw [Oper.semAt_plain F _ _ (by rw [hop]; intro c hc'; cases hc')]
    simp [execOp, hop, resolve, invoke, builtin, hs, hx, hrun, Result.andThen]
    exact hK _ _ r1 r2

theorem own_shape' {w : World} {base : Nat} {e : TypeId} {s : Nat} {v : Value} {n : Nat} {xs : List Value} (h : w.ownsRow base e s v n xs) : ∃ a cap, v = .slice a n cap := by
  rcases h.2 with ⟨rfl, rfl⟩ | ⟨g, cap, cur, rfl, _⟩
  · exact ⟨none, 0, rfl⟩
  · exact ⟨_, cap, rfl⟩
/-- The texts of terms, as values. -/
def strsV (l : List Nat) : List Value := l.map fun i => Value.string ⟨(termT i).toArray⟩
theorem infoStr : (Tryd.prog.info? 9).map (fun i => (i.zero, i.size, i.bytes)) = some (some (.string ⟨#[]⟩), 1, 16) := by kernel_rfl

/-- The strings of the row, cell by cell. -/
theorem strs_row {W : World} {base : Nat} {v : Value} {ys : List (Fin 64)} {p : Nat} (h : W.ownsRow base 9 1 v ys.length (strsV (ys.map Fin.val))) (hy : termsOf p ys) (hp : p ≠ 0) :
    ∃ g cap, g < W.heap.size ∧ ((tdeg p).map fun i => (⟨(termT i).toArray⟩ : ByteArray)).length ≤ cap ∧ (∀ (j : Nat) x, ((tdeg p).map fun i => (⟨(termT i).toArray⟩ : ByteArray))[j]? = some x → W.cell? ⟨g, 0 + j, none⟩ = some (.string x)) ∧ v = .slice (some ⟨g, 0, none⟩) ((tdeg p).map fun i => (⟨(termT i).toArray⟩ : ByteArray)).length cap := by
  have hl : ys.length = (tdeg p).length := by have := congrArg List.length hy; simpa using this
  have hpos : 0 < (tdeg p).length := by rw [tdeg_cons hp]; simp
  rcases h.2 with ⟨_, h0⟩ | ⟨g, cap, cur, rfl, hb, hg, hle, hm, hcs, ht⟩
  · omega
  · refine ⟨g, cap, (Array.getElem?_eq_some_iff.1 hg).1, by simp; omega, ?_, by simp [hl]⟩
    intro j x hx
    rw [show ys.map Fin.val = tdeg p from hy] at ht
    have e : (strsV (tdeg p))[j]? = some (.string x) := by
      unfold strsV
      rw [List.getElem?_map] at hx ⊢
      cases hq : (tdeg p)[j]? with
      | none => rw [hq] at hx; simp at hx
      | some i => rw [hq] at hx; simp at hx; simp [hx]
    rw [← ht, List.getElem?_take] at e
    split at e
    · simp only [World.cell?, hg]
      simpa using e
    · simp at e

end Go.Proofs.YtdaijbplbnkpeaaDoor
