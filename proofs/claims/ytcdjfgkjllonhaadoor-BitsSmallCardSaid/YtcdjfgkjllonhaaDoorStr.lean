/-
  Structs of two cells in memory: what it is for a block to hold one, and the endings of functions whose first result lies in memory. No condition but those in each statement.
-/
import Derived.Test.YtcdjfgkjllonhaaDoorOwn
import Derived.Deep.MidRow
namespace Go.Proofs.YtcdjfgkjllonhaaDoor
open Go.RowKit

/-- A block that holds just two cells. -/
def Two (w : World) (b : Nat) (t : TypeId) (v0 v1 : Value) : Prop := w.heap[b]? = some (.cells #[v0, v1] t (0, 0))

theorem Two.lt {w : World} {b : Nat} {t : TypeId} {v0 v1 : Value} (h : Two w b t v0 v1) : b < w.heap.size := (Array.getElem?_eq_some_iff.1 h).1
theorem Two.c0 {w : World} {b : Nat} {t : TypeId} {v0 v1 : Value} (h : Two w b t v0 v1) : w.cell? ⟨b, 0, none⟩ = some v0 := by simp [World.cell?, show w.heap[b]? = _ from h]
theorem Two.c1 {w : World} {b : Nat} {t : TypeId} {v0 v1 : Value} (h : Two w b t v0 v1) : w.cell? ⟨b, 1, none⟩ = some v1 := by simp [World.cell?, show w.heap[b]? = _ from h]
theorem Two.below {w w' : World} {b base : Nat} {t : TypeId} {v0 v1 : Value} (h : Two w b t v0 v1) (hb : Below base w w') (hl : b < base) : Two w' b t v0 v1 := (hb.block b hl).trans h
theorem Two.range {w : World} {b : Nat} {t : TypeId} {v0 v1 : Value} (h : Two w b t v0 v1) : w.rangeAt b 0 [v0, v1] := by
  intro j v hj
  match j, hj with
  | 0, hj => simp at hj; subst hj; exact h.c0
  | 1, hj => simp at hj; subst hj; exact h.c1
theorem Two.there {w : World} {b : Nat} {t : TypeId} {v0 v1 : Value} (h : Two w b t v0 v1) : w.there b 0 2 := by
  have hh : w.heap[b]? = some (.cells #[v0, v1] t (0, 0)) := h
  intro j hj
  match j, hj with
  | 0, _ => exact ⟨by rw [h.c0]; rfl, by simp [World.frozen?, hh]⟩
  | 1, _ => exact ⟨by have := h.c1; simp only [Nat.zero_add] at *; rw [this]; rfl, by simp [World.frozen?, hh]⟩
theorem Two.f0 {w : World} {b : Nat} {t : TypeId} {v0 v1 : Value} (h : Two w b t v0 v1) : w.frozen? ⟨b, 0, none⟩ = false := by simp [World.frozen?, show w.heap[b]? = _ from h]
theorem Two.f1 {w : World} {b : Nat} {t : TypeId} {v0 v1 : Value} (h : Two w b t v0 v1) : w.frozen? ⟨b, 1, none⟩ = false := by simp [World.frozen?, show w.heap[b]? = _ from h]
theorem Two.range_set {w : World} {b : Nat} {t : TypeId} {v0 v1 : Value} (h : Two w b t v0 v1) (x y : Value) : ((w.setCell ⟨b, 0, none⟩ x).setCell ⟨b, 1, none⟩ y).rangeAt b 0 [x, y] := by
  have h0 := h.c0
  have h1 := h.c1
  intro j v hj
  match j, hj with
  | 0, hj => simp at hj; subst hj; exact (World.cell?_setCell_other (w := w.setCell ⟨b, 0, none⟩ x) (a := ⟨b, 1, none⟩) (b := ⟨b, 0, none⟩) (v := y) (by simp)).trans (World.cell?_setCell_same _ _ _ h0)
  | 1, hj => simp at hj; subst hj; exact World.cell?_setCell_same _ ⟨b, 1, none⟩ _ (u := v1) ((World.cell?_setCell_other (w := w) (a := ⟨b, 0, none⟩) (b := ⟨b, 1, none⟩) (v := x) (by simp)).trans h1)
theorem Two.new (w : World) (t : TypeId) (v0 v1 : Value) : Two (w.alloc (.cells #[v0, v1] t)) w.heap.size t v0 v1 := heap_alloc_new w _
theorem Two.new2 (w : World) (o : Obj) (t : TypeId) (v0 v1 : Value) : Two ((w.alloc o).alloc (.cells #[v0, v1] t)) (w.heap.size + 1) t v0 v1 := by
  have h := Two.new (w.alloc o) t v0 v1
  rwa [World.size_alloc] at h
theorem Two.alloc {w : World} {b : Nat} {t : TypeId} {v0 v1 : Value} (h : Two w b t v0 v1) (o : Obj) : Two (w.alloc o) b t v0 v1 :=
  h.below ((Below.refl w.heap.size w).alloc (Nat.le_refl _) o) h.lt

theorem own_base {w : World} {base base' : Nat} {e : TypeId} {size : Nat} {v : Value} {n : Nat} {xs : List Value} (h : w.ownsRow base' e size v n xs) (hb : base ≤ base') : w.ownsRow base e size v n xs := by
  refine ⟨h.1, ?_⟩
  rcases h.2 with h1 | ⟨g, cap, cur, hv, hg, r⟩
  · exact .inl h1
  · exact .inr ⟨g, cap, cur, hv, by omega, r⟩
theorem own_set {w : World} {base : Nat} {e : TypeId} {size : Nat} {v : Value} {n : Nat} {xs : List Value} (h : w.ownsRow base e size v n xs) (b o : Nat) (x : Value) (hp : b < base) : (w.setCell ⟨b, o, none⟩ x).ownsRow base e size v n xs := by
  refine ⟨h.1, ?_⟩
  rcases h.2 with h1 | ⟨g, cap, cur, hv, hb, hg, hn, hm, hc, ht⟩
  · exact .inl h1
  · refine .inr ⟨g, cap, cur, hv, hb, ?_, hn, hm, hc, ht⟩
    exact (Below.heap_setCell _ _ _ g (fun e => by simp only at e; omega)).trans hg

theorem Sl.tailm {k : IntKind} {w : World} {a : Option Addr} {len cap ix : Nat} {l : List Int} (h : Sl k w a len cap l) (hi : ix ≤ len) : Sl k w (a.map (fun x => x.add ix)) (len - ix) (cap - ix) (l.drop ix) := by
  obtain ⟨h1, h2, h3, h4⟩ := h
  refine ⟨by simp; omega, by omega, by omega, ?_⟩
  rcases h4 with ⟨h5, h6⟩ | ⟨b, off, rfl, hlt, hc⟩
  · exact .inl ⟨by omega, by omega⟩
  · refine .inr ⟨b, off + ix, by simp only [Option.map]; rw [Addr.add_mid], hlt, fun i hh => ?_⟩
    rw [Nat.add_assoc, hc (ix + i) (by omega)]
    simp [List.getElem?_drop]

theorem Sl.tail {k : IntKind} {w : World} {a : Option Addr} {len cap ix : Nat} {l : List Int} (h : Sl k w a len cap l) (hi : ix ≤ len) : Sl k w (if cap = ix then a else a.map (fun x => x.add ix)) (len - ix) (cap - ix) (l.drop ix) := by
  by_cases hx : cap = ix
  · rw [if_pos hx]
    have h1 := h.1
    have h2 := h.2.1
    have h3 := h.2.2.1
    exact ⟨by simp; omega, by omega, by omega, .inl ⟨by omega, by omega⟩⟩
  · rw [if_neg hx]
    exact h.tailm hi

theorem bodyPost_cell3 {P : Program} {fn : Func} {R : Ending → World → Prop} {a : Act} {w : World} {p t u : Tmp} {ty : TypeId} (h : fn.results = #[.cell p ty, .tmp t, .tmp u]) (b : Nat) (hp : a.tmps.getD p undef = .pointer (some ⟨b, 0, none⟩))
    (cs : List Value) (d : TypeDesc) (hc : w.rangeAt b 0 cs) (hu : P.underlying ty = some d) (hd : d.isRow = true) (hi : (P.info? ty).map (·.size) = some cs.length) (hdf : a.defers = [])
    (hR : R (.returned (.tuple #[.agg cs.toArray, a.tmps.getD t undef, a.tmps.getD u undef])) w) : bodyPost P fn R .ret a w := by
  refine bodyPost_ret ?_ hdf hR
  have hp' : a.tmps[p]?.getD undef = .pointer (some ⟨b, 0, none⟩) := by simpa using hp
  simp [results, h, hp', asAddr, run_loadVar_mid w b 0 ty cs d hc hu hd hi, Result.andThen]

theorem bodyPost_cell2 {P : Program} {fn : Func} {R : Ending → World → Prop} {a : Act} {w : World} {p t : Tmp} {ty : TypeId} (h : fn.results = #[.cell p ty, .tmp t]) (b : Nat) (hp : a.tmps.getD p undef = .pointer (some ⟨b, 0, none⟩))
    (cs : List Value) (d : TypeDesc) (hc : w.rangeAt b 0 cs) (hu : P.underlying ty = some d) (hd : d.isRow = true) (hi : (P.info? ty).map (·.size) = some cs.length) (hdf : a.defers = [])
    (hR : R (.returned (.tuple #[.agg cs.toArray, a.tmps.getD t undef])) w) : bodyPost P fn R .ret a w := by
  refine bodyPost_ret ?_ hdf hR
  have hp' : a.tmps[p]?.getD undef = .pointer (some ⟨b, 0, none⟩) := by simpa using hp
  simp [results, h, hp', asAddr, run_loadVar_mid w b 0 ty cs d hc hu hd hi, Result.andThen]
end Go.Proofs.YtcdjfgkjllonhaaDoor
