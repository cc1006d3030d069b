/-
  A frame with an exception: all blocks but some stay as they were. And what it is for a block to hold three cells. No condition but those in each statement.
-/
import Derived.Test.YtakpockkagfphaaNb
import Derived.Test.YtakpockkagfphaaFx
import Derived.Test.YtakpockkagfphaaCt
import Derived.Test.YtakpockkagfphaaApq
import Derived.Lib.Hide
namespace Go.Proofs.Ytakpockkagfphaa
open Go.RowKit

/-- All blocks but those of X are as they were. -/
structure Bx (X : Nat → Prop) (w w' : World) : Prop where
  os : w'.os = w.os
  tape : w'.tape = w.tape
  output : w'.output = w.output
  size : w.heap.size ≤ w'.heap.size
  block : ∀ k, k < w.heap.size → ¬ X k → w'.heap[k]? = w.heap[k]?

theorem Bx.refl (X : Nat → Prop) (w : World) : Bx X w w := ⟨rfl, rfl, rfl, Nat.le_refl _, fun _ _ _ => rfl⟩
theorem Bx.trans {X : Nat → Prop} {a b c : World} (h : Bx X a b) (k : Bx X b c) : Bx X a c :=
  ⟨k.os.trans h.os, k.tape.trans h.tape, k.output.trans h.output, Nat.le_trans h.size k.size, fun i hi hx => (k.block i (Nat.lt_of_lt_of_le hi h.size) hx).trans (h.block i hi hx)⟩
theorem Bx.of {X : Nat → Prop} {a b : World} (h : Below a.heap.size a b) : Bx X a b := ⟨h.os, h.tape, h.output, h.size, fun k hk _ => h.block k hk⟩
theorem Bx.then {X : Nat → Prop} {a b c : World} (h : Bx X a b) (k : Below b.heap.size b c) : Bx X a c := h.trans (Bx.of k)
theorem Bx.mono {X Y : Nat → Prop} {a b : World} (h : Bx X a b) (hy : ∀ k, k < a.heap.size → X k → Y k) : Bx Y a b := ⟨h.os, h.tape, h.output, h.size, fun k hk hx => h.block k hk (fun hh => hx (hy k hk hh))⟩
theorem Bx.alloc {X : Nat → Prop} {a w : World} (h : Bx X a w) (o : Obj) : Bx X a (w.alloc o) := h.then ((Below.refl _ _).alloc (Nat.le_refl _) _)
theorem Bx.drew {X : Nat → Prop} {a w : World} (h : Bx X a w) : Bx X a w.drew := h.then (Below.refl _ _).drew
theorem Bx.drewN {X : Nat → Prop} {a w : World} (h : Bx X a w) (n : Nat) : Bx X a (w.drewN n) := h.then (below_drewN (Below.refl _ _) n)
theorem Bx.setCell {X : Nat → Prop} {a w : World} (h : Bx X a w) {p : Addr} (hp : X p.block) (u : Value) : Bx X a (w.setCell p u) :=
  h.trans ⟨rfl, rfl, rfl, by simp [World.setCell], fun k _ hx => Below.heap_setCell _ _ _ _ (fun e => hx (by rw [e]; exact hp))⟩
theorem Bx.setNew {X : Nat → Prop} {a w : World} (h : Bx X a w) {p : Addr} (hp : a.heap.size ≤ p.block) (u : Value) : Bx X a (w.setCell p u) :=
  ⟨h.os, h.tape, h.output, by simp [World.setCell]; exact h.size, fun k hk hx => (Below.heap_setCell _ _ _ _ (fun e => by omega)).trans (h.block k hk hx)⟩
theorem Bx.grown {X : Nat → Prop} {a w w' : World} {row : Option Nat} (h : Bx X a w) (hg : w.grownBy w' row) (hr : ∀ k, row = some k → X k ∨ a.heap.size ≤ k) : Bx X a w' :=
  ⟨hg.os.trans h.os, hg.tape.trans h.tape, hg.output.trans h.output, Nat.le_trans h.size hg.size, fun k hk hx => (hg.block k (Nat.lt_of_lt_of_le hk h.size) (fun e => by rcases hr k e.symm with h1 | h1; exact hx h1; omega)).trans (h.block k hk hx)⟩
theorem Bx.below {X : Nat → Prop} {a b : World} (h : Bx X a b) {B : Nat} (hx : ∀ k, X k → B ≤ k) (hB : B ≤ a.heap.size) : Below B a b :=
  ⟨h.os, h.tape, h.output, h.size, fun k hk => h.block k (by omega) (fun hh => by have := hx k hh; omega)⟩
theorem Bx.cell {X : Nat → Prop} {w w' : World} (h : Bx X w w') {p : Addr} {v : Value} (hc : w.cell? p = some v) (hx : ¬ X p.block) : w'.cell? p = some v :=
  (World.cell?_of_block (w := w) (h.block p.block (World.block_lt_of_cell? w p hc) hx)).trans hc
theorem Sl.bx {X : Nat → Prop} {k : IntKind} {w w' : World} {a : Option Addr} {len cap : Nat} {l : List Int} (h : Sl k w a len cap l) (hb : Bx X w w') (hx : ∀ p, a = some p → ¬ X p.block) : Sl k w' a len cap l := by
  obtain ⟨h1, h2, h3, h4⟩ := h
  refine ⟨h1, h2, h3, ?_⟩
  rcases h4 with h5 | ⟨b, off, rfl, hlt, hc⟩
  · exact .inl h5
  · exact .inr ⟨b, off, rfl, Nat.lt_of_lt_of_le hlt hb.size, fun i hh => hb.cell (hc i hh) (hx ⟨b, off, none⟩ rfl)⟩
theorem Two.bx {X : Nat → Prop} {w w' : World} {b : Nat} {t : TypeId} {v0 v1 : Value} (h : Two w b t v0 v1) (hb : Bx X w w') (hx : ¬ X b) : Two w' b t v0 v1 := (hb.block b h.lt hx).trans h
theorem own_bx {X : Nat → Prop} {w w' : World} {base : Nat} {e : TypeId} {size : Nat} {v : Value} {n : Nat} {xs : List Value} (h : w.ownsRow base e size v n xs) (hb : Bx X w w') (hx : ∀ k, v.ownBlock = some k → ¬ X k) : w'.ownsRow base e size v n xs := by
  refine ⟨h.1, ?_⟩
  rcases h.2 with h1 | ⟨g, cap, cur, hv, hb', hg, r⟩
  · exact .inl h1
  · refine .inr ⟨g, cap, cur, hv, hb', ?_, r⟩
    rw [hb.block g (Array.getElem?_eq_some_iff.1 hg).1 (hx g (by rw [hv]; rfl))]
    exact hg
/-- A slice that the call owns lies from base on, or nowhere. -/
theorem own_block {w : World} {base : Nat} {e : TypeId} {size : Nat} {a : Option Addr} {n cap : Nat} {xs : List Value} (h : w.ownsRow base e size (.slice a n cap) n xs) : ∀ p, a = some p → base ≤ p.block ∧ p.block < w.heap.size :=
  fun p hp => h.lt p.block (by rw [hp]; rfl)

/-- A block that holds just three cells. -/
def Tri (w : World) (b : Nat) (t : TypeId) (v0 v1 v2 : Value) : Prop := w.heap[b]? = some (.cells #[v0, v1, v2] t (0, 0))
theorem Tri.lt {w : World} {b : Nat} {t : TypeId} {v0 v1 v2 : Value} (h : Tri w b t v0 v1 v2) : b < w.heap.size := (Array.getElem?_eq_some_iff.1 h).1
theorem Tri.c0 {w : World} {b : Nat} {t : TypeId} {v0 v1 v2 : Value} (h : Tri w b t v0 v1 v2) : w.cell? ⟨b, 0, none⟩ = some v0 := by simp [World.cell?, show w.heap[b]? = _ from h]
theorem Tri.c1 {w : World} {b : Nat} {t : TypeId} {v0 v1 v2 : Value} (h : Tri w b t v0 v1 v2) : w.cell? ⟨b, 1, none⟩ = some v1 := by simp [World.cell?, show w.heap[b]? = _ from h]
theorem Tri.c2 {w : World} {b : Nat} {t : TypeId} {v0 v1 v2 : Value} (h : Tri w b t v0 v1 v2) : w.cell? ⟨b, 2, none⟩ = some v2 := by simp [World.cell?, show w.heap[b]? = _ from h]
theorem Tri.f0 {w : World} {b : Nat} {t : TypeId} {v0 v1 v2 : Value} (h : Tri w b t v0 v1 v2) : w.frozen? ⟨b, 0, none⟩ = false := by simp [World.frozen?, show w.heap[b]? = _ from h]
theorem Tri.f1 {w : World} {b : Nat} {t : TypeId} {v0 v1 v2 : Value} (h : Tri w b t v0 v1 v2) : w.frozen? ⟨b, 1, none⟩ = false := by simp [World.frozen?, show w.heap[b]? = _ from h]
theorem Tri.f2 {w : World} {b : Nat} {t : TypeId} {v0 v1 v2 : Value} (h : Tri w b t v0 v1 v2) : w.frozen? ⟨b, 2, none⟩ = false := by simp [World.frozen?, show w.heap[b]? = _ from h]
theorem Tri.below {w w' : World} {b base : Nat} {t : TypeId} {v0 v1 v2 : Value} (h : Tri w b t v0 v1 v2) (hb : Below base w w') (hl : b < base) : Tri w' b t v0 v1 v2 := (hb.block b hl).trans h
theorem Tri.bx {X : Nat → Prop} {w w' : World} {b : Nat} {t : TypeId} {v0 v1 v2 : Value} (h : Tri w b t v0 v1 v2) (hb : Bx X w w') (hx : ¬ X b) : Tri w' b t v0 v1 v2 := (hb.block b h.lt hx).trans h
theorem Tri.new (w : World) (t : TypeId) (v0 v1 v2 : Value) : Tri (w.alloc (.cells #[v0, v1, v2] t)) w.heap.size t v0 v1 v2 := heap_alloc_new w _
theorem Tri.set0 {w : World} {b : Nat} {t : TypeId} {v0 v1 v2 : Value} (h : Tri w b t v0 v1 v2) (u : Value) : Tri (w.setCell ⟨b, 0, none⟩ u) b t u v1 v2 := by
  have hh : w.heap[b]? = _ := h
  unfold Tri
  simp [World.setCell, Array.getElem?_modify, hh]
theorem Tri.set2 {w : World} {b : Nat} {t : TypeId} {v0 v1 v2 : Value} (h : Tri w b t v0 v1 v2) (u : Value) : Tri (w.setCell ⟨b, 2, none⟩ u) b t v0 v1 u := by
  have hh : w.heap[b]? = _ := h
  unfold Tri
  simp [World.setCell, Array.getElem?_modify, hh]
end Go.Proofs.Ytakpockkagfphaa
