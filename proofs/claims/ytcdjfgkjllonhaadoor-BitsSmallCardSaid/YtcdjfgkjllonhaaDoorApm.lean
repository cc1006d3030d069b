/-
  Slices of numbers that are looked at for shared memory: what it is that they own their rows apart from one another.
-/
import Derived.Test.YtcdjfgkjllonhaaDoorApl
import Derived.Test.YtcdjfgkjllonhaaDoorBrd
import Derived.Deep.AppendLies
import Derived.StillTailTactics
import Derived.Deep.RegionHeld3
namespace Go.Proofs.YtcdjfgkjllonhaaDoor
open Go.RowKit Go.Shelf

/-- The values of some slices, as they lie one behind the other. -/
def Hd (w : World) (lb off K : Nat) (A : Nat → Option Addr) (n C : Nat → Nat) : Prop := ∀ k, k < K → w.cell? ⟨lb, off + k, none⟩ = some (.slice (A k) (n k) (C k))
/-- Each of them owns its row. -/
def Rws (base : Nat) (w : World) (K : Nat) (A : Nat → Option Addr) (n C : Nat → Nat) (F : Nat → List Int) : Prop := ∀ k, k < K → w.ownsRow base 30 1 (.slice (A k) (n k) (C k)) (n k) ((F k).map (Value.int .u64))
/-- No two have one block, and none has that where their values lie. -/
def Dst (K lb : Nat) (A : Nat → Option Addr) : Prop := (∀ i j, i < K → j < K → i ≠ j → ∀ g, A i = some ⟨g, 0, none⟩ → A j ≠ some ⟨g, 0, none⟩) ∧ ∀ k g, k < K → A k = some ⟨g, 0, none⟩ → g ≠ lb

theorem own_otherV {w : World} {base : Nat} {e : TypeId} {size : Nat} {a : Option Addr} {N c : Nat} {n : Nat} {xs : List Value} (h : w.ownsRow base e size (.slice a N c) n xs) {b : Nat} (hb : a ≠ some ⟨b, 0, none⟩) (o : Nat) (x : Value) : (w.setCell ⟨b, o, none⟩ x).ownsRow base e size (.slice a N c) n xs := by
  refine ⟨h.1, ?_⟩
  rcases h.2 with h1 | ⟨g', cap, cur, hv, hb2, hg, hn, hm, hc, ht⟩
  · exact .inl h1
  · cases hv
    exact .inr ⟨g', c, cur, rfl, hb2, (Below.heap_setCell _ _ _ g' (fun e => hb (by rw [show b = g' from e.symm]))).trans hg, hn, hm, hc, ht⟩
theorem own_keptV {w w' : World} {base : Nat} {e : TypeId} {size : Nat} {a : Option Addr} {N c : Nat} {n : Nat} {xs : List Value} (h : w.ownsRow base e size (.slice a N c) n xs) {row : Option Nat} (hg : w.grownBy w' row) (hb : ∀ g, a = some ⟨g, 0, none⟩ → row ≠ some g) : w'.ownsRow base e size (.slice a N c) n xs := by
  refine ⟨h.1, ?_⟩
  rcases h.2 with h1 | ⟨g', cap, cur, hv, hb2, hh, hn, hm, hc, ht⟩
  · exact .inl h1
  · cases hv
    exact .inr ⟨g', c, cur, rfl, hb2, (hg.block g' (Array.getElem?_eq_some_iff.1 hh).1 (fun e => hb g' rfl e.symm)).trans hh, hn, hm, hc, ht⟩
theorem own_len {w : World} {base : Nat} {e : TypeId} {a : Option Addr} {N c n : Nat} {l : List Int} (h : w.ownsRow base e 1 (.slice a N c) n (l.map (Value.int .u64))) : l.length = n := by
  have := h.1; rwa [List.length_map, Nat.mul_one] at this
/-- Where a row's block is. -/
theorem own_addr {w : World} {base : Nat} {e : TypeId} {a : Option Addr} {N c n : Nat} {xs : List Value} (h : w.ownsRow base e 1 (.slice a N c) n xs) (h0 : 0 < n) : ∃ g, a = some ⟨g, 0, none⟩ ∧ base ≤ g ∧ g < w.heap.size ∧ N = n ∧ n ≤ c := by
  rcases h.2 with ⟨_, hn⟩ | ⟨g, cap, cur, hv, hb, hh, hn, hm, hc, ht⟩
  · omega
  · cases hv; exact ⟨g, rfl, hb, (Array.getElem?_eq_some_iff.1 hh).1, rfl, hn⟩
theorem Hd.set {w : World} {lb off K : Nat} {A : Nat → Option Addr} {n C : Nat → Nat} (h : Hd w lb off K A n C) {g : Nat} (hg : g ≠ lb) (o : Nat) (x : Value) : Hd (w.setCell ⟨g, o, none⟩ x) lb off K A n C := fun k hk =>
  (World.cell?_setCell_other (w := w) (a := ⟨g, o, none⟩) (b := ⟨lb, off + k, none⟩) (v := x) (fun e => hg (by cases e; rfl))).trans (h k hk)
theorem Hd.kept {w w' : World} {lb off K : Nat} {A : Nat → Option Addr} {n C : Nat → Nat} (h : Hd w lb off K A n C) {row : Option Nat} (hg : w.grownBy w' row) (hr : row ≠ some lb) : Hd w' lb off K A n C := fun k hk =>
  (hg.cell_far ⟨lb, off + k, none⟩ (World.block_lt_of_cell? w _ (h k hk)) (fun e => hr e.symm)).trans (h k hk)
theorem Hd.drewN {w : World} {lb off K : Nat} {A : Nat → Option Addr} {n C : Nat → Nat} (h : Hd w lb off K A n C) (q : Nat) : Hd (w.drewN q) lb off K A n C := h
theorem Rws.drewN {base : Nat} {w : World} {K : Nat} {A : Nat → Option Addr} {n C : Nat → Nat} {F : Nat → List Int} (h : Rws base w K A n C F) (q : Nat) : Rws base (w.drewN q) K A n C F := h
theorem Rws.set {base : Nat} {w : World} {K lb : Nat} {A : Nat → Option Addr} {n C : Nat → Nat} {F : Nat → List Int} (h : Rws base w K A n C F) (hD : Dst K lb A) {k g : Nat} (hk : k < K) (hA : A k = some ⟨g, 0, none⟩) (i : Nat) (x : Int) :
    Rws base (w.setCell ⟨g, i, none⟩ (.int .u64 x)) K A n C (fun j => if j = k then (F k).set i x else F j) := fun j hj => by
  by_cases hjk : j = k
  · subst hjk
    simp only [if_true]
    have h1 := h j hj
    rw [hA] at h1 ⊢
    rw [List.map_set]
    exact (World.ownsRow.stored h1 i _).1
  · simp only [if_neg hjk]
    exact own_otherV (h j hj) (hD.1 k j hk hj (fun e => hjk e.symm) g hA) i _
theorem Rws.kept {base : Nat} {w w' : World} {K : Nat} {A : Nat → Option Addr} {n C : Nat → Nat} {F : Nat → List Int} (h : Rws base w K A n C F) {row : Option Nat} (hg : w.grownBy w' row) (hr : ∀ j g, j < K → A j = some ⟨g, 0, none⟩ → row ≠ some g) : Rws base w' K A n C F := fun j hj =>
  own_keptV (h j hj) hg fun g hA => hr j g hj hA
theorem set_next {l : List Int} {k i : Nat} (hl : i < l.length) (h : l.take i = mks k i) : (l.set i (mkN k i)).take (i + 1) = mks k (i + 1) := by
  rw [mks_succ, ← h, List.take_succ_eq_append_getElem (by simpa using hl), List.getElem_set_self, List.take_set_of_le (Nat.le_refl _)]

/-- Nothing that was there has changed, but the block of one slice. -/
def Exc (x : Option Addr) (w w' : World) : Prop := w.heap.size ≤ w'.heap.size ∧ ∀ b, b < w.heap.size → x ≠ some ⟨b, 0, none⟩ → w'.heap[b]? = w.heap[b]?
theorem Exc.refl (x : Option Addr) (w : World) : Exc x w w := ⟨Nat.le_refl _, fun _ _ _ => rfl⟩
theorem Exc.grown {x : Option Addr} {w w1 w2 : World} (h : Exc x w w1) {row : Option Nat} (hg : w1.grownBy w2 row) (hr : ∀ b, b < w.heap.size → row = some b → x = some ⟨b, 0, none⟩) : Exc x w w2 :=
  ⟨Nat.le_trans h.1 hg.size, fun b hb hx => (hg.block b (Nat.lt_of_lt_of_le hb h.1) (fun e => hx (hr b hb e.symm))).trans (h.2 b hb hx)⟩
theorem Exc.weak {x : Option Addr} {w w' : World} (h : Exc none w w') : Exc x w w' := ⟨h.1, fun b hb _ => h.2 b hb (by simp)⟩
theorem Exc.alloc {x : Option Addr} {w w1 : World} (h : Exc x w w1) (o : Obj) : Exc x w (w1.alloc o) := h.grown (World.grownBy_alloc w1 o none) (fun _ _ e => by cases e)
theorem Exc.drewN {x : Option Addr} {w w1 : World} (h : Exc x w w1) (q : Nat) : Exc x w (w1.drewN q) := h
theorem Exc.set {x : Option Addr} {w w1 : World} (h : Exc x w w1) {g : Nat} (hg : w.heap.size ≤ g ∨ x = some ⟨g, 0, none⟩) (o : Nat) (v : Value) : Exc x w (w1.setCell ⟨g, o, none⟩ v) := by
  refine ⟨by rw [World.size_setCell]; exact h.1, fun b hb hx => ?_⟩
  have hne : b ≠ g := by
    rcases hg with hg | hg
    · omega
    · exact fun e => hx (by rw [hg, e])
  exact (Below.heap_setCell _ _ _ _ hne).trans (h.2 b hb hx)
theorem Exc.own {x : Option Addr} {w w' : World} (h : Exc x w w') {base : Nat} {e : TypeId} {size : Nat} {a : Option Addr} {N c : Nat} {n : Nat} {xs : List Value} (ho : w.ownsRow base e size (.slice a N c) n xs) (hx : ∀ g, a = some ⟨g, 0, none⟩ → x ≠ some ⟨g, 0, none⟩) : w'.ownsRow base e size (.slice a N c) n xs := by
  refine ⟨ho.1, ?_⟩
  rcases ho.2 with h1 | ⟨g', cap, cur, hv, hb2, hh, hn, hm, hc, ht⟩
  · exact .inl h1
  · cases hv
    exact .inr ⟨g', c, cur, rfl, hb2, (h.2 g' (Array.getElem?_eq_some_iff.1 hh).1 (hx g' rfl)).trans hh, hn, hm, hc, ht⟩
theorem Exc.cell {x : Option Addr} {w w' : World} (h : Exc x w w') {b o : Nat} {v : Value} (hc : w.cell? ⟨b, o, none⟩ = some v) (hx : x ≠ some ⟨b, 0, none⟩) : w'.cell? ⟨b, o, none⟩ = some v := by
  have hlt : b < w.heap.size := World.block_lt_of_cell? w _ hc
  have := h.2 b hlt hx
  rw [← hc]
  simp only [World.cell?, this]
theorem Exc.hd {x : Option Addr} {w w' : World} (h : Exc x w w') {lb off K : Nat} {A : Nat → Option Addr} {n C : Nat → Nat} (hh : Hd w lb off K A n C) (hx : x ≠ some ⟨lb, 0, none⟩) : Hd w' lb off K A n C := fun k hk => h.cell (hh k hk) hx
/-- The block of a slice is that of no other one. -/
def Nto (K : Nat) (A : Nat → Option Addr) (j : Nat) (a : Option Addr) : Prop := ∀ i, i < K → i ≠ j → ∀ g, a = some ⟨g, 0, none⟩ → A i ≠ some ⟨g, 0, none⟩
/-- The slices made so far: they lie in a row, and each owns its own. -/
def Ents (base gb K : Nat) (w : World) (A : Nat → Option Addr) (n : Nat → Nat) (vals : List Value) (k : Nat) (X : Nat → List Int) : Prop :=
  w.ownsRow base 22 1 (.slice (some ⟨gb, 0, none⟩) K K) K vals ∧ ∀ j, j < k → ∃ a c, vals[j]? = some (.slice a (n j + 64) c) ∧ w.ownsRow base 30 1 (.slice a (n j + 64) c) (n j + 64) ((X j).map (Value.int .u64)) ∧ Nto K A j a ∧ a ≠ some ⟨gb, 0, none⟩
theorem Ents.exc {base gb K : Nat} {w w' : World} {A : Nat → Option Addr} {n : Nat → Nat} {vals : List Value} {k : Nat} {X : Nat → List Int} (h : Ents base gb K w A n vals k X) (hk : k < K) (he : Exc (A k) w w') (hgb : A k ≠ some ⟨gb, 0, none⟩) : Ents base gb K w' A n vals k X := by
  refine ⟨he.own h.1 (fun g hg => by cases hg; exact hgb), fun j hj => ?_⟩
  obtain ⟨a, c, h1, h2, h3, h4⟩ := h.2 j hj
  exact ⟨a, c, h1, he.own h2 (fun g hg => h3 k hk (by omega) g hg), h3, h4⟩
theorem Ents.put {base gb K : Nat} {w : World} {A : Nat → Option Addr} {n : Nat → Nat} {vals : List Value} {k : Nat} {X : Nat → List Int} (h : Ents base gb K w A n vals k X) (hk : k < K) {a : Option Addr} {c : Nat} {x : List Int}
    (ho : w.ownsRow base 30 1 (.slice a (n k + 64) c) (n k + 64) (x.map (Value.int .u64))) (hn : Nto K A k a) (ha : a ≠ some ⟨gb, 0, none⟩) :
    Ents base gb K (w.setCell ⟨gb, k, none⟩ (.slice a (n k + 64) c)) A n (vals.set k (.slice a (n k + 64) c)) (k + 1) (fun j => if j = k then x else X j) := by
  have hl : vals.length = K := by have := h.1.1; rwa [Nat.mul_one] at this
  refine ⟨(World.ownsRow.stored h.1 k _).1, fun j hj => ?_⟩
  by_cases hjk : j = k
  · subst hjk
    refine ⟨a, c, by rw [List.getElem?_set_self (by omega)], ?_, hn, ha⟩
    simp only [if_true]
    exact own_otherV ho ha _ _
  · obtain ⟨a', c', h1, h2, h3, h4⟩ := h.2 j (by omega)
    refine ⟨a', c', by rw [List.getElem?_set_ne (fun e => hjk e.symm)]; exact h1, ?_, h3, h4⟩
    simp only [if_neg hjk]
    exact own_otherV h2 h4 _ _
theorem Ents.congr {base gb K : Nat} {w : World} {A : Nat → Option Addr} {n : Nat → Nat} {vals : List Value} {k : Nat} {X Y : Nat → List Int} (h : Ents base gb K w A n vals k X) (hxy : ∀ j, j < k → X j = Y j) : Ents base gb K w A n vals k Y :=
  ⟨h.1, fun j hj => by rw [← hxy j hj]; exact h.2 j hj⟩
theorem Rws.exc {base : Nat} {w w' : World} {K lb : Nat} {A : Nat → Option Addr} {n C : Nat → Nat} {F : Nat → List Int} (h : Rws base w K A n C F) (hD : Dst K lb A) {k : Nat} (hk : k < K) (he : Exc (A k) w w') (ho : w'.ownsRow base 30 1 (.slice (A k) (n k) (C k)) (n k) ((F k).map (Value.int .u64))) : Rws base w' K A n C F := fun j hj => by
  by_cases hjk : j = k
  · subst hjk; exact ho
  · exact he.own (h j hj) (fun g hg hx => hD.1 k j hk hj (fun e => hjk e.symm) g hx hg)
/-- The blocks of the slices lie below a bound. -/
def Old (K : Nat) (A : Nat → Option Addr) (b2 : Nat) : Prop := ∀ k g, k < K → A k = some ⟨g, 0, none⟩ → g < b2
theorem Old.of {base : Nat} {w : World} {K : Nat} {A : Nat → Option Addr} {n C : Nat → Nat} {F : Nat → List Int} (h : Rws base w K A n C F) : Old K A w.heap.size := fun k g hk hA => by
  rcases (h k hk).2 with ⟨h1, _⟩ | ⟨g', cap, cur, hv, hb, hh, _⟩
  · rw [hA] at h1; cases h1
  · rw [hA] at hv; cases hv; exact (Array.getElem?_eq_some_iff.1 hh).1
theorem Nto.new {K : Nat} {A : Nat → Option Addr} {b2 : Nat} (h : Old K A b2) (j : Nat) {a : Option Addr} (ha : ∀ g, a = some ⟨g, 0, none⟩ → b2 ≤ g) : Nto K A j a := fun i hi _ g hg hA => by
  have h1 := h i g hi hA
  have h2 := ha g hg
  omega
theorem Nto.self {K lb : Nat} {A : Nat → Option Addr} (hD : Dst K lb A) {j : Nat} (hj : j < K) : Nto K A j (A j) := fun i hi hij g hg => hD.1 j i hj hi (fun e => hij e.symm) g hg
/-- Below a bound all is as it was, and of what there was the rows of the slices alone may have changed. -/
def Bf (base K : Nat) (A : Nat → Option Addr) (w w' : World) : Prop := Below base w w' ∧ ∀ b, b < w.heap.size → (∀ k, k < K → A k ≠ some ⟨b, 0, none⟩) → w'.heap[b]? = w.heap[b]?
theorem Bf.refl (base K : Nat) (A : Nat → Option Addr) (w : World) : Bf base K A w w := ⟨Below.refl _ _, fun _ _ _ => rfl⟩
theorem Bf.size {base K : Nat} {A : Nat → Option Addr} {w w' : World} (h : Bf base K A w w') : w.heap.size ≤ w'.heap.size := Below.size h.1
theorem Bf.set {base K : Nat} {A : Nat → Option Addr} {w w1 : World} (h : Bf base K A w w1) {k g : Nat} (hk : k < K) (hA : A k = some ⟨g, 0, none⟩) (hb : base ≤ g) (o : Nat) (v : Value) : Bf base K A w (w1.setCell ⟨g, o, none⟩ v) :=
  ⟨h.1.setCell (p := ⟨g, o, none⟩) hb v, fun b hbl hn => (Below.heap_setCell _ _ _ _ (fun e => hn k hk (by rw [hA, show b = g from e]))).trans (h.2 b hbl hn)⟩
theorem Bf.setNew {base K : Nat} {A : Nat → Option Addr} {w w1 : World} (h : Bf base K A w w1) {g : Nat} (hg : w.heap.size ≤ g) (hb : base ≤ g) (o : Nat) (v : Value) : Bf base K A w (w1.setCell ⟨g, o, none⟩ v) :=
  ⟨h.1.setCell (p := ⟨g, o, none⟩) hb v, fun b hbl hn => (Below.heap_setCell _ _ _ _ (show b ≠ g by omega)).trans (h.2 b hbl hn)⟩
theorem Bf.drew {base K : Nat} {A : Nat → Option Addr} {w w1 : World} (h : Bf base K A w w1) : Bf base K A w w1.drew := ⟨h.1.drew, h.2⟩
theorem Bf.drewN {base K : Nat} {A : Nat → Option Addr} {w w1 : World} (h : Bf base K A w w1) (q : Nat) : Bf base K A w (w1.drewN q) := ⟨below_drewN h.1 q, h.2⟩
theorem Bf.grown {base K : Nat} {A : Nat → Option Addr} {w w1 w2 : World} (h : Bf base K A w w1) (hg : w1.grownBy w2 none) (hb : base ≤ w1.heap.size) : Bf base K A w w2 :=
  ⟨h.1.grown hg hb (fun _ e => by cases e), fun b hbl hn => (hg.block b (Nat.lt_of_lt_of_le hbl h.size) (fun e => by cases e)).trans (h.2 b hbl hn)⟩
theorem Bf.step {base K : Nat} {A : Nat → Option Addr} {w w1 w2 : World} (h : Bf base K A w w1) {k : Nat} (hk : k < K) (hb : Below base w1 w2) (he : Exc (A k) w1 w2) : Bf base K A w w2 :=
  ⟨h.1.trans hb, fun b hbl hn => (he.2 b (Nat.lt_of_lt_of_le hbl h.size) (hn k hk)).trans (h.2 b hbl hn)⟩
end Go.Proofs.YtcdjfgkjllonhaaDoor
