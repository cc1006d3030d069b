/-
  From a row of cells that a call owns to a slice that reads as a list, and back; the facts on the element types that appending wants. No condition but those in each statement.
-/
import Derived.Test.YtcdjfgkjllonhaaDoorMem
import Derived.OpenShut
namespace Go.Proofs.YtcdjfgkjllonhaaDoor
open Go.RowKit

theorem infoU8 : (Tryd.prog.info? 5).map (fun i => (i.zero, i.size, i.bytes)) = some (some (.int .u8 0), 1, 1) := by kernel_rfl
theorem infoU64 : (Tryd.prog.info? 30).map (fun i => (i.zero, i.size, i.bytes)) = some (some (.int .u64 0), 1, 8) := by kernel_rfl

theorem own_shape {w : World} {base : Nat} {e : TypeId} {s : Nat} {v : Value} {n : Nat} {xs : List Value} (h : w.ownsRow base e s v n xs) : ∃ a cap, v = .slice a n cap := by
  rcases h.2 with ⟨rfl, rfl⟩ | ⟨g, cap, cur, rfl, _⟩
  · exact ⟨none, 0, rfl⟩
  · exact ⟨_, cap, rfl⟩

/-- What a call owns reads as its list. -/
theorem own_sl {w : World} {base : Nat} {e : TypeId} {k : IntKind} {a : Option Addr} {n cap : Nat} {l : List Int} (h : w.ownsRow base e 1 (.slice a n cap) n (l.map (Value.int k))) : Sl k w a n cap l := by
  have hl : l.length = n := by have := h.1; simpa using this
  rcases h.2 with ⟨hv, hn⟩ | ⟨g, cap', cur, hv, hb, hg, hn, hm, hc, ht⟩
  · cases hv
    exact ⟨hl, Nat.le_refl _, by omega, .inl ⟨by first | rfl | omega, rfl⟩⟩
  · cases hv
    refine ⟨hl, hn, by unfold maxLen at hm; omega, .inr ⟨g, 0, rfl, (Array.getElem?_eq_some_iff.1 hg).1, fun i hi => ?_⟩⟩
    have hx := h.cellAt i (by omega)
    rw [Nat.zero_add, hx, List.getElem?_map, List.getElem?_eq_getElem (by omega : i < l.length)]
    simp

/-- One new cell of an integer. -/
theorem one_cell (w : World) (k : IntKind) (x : Int) (e : TypeId) : ∀ j u, [Value.int k x][j]? = some u → (w.alloc (.cells #[.int k x] e)).cell? ((⟨w.heap.size, 0, none⟩ : Addr).add j) = some u := by
  intro j u hj
  match j, hj with
  | 0, hj => simp at hj; subst hj; simp [Addr.add]
theorem one_one (k : IntKind) (x : Int) : ∀ u ∈ [Value.int k x], u.oneCell' = true := by
  intro u hu; simp at hu; subst hu; rfl

/-- A block that holds just the list's integers. -/
def Blk (k : IntKind) (e : TypeId) (w : World) (g : Nat) (l : List Int) : Prop := w.heap[g]? = some (.cells (l.map (Value.int k)).toArray e (0, 0))

theorem Blk.lt {k : IntKind} {e : TypeId} {w : World} {g : Nat} {l : List Int} (h : Blk k e w g l) : g < w.heap.size := (Array.getElem?_eq_some_iff.1 h).1
theorem Blk.new (k : IntKind) (e : TypeId) (w : World) (l : List Int) : Blk k e (w.alloc (.cells (l.map (Value.int k)).toArray e)) w.heap.size l := heap_alloc_new w _
theorem Blk.kept {k : IntKind} {e : TypeId} {w w' : World} {row : Option Nat} {g : Nat} {l : List Int} (h : Blk k e w g l) (hg : w.grownBy w' row) (hne : some g ≠ row) : Blk k e w' g l := (hg.block g h.lt hne).trans h
theorem Blk.alloc {k : IntKind} {e : TypeId} {w : World} {g : Nat} {l : List Int} (h : Blk k e w g l) (o : Obj) : Blk k e (w.alloc o) g l := h.kept (World.grownBy_alloc w o none) (by simp)
theorem Blk.below {k : IntKind} {e : TypeId} {w w' : World} {g : Nat} {l : List Int} (h : Blk k e w g l) (hb : Below w.heap.size w w') : Blk k e w' g l := (hb.block g h.lt).trans h
theorem Blk.at {k : IntKind} {e : TypeId} {w : World} {g : Nat} {l : List Int} (h : Blk k e w g l) (i : Nat) (hi : i < l.length) : w.cell? ⟨g, i, none⟩ = some (.int k (l[i]?.getD 0)) := by
  simp [World.cell?, show w.heap[g]? = _ from h, hi]
theorem Blk.sl {k : IntKind} {e : TypeId} {w : World} {g : Nat} {l : List Int} (h : Blk k e w g l) (hl : l.length ≤ 9223372036854775807) : Sl k w (some ⟨g, 0, none⟩) l.length l.length l :=
  ⟨rfl, Nat.le_refl _, hl, .inr ⟨g, 0, rfl, h.lt, fun i hi => by rw [Nat.zero_add]; exact h.at i hi⟩⟩
theorem Sl.nil (k : IntKind) (w : World) : Sl k w none 0 0 [] := ⟨rfl, Nat.le_refl _, by omega, .inl ⟨by first | rfl | omega, rfl⟩⟩

/-- The numbers fit their kind. -/
def Fits (k : IntKind) (l : List Int) : Prop := ∀ n ∈ l, (Lit.int k n).wf = true
theorem Fits.nil (k : IntKind) : Fits k [] := fun _ h => by cases h
theorem Fits.take {k : IntKind} {l : List Int} (h : ∀ n ∈ l, (Lit.int k n).wf = true) {m : Nat} : Fits k (l.take m) := fun n hn => h n (List.mem_of_mem_take hn)
/-- The cells as the reading of an argument gives them. -/
theorem Sl.of_cells {k : IntKind} {w : World} {x : Addr} {len cap : Nat} {zs : List Int} (hl : len ≤ cap) (hm : cap ≤ maxLen) (hz : zs.length = cap)
    (hcell : ∀ i, i < zs.length → w.cell? (x.add i) = some (.int k (zs.getD i 0))) : Sl k w (some x) len cap (zs.take len) := by
  refine ⟨by simp; omega, hl, by unfold maxLen at hm; omega, ?_⟩
  by_cases h0 : cap = 0
  · exact .inl ⟨by omega, h0⟩
  · obtain ⟨b, off, spot⟩ := x
    have hc := hcell 0 (by omega)
    have hspot : spot = none := by simpa [Addr.add] using World.cell?_spot hc
    subst hspot
    refine .inr ⟨b, off, rfl, World.block_lt_of_cell? w _ hc, fun i hi => ?_⟩
    have h := hcell i (by omega)
    have e0 : (⟨b, off, none⟩ : Addr).add i = ⟨b, off + i, none⟩ := by cases i <;> simp [Addr.add]
    rw [e0] at h
    rw [h, List.getElem?_take]
    simp [hi]

theorem Sl.upto {k : IntKind} {w : World} {a : Option Addr} {len cap : Nat} {l : List Int} (h : Sl k w a len cap l) (m : Nat) (hm : m ≤ len) : Sl k w a m cap (l.take m) := by
  obtain ⟨h1, h2, h3, h4⟩ := h
  refine ⟨by simp; omega, by omega, h3, ?_⟩
  rcases h4 with ⟨h5, h6⟩ | ⟨b, off, ha, hlt, hc⟩
  · exact .inl ⟨by omega, h6⟩
  · refine .inr ⟨b, off, ha, hlt, fun i hi => ?_⟩
    rw [hc i (by omega), List.getElem?_take]
    simp [hi]

theorem Sl.capped {k : IntKind} {w : World} {a : Option Addr} {len cap : Nat} {l : List Int} (h : Sl k w a len cap l) : Sl k w a len len l := by
  obtain ⟨h1, h2, h3, h4⟩ := h
  refine ⟨h1, Nat.le_refl _, by omega, ?_⟩
  rcases h4 with ⟨h5, _⟩ | h4
  · exact .inl ⟨h5, h5⟩
  · exact .inr h4

theorem Sl.view {k : IntKind} {w : World} {a : Option Addr} {len cap : Nat} {l : List Int} (h : Sl k w a len cap l) (h0 : 0 < len) : ∃ b off, a = some ⟨b, off, none⟩ ∧ ∀ i, i < len → w.cell? ⟨b, off + i, none⟩ = some (.int k (l[i]?.getD 0)) := by
  obtain ⟨_, _, _, h4⟩ := h
  rcases h4 with ⟨h5, _⟩ | ⟨b, off, ha, _, hc⟩
  · omega
  · exact ⟨b, off, ha, hc⟩

theorem sameBytes_yes (w : World) (a1 a2 : Option Addr) (n1 c1 n2 c2 : Nat) (l1 l2 : List Int) (h1 : Sl .u8 w a1 n1 c1 l1) (h2 : Sl .u8 w a2 n2 c2 l2) (h : l1 = l2) :
    Calls Tryd.prog 94 #[.slice a1 n1 c1, .slice a2 n2 c2] w fun e w' => e = .returned (.bool true) ∧ Draws w w' :=
  (sameBytes_any w a1 a2 n1 c1 n2 c2 l1 l2 h1 h2).mono fun _ _ ⟨he, hd⟩ => ⟨by rw [he, eqB_yes h], hd⟩
theorem sameBytes_no (w : World) (a1 a2 : Option Addr) (n1 c1 n2 c2 : Nat) (l1 l2 : List Int) (h1 : Sl .u8 w a1 n1 c1 l1) (h2 : Sl .u8 w a2 n2 c2 l2) (h : l1 ≠ l2) :
    Calls Tryd.prog 94 #[.slice a1 n1 c1, .slice a2 n2 c2] w fun e w' => e = .returned (.bool false) ∧ Draws w w' :=
  (sameBytes_any w a1 a2 n1 c1 n2 c2 l1 l2 h1 h2).mono fun _ _ ⟨he, hd⟩ => ⟨by rw [he, eqB_no h], hd⟩
theorem sameNums_yes (w : World) (a1 a2 : Option Addr) (n1 c1 n2 c2 : Nat) (l1 l2 : List Int) (h1 : Sl .u64 w a1 n1 c1 l1) (h2 : Sl .u64 w a2 n2 c2 l2) (h : l1 = l2) :
    Calls Tryd.prog 33 #[.slice a1 n1 c1, .slice a2 n2 c2] w fun e w' => e = .returned (.bool true) ∧ Draws w w' :=
  (sameNums_any w a1 a2 n1 c1 n2 c2 l1 l2 h1 h2).mono fun _ _ ⟨he, hd⟩ => ⟨by rw [he, eqB_yes h], hd⟩
end Go.Proofs.YtcdjfgkjllonhaaDoor
