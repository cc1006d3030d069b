/-
  Slices of calls (Act) and of pieces (Piece) as arguments: each element's cells, and its bytes. No condition but those in each statement.
-/
import Derived.Test.YtakpockkagfphaaWall
import Derived.ProofKit
import Derived.Deep.Slices
import Derived.ChangeSame
import Derived.Deep.MidRow
namespace Go.Proofs.Ytakpockkagfphaa
open Go.RowKit Go.ChangeShapes Go.WideShapes Go.Deep

theorem some_of_len {α : Type} {xs : List α} {n i : Nat} (h : xs.length = n) (hi : i < n) : ∃ x, xs[i]? = some x := ⟨xs[i], List.getElem?_eq_getElem (by omega)⟩

theorem list5 {α : Type} {l : List α} (h : l.length = 5) : ∃ a b c d e, l = [a, b, c, d, e] := by
  match l, h with
  | [a, b, c, d, e], _ => exact ⟨a, b, c, d, e, rfl⟩
theorem list4 {α : Type} {l : List α} (h : l.length = 4) : ∃ a b c d, l = [a, b, c, d] := by
  match l, h with
  | [a, b, c, d], _ => exact ⟨a, b, c, d, rfl⟩

/-- A slice of bytes that is read. -/
theorem sl_of_trod {H : Type} {enc : TypeId × Value → H} {W : World} {held : Bool} {fuel : Nat} {cs : List Value} {x : DataW H × List MemPlace} (hf : DataW.trod enc Try.prog W 0 (fun _ => true) held fuel 22 cs = some x) :
    ∃ a len cap l, cs = [.slice a len cap] ∧ Sl .u8 W a len cap l ∧ Fits .u8 l := by
  rcases open_ints Try.underlying22 Try.underlying5 (by kernel_rfl) hf with ⟨hcs, _⟩ | ⟨x, len, cap, zs, hcs, _, hl, hm, hz, _, hcell, hwz⟩
  · exact ⟨none, 0, 0, [], hcs, Sl.nil _ _, Fits.nil _⟩
  · exact ⟨some x, len, cap, zs.take len, hcs, Sl.of_cells hl hm (by simpa using hz) hcell, Fits.take hwz⟩

theorem open_act {H : Type} {enc : TypeId × Value → H} {W : World} {held : Bool} {fuel : Nat} {cs : List Value} {x : DataW H × List MemPlace} (h : DataW.trod enc Try.prog W 0 (fun _ => true) held fuel 30 cs = some x) :
    ∃ kd n m X ba bn bc bl, cs = [.int .u8 kd, .int .i64 n, .int .i64 m, .int .u64 X, .slice ba bn bc] ∧ (Lit.int .u8 kd).wf = true ∧ (Lit.int .i64 n).wf = true ∧ (Lit.int .i64 m).wf = true ∧ (Lit.int .u64 X).wf = true ∧ Sl .u8 W ba bn bc bl ∧ Fits .u8 bl := by
  obtain ⟨xs, f, _, _, hlen, hxl, hf⟩ := DataW.trod_struct Try.underlying30 h
  have hc5 : Try.prog.cellsOf 30 = 5 := by kernel_rfl
  have hu8 : Try.prog.cellsOf 5 = 1 := by kernel_rfl
  have hi64 : Try.prog.cellsOf 3 = 1 := by kernel_rfl
  have hu64 : Try.prog.cellsOf 28 = 1 := by kernel_rfl
  have hsl : Try.prog.cellsOf 22 = 1 := by kernel_rfl
  rw [hc5] at hlen
  obtain ⟨c0, c1, c2, c3, c4, rfl⟩ := list5 hlen
  have hxl : xs.length = 5 := hxl
  obtain ⟨x0, e0⟩ := some_of_len hxl (i := 0) (by omega)
  obtain ⟨x1, e1⟩ := some_of_len hxl (i := 1) (by omega)
  obtain ⟨x2, e2⟩ := some_of_len hxl (i := 2) (by omega)
  obtain ⟨x3, e3⟩ := some_of_len hxl (i := 3) (by omega)
  obtain ⟨x4, e4⟩ := some_of_len hxl (i := 4) (by omega)
  have h0 : DataW.trod enc Try.prog W 0 (fun _ => true) held f 5 [c0] = some x0 := by have := (hf 0 _ rfl).trans e0; simpa [hu8] using this
  have h1 : DataW.trod enc Try.prog W 0 (fun _ => true) held f 3 [c1] = some x1 := by have := (hf 1 _ rfl).trans e1; simpa [hi64] using this
  have h2 : DataW.trod enc Try.prog W 0 (fun _ => true) held f 3 [c2] = some x2 := by have := (hf 2 _ rfl).trans e2; simpa [hi64] using this
  have h3 : DataW.trod enc Try.prog W 0 (fun _ => true) held f 28 [c3] = some x3 := by have := (hf 3 _ rfl).trans e3; simpa [hu64] using this
  have h4 : DataW.trod enc Try.prog W 0 (fun _ => true) held f 22 [c4] = some x4 := by have := (hf 4 _ rfl).trans e4; simpa [hsl] using this
  obtain ⟨kd, r0, _, w0⟩ := DataW.trod_int Try.underlying5 h0
  obtain ⟨n, r1, _, w1⟩ := DataW.trod_int Try.underlying3 h1
  obtain ⟨m, r2, _, w2⟩ := DataW.trod_int Try.underlying3 h2
  obtain ⟨X, r3, _, w3⟩ := DataW.trod_int Try.underlying28 h3
  obtain ⟨ba, bn, bc, bl, r4, s4, f4⟩ := sl_of_trod h4
  simp only [List.cons.injEq, and_true] at r0 r1 r2 r3 r4
  exact ⟨kd, n, m, X, ba, bn, bc, bl, by rw [r0, r1, r2, r3, r4], w0, w1, w2, w3, s4, f4⟩

/-- A call as it lies in memory. -/
def ActAt (w : World) (b off : Nat) : Prop :=
  ∃ kd n m X ba bn bc bl, w.cell? ⟨b, off, none⟩ = some (.int .u8 kd) ∧ w.cell? ⟨b, off + 1, none⟩ = some (.int .i64 n) ∧ w.cell? ⟨b, off + 2, none⟩ = some (.int .i64 m) ∧ w.cell? ⟨b, off + 3, none⟩ = some (.int .u64 X) ∧ w.cell? ⟨b, off + 4, none⟩ = some (.slice ba bn bc) ∧
    (Lit.int .u8 kd).wf = true ∧ (Lit.int .i64 n).wf = true ∧ (Lit.int .i64 m).wf = true ∧ (Lit.int .u64 X).wf = true ∧ Sl .u8 w ba bn bc bl ∧ Fits .u8 bl
theorem ActAt.below {w w' : World} {b off : Nat} (h : ActAt w b off) (hb : Below w.heap.size w w') : ActAt w' b off := by
  obtain ⟨kd, n, m, X, ba, bn, bc, bl, c0, c1, c2, c3, c4, w0, w1, w2, w3, s, f⟩ := h
  have hl : b < w.heap.size := World.block_lt_of_cell? w _ c0
  exact ⟨kd, n, m, X, ba, bn, bc, bl, (hb.cell (p := ⟨b, off, none⟩) hl).trans c0, (hb.cell (p := ⟨b, off + 1, none⟩) hl).trans c1, (hb.cell (p := ⟨b, off + 2, none⟩) hl).trans c2, (hb.cell (p := ⟨b, off + 3, none⟩) hl).trans c3, (hb.cell (p := ⟨b, off + 4, none⟩) hl).trans c4, w0, w1, w2, w3, s.below hb, f⟩

/-- A slice of calls. -/
def Acts (w : World) (a : Option Addr) (len cap : Nat) : Prop :=
  len ≤ cap ∧ cap ≤ 9223372036854775807 ∧ ((len = 0 ∧ cap = 0) ∨ ∃ b off, a = some ⟨b, off, none⟩ ∧ ∀ i, i < len → ActAt w b (off + i * 5))
theorem Acts.below {w w' : World} {a : Option Addr} {len cap : Nat} (h : Acts w a len cap) (hb : Below w.heap.size w w') : Acts w' a len cap := by
  obtain ⟨h1, h2, h3⟩ := h
  refine ⟨h1, h2, ?_⟩
  rcases h3 with h3 | ⟨b, off, ha, hi⟩
  · exact .inl h3
  · exact .inr ⟨b, off, ha, fun i hh => (hi i hh).below hb⟩

theorem open_acts {H : Type} {enc : TypeId × Value → H} {W : World} {held : Bool} {fuel : Nat} {a : Option Addr} {len cap : Nat} {x : DataW H × List MemPlace} (h : DataW.trod enc Try.prog W 0 (fun _ => true) held fuel 23 [.slice a len cap] = some x) : Acts W a len cap := by
  have hc5 : Try.prog.cellsOf 30 = 5 := by kernel_rfl
  rcases open_slice Try.underlying23 h with ⟨hcs, _⟩ | ⟨p, len', cap', m, n, D, Pl, hcs, _, hl, hm, hmm, _, hi⟩
  · simp only [List.cons.injEq, Value.slice.injEq, and_true] at hcs
    obtain ⟨rfl, rfl, rfl⟩ := hcs
    exact ⟨Nat.le_refl _, by omega, .inl ⟨rfl, rfl⟩⟩
  · simp only [List.cons.injEq, Value.slice.injEq, and_true] at hcs
    obtain ⟨rfl, rfl, rfl⟩ := hcs
    have hm' : m = cap := by rw [hmm]; rfl
    subst hm'
    refine ⟨hl, by unfold maxLen at hm; omega, ?_⟩
    by_cases h0 : m = 0
    · exact .inl ⟨by omega, h0⟩
    · have hat : ∀ i, i < m → ∃ kd n m X ba bn bc bl, (∀ j v, [Value.int .u8 kd, .int .i64 n, .int .i64 m, .int .u64 X, .slice ba bn bc][j]? = some v → W.cell? ((p.add (i * 5)).add j) = some v) ∧ (Lit.int .u8 kd).wf = true ∧ (Lit.int .i64 n).wf = true ∧ (Lit.int .i64 m).wf = true ∧ (Lit.int .u64 X).wf = true ∧ Sl .u8 W ba bn bc bl ∧ Fits .u8 bl := by
        intro i him
        obtain ⟨cs, hcells, ht⟩ := hi i him
        rw [hc5] at hcells
        obtain ⟨_, _, hcell⟩ := World.cells?_some hcells
        obtain ⟨kd, n, m, X, ba, bn, bc, bl, rfl, r⟩ := open_act ht
        refine ⟨kd, n, m, X, ba, bn, bc, bl, fun j v hv => ?_, r⟩
        have hj : j < 5 := by have := (List.getElem?_eq_some_iff.1 hv).1; simpa using this
        rw [hcell j hj]; exact hv
      obtain ⟨b, off, spot⟩ := p
      have hspot : spot = none := by
        obtain ⟨_, _, _, _, _, _, _, _, hc, _⟩ := hat 0 (by omega)
        have := World.cell?_spot (hc 0 _ rfl)
        simpa [Addr.add] using this
      subst hspot
      refine .inr ⟨b, off, rfl, fun i hh => ?_⟩
      obtain ⟨kd, n, m, X, ba, bn, bc, bl, hc, r⟩ := hat i (by omega)
      simp only [Addr.add_mid] at hc
      exact ⟨kd, n, m, X, ba, bn, bc, bl, hc 0 _ rfl, hc 1 _ rfl, hc 2 _ rfl, hc 3 _ rfl, hc 4 _ rfl, r⟩

/-- A piece, as it is written and read back. -/
structure Pc where
  kd : Int
  N : Int
  X : Int
  ba : Option Addr
  bn : Nat
  bc : Nat
  bl : List Int

theorem open_piece {H : Type} {enc : TypeId × Value → H} {W : World} {held : Bool} {fuel : Nat} {cs : List Value} {x : DataW H × List MemPlace} (h : DataW.trod enc Try.prog W 0 (fun _ => true) held fuel 39 cs = some x) :
    ∃ p : Pc, cs = [.int .u8 p.kd, .int .u8 p.N, .int .u64 p.X, .slice p.ba p.bn p.bc] ∧ (Lit.int .u8 p.kd).wf = true ∧ (Lit.int .u8 p.N).wf = true ∧ (Lit.int .u64 p.X).wf = true ∧ Sl .u8 W p.ba p.bn p.bc p.bl ∧ Fits .u8 p.bl := by
  obtain ⟨xs, f, _, _, hlen, hxl, hf⟩ := DataW.trod_struct Try.underlying39 h
  have hc4 : Try.prog.cellsOf 39 = 4 := by kernel_rfl
  have hu8 : Try.prog.cellsOf 5 = 1 := by kernel_rfl
  have hu64 : Try.prog.cellsOf 28 = 1 := by kernel_rfl
  have hsl : Try.prog.cellsOf 22 = 1 := by kernel_rfl
  rw [hc4] at hlen
  obtain ⟨c0, c1, c2, c3, rfl⟩ := list4 hlen
  have hxl : xs.length = 4 := hxl
  obtain ⟨x0, e0⟩ := some_of_len hxl (i := 0) (by omega)
  obtain ⟨x1, e1⟩ := some_of_len hxl (i := 1) (by omega)
  obtain ⟨x2, e2⟩ := some_of_len hxl (i := 2) (by omega)
  obtain ⟨x3, e3⟩ := some_of_len hxl (i := 3) (by omega)
  have h0 : DataW.trod enc Try.prog W 0 (fun _ => true) held f 5 [c0] = some x0 := by have := (hf 0 _ rfl).trans e0; simpa [hu8] using this
  have h1 : DataW.trod enc Try.prog W 0 (fun _ => true) held f 5 [c1] = some x1 := by have := (hf 1 _ rfl).trans e1; simpa [hu8] using this
  have h2 : DataW.trod enc Try.prog W 0 (fun _ => true) held f 28 [c2] = some x2 := by have := (hf 2 _ rfl).trans e2; simpa [hu64] using this
  have h3 : DataW.trod enc Try.prog W 0 (fun _ => true) held f 22 [c3] = some x3 := by have := (hf 3 _ rfl).trans e3; simpa [hsl] using this
  obtain ⟨kd, r0, _, w0⟩ := DataW.trod_int Try.underlying5 h0
  obtain ⟨N, r1, _, w1⟩ := DataW.trod_int Try.underlying5 h1
  obtain ⟨X, r2, _, w2⟩ := DataW.trod_int Try.underlying28 h2
  obtain ⟨ba, bn, bc, bl, r3, s3, f3⟩ := sl_of_trod h3
  simp only [List.cons.injEq, and_true] at r0 r1 r2 r3
  exact ⟨⟨kd, N, X, ba, bn, bc, bl⟩, by rw [r0, r1, r2, r3], w0, w1, w2, s3, f3⟩

/-- A piece as it lies in memory. -/
def PcAt (w : World) (b off : Nat) (p : Pc) : Prop :=
  w.cell? ⟨b, off, none⟩ = some (.int .u8 p.kd) ∧ w.cell? ⟨b, off + 1, none⟩ = some (.int .u8 p.N) ∧ w.cell? ⟨b, off + 2, none⟩ = some (.int .u64 p.X) ∧ w.cell? ⟨b, off + 3, none⟩ = some (.slice p.ba p.bn p.bc)
/-- A right piece: its numbers fit, its bytes read. -/
def PcOk (w : World) (p : Pc) : Prop := (Lit.int .u8 p.kd).wf = true ∧ (Lit.int .u8 p.N).wf = true ∧ (Lit.int .u64 p.X).wf = true ∧ Sl .u8 w p.ba p.bn p.bc p.bl ∧ Fits .u8 p.bl
theorem PcAt.below {w w' : World} {b off : Nat} {p : Pc} (h : PcAt w b off p) (hb : Below w.heap.size w w') : PcAt w' b off p := by
  obtain ⟨c0, c1, c2, c3⟩ := h
  have hl : b < w.heap.size := World.block_lt_of_cell? w _ c0
  exact ⟨(hb.cell (p := ⟨b, off, none⟩) hl).trans c0, (hb.cell (p := ⟨b, off + 1, none⟩) hl).trans c1, (hb.cell (p := ⟨b, off + 2, none⟩) hl).trans c2, (hb.cell (p := ⟨b, off + 3, none⟩) hl).trans c3⟩
theorem PcOk.below {w w' : World} {p : Pc} (h : PcOk w p) (hb : Below w.heap.size w w') : PcOk w' p := ⟨h.1, h.2.1, h.2.2.1, h.2.2.2.1.below hb, h.2.2.2.2⟩

/-- A slice of pieces: the pieces are f 0, f 1, .. -/
def Pcs (w : World) (a : Option Addr) (len cap : Nat) (f : Nat → Pc) : Prop :=
  len ≤ cap ∧ cap ≤ 9223372036854775807 ∧ ((len = 0 ∧ cap = 0) ∨ ∃ b off, a = some ⟨b, off, none⟩ ∧ ∀ i, i < len → PcAt w b (off + i * 4) (f i) ∧ PcOk w (f i))
theorem Pcs.below {w w' : World} {a : Option Addr} {len cap : Nat} {f : Nat → Pc} (h : Pcs w a len cap f) (hb : Below w.heap.size w w') : Pcs w' a len cap f := by
  obtain ⟨h1, h2, h3⟩ := h
  refine ⟨h1, h2, ?_⟩
  rcases h3 with h3 | ⟨b, off, ha, hi⟩
  · exact .inl h3
  · exact .inr ⟨b, off, ha, fun i hh => ⟨(hi i hh).1.below hb, (hi i hh).2.below hb⟩⟩

theorem open_pieces {H : Type} {enc : TypeId × Value → H} {W : World} {held : Bool} {fuel : Nat} {a : Option Addr} {len cap : Nat} {x : DataW H × List MemPlace} (h : DataW.trod enc Try.prog W 0 (fun _ => true) held fuel 32 [.slice a len cap] = some x) : ∃ f, Pcs W a len cap f := by
  have hc4 : Try.prog.cellsOf 39 = 4 := by kernel_rfl
  rcases open_slice Try.underlying32 h with ⟨hcs, _⟩ | ⟨p, len', cap', m, n, D, Pl, hcs, _, hl, hm, hmm, _, hi⟩
  · simp only [List.cons.injEq, Value.slice.injEq, and_true] at hcs
    obtain ⟨rfl, rfl, rfl⟩ := hcs
    exact ⟨fun _ => ⟨0, 0, 0, none, 0, 0, []⟩, Nat.le_refl _, by omega, .inl ⟨rfl, rfl⟩⟩
  · simp only [List.cons.injEq, Value.slice.injEq, and_true] at hcs
    obtain ⟨rfl, rfl, rfl⟩ := hcs
    have hm' : m = cap := by rw [hmm]; rfl
    subst hm'
    have hat : ∀ i, ∃ q : Pc, i < m → (∀ j v, [Value.int .u8 q.kd, .int .u8 q.N, .int .u64 q.X, .slice q.ba q.bn q.bc][j]? = some v → W.cell? ((p.add (i * 4)).add j) = some v) ∧ PcOk W q := by
      intro i
      by_cases him : i < m
      · obtain ⟨cs, hcells, ht⟩ := hi i him
        rw [hc4] at hcells
        obtain ⟨_, _, hcell⟩ := World.cells?_some hcells
        obtain ⟨q, rfl, r⟩ := open_piece ht
        refine ⟨q, fun _ => ⟨fun j v hv => ?_, r⟩⟩
        have hj : j < 4 := by have := (List.getElem?_eq_some_iff.1 hv).1; simpa using this
        rw [hcell j hj]; exact hv
      · exact ⟨⟨0, 0, 0, none, 0, 0, []⟩, fun hh => absurd hh him⟩
    obtain ⟨f, hf⟩ : ∃ f : Nat → Pc, ∀ i, i < m → (∀ j v, [Value.int .u8 (f i).kd, .int .u8 (f i).N, .int .u64 (f i).X, .slice (f i).ba (f i).bn (f i).bc][j]? = some v → W.cell? ((p.add (i * 4)).add j) = some v) ∧ PcOk W (f i) := ⟨fun i => (hat i).choose, fun i => (hat i).choose_spec⟩
    refine ⟨f, hl, by unfold maxLen at hm; omega, ?_⟩
    by_cases h0 : m = 0
    · exact .inl ⟨by omega, h0⟩
    · obtain ⟨b, off, spot⟩ := p
      have hspot : spot = none := by
        have := World.cell?_spot ((hf 0 (by omega)).1 0 _ rfl)
        simpa [Addr.add] using this
      subst hspot
      refine .inr ⟨b, off, rfl, fun i hh => ?_⟩
      obtain ⟨hc, r⟩ := hf i (by omega)
      simp only [Addr.add_mid] at hc
      exact ⟨⟨hc 0 _ rfl, hc 1 _ rfl, hc 2 _ rfl, hc 3 _ rfl⟩, r⟩
end Go.Proofs.Ytakpockkagfphaa
