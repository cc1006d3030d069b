/-
  Plain facts about pieces one after the other. No condition but those in each statement.
-/
import Derived.Test.YtakpockkagfphaaPck
namespace Go.Proofs.Ytakpockkagfphaa
open Go.RowKit Go.Shelf

/-- The bytes of pieces, one after the other. -/
def catB : List Pc → List Int
  | [] => []
  | p :: r => pcB p ++ catB r
theorem catB_append (a b : List Pc) : catB (a ++ b) = catB a ++ catB b := by
  induction a with
  | nil => rfl
  | cons p r ih => simp [catB, ih]
theorem catB_snoc (a : List Pc) (p : Pc) : catB (a ++ [p]) = catB a ++ pcB p := by rw [catB_append]; simp [catB]
/-- Where each piece ends. -/
def endsB (K : List Pc) : List Int := (List.range (K.length + 1)).map fun i => ((catB (K.take i)).length : Int)
theorem endsB_length (K : List Pc) : (endsB K).length = K.length + 1 := by simp [endsB]
theorem endsB_at (K : List Pc) (i : Nat) (h : i ≤ K.length) : (endsB K)[i]?.getD 0 = ((catB (K.take i)).length : Int) := by
  unfold endsB
  rw [List.getElem?_map, List.getElem?_range (by omega)]
  rfl
theorem endsB_snoc (K : List Pc) (p : Pc) : endsB (K ++ [p]) = endsB K ++ [((catB (K ++ [p])).length : Int)] := by
  unfold endsB
  rw [List.length_append, List.length_singleton, List.range_succ, List.map_append]
  congr 1
  · apply List.map_congr_left
    intro i hi
    have : i ≤ K.length := by have := List.mem_range.1 hi; omega
    rw [List.take_append_of_le_length this]
  · simp [List.take_of_length_le]
theorem catB_split (K : List Pc) (i : Nat) (p : Pc) (h : K[i]? = some p) : catB K = catB (K.take i) ++ (pcB p ++ catB (K.drop (i + 1))) := by
  have hi : i < K.length := (List.getElem?_eq_some_iff.1 h).1
  have he : K[i] = p := (List.getElem?_eq_some_iff.1 h).2
  conv => lhs; rw [← List.take_append_drop i K, List.drop_eq_getElem_cons hi, he]
  rw [catB_append]
  rfl
theorem catB_take (K : List Pc) (i : Nat) (p : Pc) (h : K[i]? = some p) : catB (K.take (i + 1)) = catB (K.take i) ++ pcB p := by
  have hi : i < K.length := (List.getElem?_eq_some_iff.1 h).1
  have he : K[i] = p := (List.getElem?_eq_some_iff.1 h).2
  rw [List.take_succ_eq_append_getElem hi, he, catB_snoc]
theorem catB_drop (K : List Pc) (i : Nat) (p : Pc) (h : K[i]? = some p) : (catB K).drop (catB (K.take i)).length = pcB p ++ catB (K.drop (i + 1)) := by
  rw [catB_split K i p h, List.drop_left]
theorem pcB_le (p : Pc) (hN : p.X ≤ 18446744073709551615) : (pcB p).length ≤ 30 := by
  unfold pcB
  split
  · simp
  · split
    · simp; omega
    · split
      · rw [leB_length]; unfold pcn; omega
      · have := vsize_10 hN; unfold vsize at this; omega
theorem pcB_bytes {w : World} {p : Pc} (h : PcOk w p) : Bytes (pcB p) := by
  obtain ⟨h1, h2, h3, h4, h5⟩ := h
  have b2 := bounds_u8 h2
  have b3 := bounds_u64 h3
  unfold pcB
  split
  · intro c hc; simp at hc; subst hc; exact b2
  · split
    · exact (fits_bytes h5).take 30
    · split
      · exact leB_bytes _ _
      · exact vform_bytes _ b3.1
theorem catB_bytes {w : World} {K : List Pc} (h : ∀ p ∈ K, PcOk w p) : Bytes (catB K) := by
  induction K with
  | nil => intro c hc; cases hc
  | cons p r ih => exact (pcB_bytes (h p (List.mem_cons_self ..))).append (ih fun q hq => h q (List.mem_cons_of_mem _ hq))

/-- The four cells of a piece. -/
def pcV (p : Pc) : List Value := [.int .u8 p.kd, .int .u8 p.N, .int .u64 p.X, .slice p.ba p.bn p.bc]
def pcVs (K : List Pc) : List Value := K.flatMap pcV
theorem pcVs_snoc (K : List Pc) (p : Pc) : pcVs (K ++ [p]) = pcVs K ++ pcV p := by simp [pcVs]
theorem pcVs_length (K : List Pc) : (pcVs K).length = K.length * 4 := by
  induction K with
  | nil => rfl
  | cons p r ih =>
    have : pcVs (p :: r) = pcV p ++ pcVs r := by simp [pcVs]
    rw [this, List.length_append, ih]
    simp [pcV]; omega
theorem pcVs_at (K : List Pc) (i : Nat) (p : Pc) (h : K[i]? = some p) (j : Nat) (hj : j < 4) : (pcVs K)[i * 4 + j]? = (pcV p)[j]? := by
  have hi : i < K.length := (List.getElem?_eq_some_iff.1 h).1
  have he : K[i] = p := (List.getElem?_eq_some_iff.1 h).2
  have hs : pcVs K = pcVs (K.take i) ++ (pcV p ++ pcVs (K.drop (i + 1))) := by
    conv => lhs; rw [← List.take_append_drop i K, List.drop_eq_getElem_cons hi, he]
    simp [pcVs]
  have hl : (pcVs (K.take i)).length = i * 4 := by rw [pcVs_length]; simp; omega
  rw [hs, List.getElem?_append_right (by omega), hl, Nat.add_sub_cancel_left, List.getElem?_append_left (by simp [pcV]; omega)]

theorem own_apart {w : World} {b1 b2 : Nat} {e1 e2 : TypeId} {s1 s2 : Nat} {v1 v2 : Value} {n1 n2 : Nat} {x1 x2 : List Value} (h1 : w.ownsRow b1 e1 s1 v1 n1 x1) (h2 : w.ownsRow b2 e2 s2 v2 n2 x2) (hne : e1 ≠ e2) : ∀ k, v1.ownBlock = some k → v2.ownBlock ≠ some k := by
  intro k hk hk2
  rcases h1.2 with ⟨rfl, _⟩ | ⟨g1, c1, u1, rfl, _, hg1, _⟩
  · simp [Value.ownBlock] at hk
  · rcases h2.2 with ⟨rfl, _⟩ | ⟨g2, c2, u2, rfl, _, hg2, _⟩
    · simp [Value.ownBlock] at hk2
    · simp [Value.ownBlock] at hk hk2
      subst hk; subst hk2
      rw [hg1] at hg2
      simp at hg2
      exact hne hg2.2
theorem own_tri {w : World} {b1 r : Nat} {e1 t : TypeId} {s1 : Nat} {v1 : Value} {n1 : Nat} {x1 : List Value} {a b c : Value} (h1 : w.ownsRow b1 e1 s1 v1 n1 x1) (h2 : Tri w r t a b c) (hne : e1 ≠ t) : v1.ownBlock ≠ some r := by
  intro hk
  rcases h1.2 with ⟨rfl, _⟩ | ⟨g1, c1, u1, rfl, _, hg1, _⟩
  · simp [Value.ownBlock] at hk
  · simp [Value.ownBlock] at hk
    subst hk
    rw [show w.heap[g1]? = _ from h2] at hg1
    simp at hg1
    exact hne hg1.2.symm
end Go.Proofs.Ytakpockkagfphaa
