/-
  Plain facts on wrong forms: bytes that all go on, a last byte 0 too many, a tenth byte that is too great. There are no conditions but those in each statement.
-/
import Derived.Test.YteddbpcpllehoaaRall
namespace Go.Proofs.Yteddbpcpllehoaa
open Go.RowKit

def High (l : List Int) : Prop := ∀ c ∈ l, 128 ≤ c

theorem rdA_high (l : List Int) : ∀ (i : Nat) (p acc : Int) (r : List Int), High l → i + l.length ≤ 9 → ∃ p' acc', rdA i p acc (l ++ r) = rdA (i + l.length) p' acc' r := by
  induction l with
  | nil => intro i p acc r _ _; exact ⟨p, acc, rfl⟩
  | cons c t ih =>
    intro i p acc r hh hl
    simp only [List.length_cons] at hl
    obtain ⟨p', acc', h⟩ := ih (i + 1) (p * 128) (acc + (c - 128) * p) r (fun d hd => hh d (by simp [hd])) (by omega)
    refine ⟨p', acc', ?_⟩
    rw [List.cons_append, rdA_more (by omega) (hh c (by simp)), h]
    congr 1
    simp; omega

theorem vread_high {l : List Int} (h : High l) (hl : l.length ≤ 9) : vread l = (0, 0, 10) := by
  obtain ⟨p', acc', e⟩ := rdA_high l 0 1 0 [] h (by omega)
  rw [List.append_nil] at e
  exact e.trans rfl
theorem vread_zero {l : List Int} (h : High l) (hl : l.length ≤ 9) (h1 : 1 ≤ l.length) : vread (l ++ [0]) = (0, 0, 12) := by
  obtain ⟨p', acc', e⟩ := rdA_high l 0 1 0 [0] h (by omega)
  unfold vread
  rw [e]
  exact rdA_zero rfl (by omega)
theorem vread_over {l : List Int} {c : Int} {r : List Int} (h : High l) (hl : l.length = 9) (hc : 1 < c) : vread (l ++ c :: r) = (0, 0, 11) := by
  obtain ⟨p', acc', e⟩ := rdA_high l 0 1 0 (c :: r) h (by omega)
  unfold vread
  rw [e]
  exact rdA_over (by omega) hc
theorem vread_high10 {l : List Int} (h : High l) (hl : l.length = 10) : vread l = (0, 0, 11) := by
  have e : l = l.take 9 ++ l.drop 9 := (List.take_append_drop 9 l).symm
  have hd : l.drop 9 = l[9]?.getD 0 :: l.drop 10 := drop_cons l 9 (by omega)
  rw [e, hd]
  refine vread_over (fun c hc => h c (List.mem_of_mem_take hc)) (by simp; omega) ?_
  rw [List.getElem?_eq_getElem (by omega : 9 < l.length)]
  have := h _ (List.getElem_mem (by omega : 9 < l.length))
  simp; omega

theorem or128 (c : Int) (h0 : 0 ≤ c) (h1 : c ≤ 255) : 128 ≤ bits .or .u8 c 128 ∧ bits .or .u8 c 128 ≤ 255 := by
  have h : ∀ n : Fin 256, 128 ≤ bits .or .u8 (n.val : Int) 128 ∧ bits .or .u8 (n.val : Int) 128 ≤ 255 := by decide +kernel
  have h2 := h ⟨c.toNat, by omega⟩
  simp only at h2
  rwa [Int.toNat_of_nonneg h0] at h2
theorem or128' (c : Int) (h0 : 0 ≤ c) (h1 : c ≤ 255) : 128 ≤ bits .or .u8 128 c ∧ bits .or .u8 128 c ≤ 255 := by
  have h : ∀ n : Fin 256, 128 ≤ bits .or .u8 128 (n.val : Int) ∧ bits .or .u8 128 (n.val : Int) ≤ 255 := by decide +kernel
  have h2 := h ⟨c.toNat, by omega⟩
  simp only at h2
  rwa [Int.toNat_of_nonneg h0] at h2

/-- The first j bytes with their high bit. -/
def hiL (l : List Int) (j : Nat) : List Int := (l.take j).map (fun c => bits .or .u8 c 128) ++ l.drop j
theorem hiL_zero (l : List Int) : hiL l 0 = l := by simp [hiL]
theorem hiL_length (l : List Int) (j : Nat) (hj : j ≤ l.length) : (hiL l j).length = l.length := by simp [hiL]; omega
theorem hiL_at (l : List Int) (j : Nat) (hj : j < l.length) : (hiL l j)[j]?.getD 0 = l[j]?.getD 0 := by
  unfold hiL
  rw [List.getElem?_append_right (by simp; omega)]
  simp [Nat.min_eq_left (Nat.le_of_lt hj)]
theorem hiL_step (l : List Int) (j : Nat) (hj : j < l.length) : (hiL l j).set j (bits .or .u8 (l[j]?.getD 0) 128) = hiL l (j + 1) := by
  unfold hiL
  have h1 : ((l.take j).map (fun c => bits .or .u8 c 128)).length = j := by simp; omega
  rw [List.set_append_right _ _ (by omega), h1, Nat.sub_self, drop_cons l j hj, List.set_cons_zero, take_snoc l j hj]
  simp
theorem hiL_high (l : List Int) (hB : Bytes l) : High (hiL l l.length) ∧ Bytes (hiL l l.length) := by
  have e : hiL l l.length = l.map (fun c => bits .or .u8 c 128) := by simp [hiL]
  rw [e]
  refine ⟨fun c hc => ?_, fun c hc => ?_⟩
  · obtain ⟨d, hd, rfl⟩ := List.mem_map.1 hc
    exact (or128 d (hB d hd).1 (hB d hd).2).1
  · obtain ⟨d, hd, rfl⟩ := List.mem_map.1 hc
    have := or128 d (hB d hd).1 (hB d hd).2
    omega

/-- All bytes of a form but the last one go on. -/
theorem vform_front (x : Int) : 0 ≤ x → High ((vform x).take ((vform x).length - 1)) := by
  refine vform_ind (P := fun x => 0 ≤ x → High ((vform x).take ((vform x).length - 1))) ?_ ?_ x
  · intro x h _ c hc; rw [vform_lt h] at hc; simp at hc
  · intro x h ih h0 c hc
    rw [vform_ge h] at hc
    have hp := vform_pos (x / 128)
    obtain ⟨n, hn⟩ : ∃ n, (vform (x / 128)).length = n + 1 := ⟨(vform (x / 128)).length - 1, by omega⟩
    simp only [List.length_cons, Nat.add_sub_cancel] at hc
    rw [hn, List.take_succ_cons] at hc
    rcases List.mem_cons.1 hc with rfl | hc
    · omega
    · exact ih (by omega) c (by rw [hn, Nat.add_sub_cancel]; exact hc)

/-- The form with the high bit of its last byte. -/
theorem last_high (x : Int) (h0 : 0 ≤ x) : High ((vform x).set ((vform x).length - 1) (bits .or .u8 ((vform x)[(vform x).length - 1]?.getD 0) 128)) ∧ Bytes ((vform x).set ((vform x).length - 1) (bits .or .u8 ((vform x)[(vform x).length - 1]?.getD 0) 128)) := by
  have hp := vform_pos x
  have hb := Bytes.at (vform_bytes x h0) ((vform x).length - 1) (by omega)
  have ho := or128 _ hb.1 hb.2
  refine ⟨fun c hc => ?_, fun c hc => ?_⟩
  · rw [List.set_eq_take_append_cons_drop, if_pos (by omega)] at hc
    rcases List.mem_append.1 hc with hc | hc
    · exact vform_front x h0 c hc
    · rcases List.mem_cons.1 hc with rfl | hc
      · exact ho.1
      · rw [List.drop_eq_nil_of_le (by omega)] at hc; cases hc
  · rcases List.mem_or_eq_of_mem_set hc with hc | rfl
    · exact vform_bytes x h0 c hc
    · omega
end Go.Proofs.Yteddbpcpllehoaa
