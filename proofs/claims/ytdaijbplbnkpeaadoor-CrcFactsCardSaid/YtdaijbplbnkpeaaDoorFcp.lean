/-
  Plain facts for the law CrcFacts: the parts of all bits of 4096 bytes, from the last one on, as a list: no two are the same, and that of the last one, with another one of them, is none of them.
-/
import Derived.Test.YtdaijbplbnkpeaaDoorHs3
namespace Go.Proofs.YtdaijbplbnkpeaaDoor

/-- The parts of the last m bits, from the last one on. -/
def pl (m : Nat) : List Int := (List.range m).map fun i => ((hn (i + 1) 1 : Nat) : Int)
theorem pl_len (m : Nat) : (pl m).length = m := by simp [pl]
theorem pl_succ (m : Nat) : pl (m + 1) = pl m ++ [((hn (m + 1) 1 : Nat) : Int)] := by simp [pl, List.range_succ]
theorem prt_hn (k : Nat) : prt 4096 k = hn (32768 - k) 1 := rfl
theorem hn_prt {i : Nat} (h : i < 32768) : hn (i + 1) 1 = prt 4096 (32767 - i) := by rw [prt_hn]; congr 1; omega
theorem pl_mem {m : Nat} {x : Int} (h : x ∈ pl m) : ∃ i, i < m ∧ x = ((hn (i + 1) 1 : Nat) : Int) := by
  simp only [pl, List.mem_map, List.mem_range] at h
  obtain ⟨i, hi, rfl⟩ := h
  exact ⟨i, hi, rfl⟩
theorem hn_twice {i j : Nat} (hi : i < 32768) (hj : j < 32768) (h : i ≠ j) : hn (i + 1) 1 ≠ hn (j + 1) 1 := by
  rw [hn_prt hi, hn_prt hj]
  intro e
  exact prt_two (N := 4096) (by omega) (x := 32767 - i) (y := 32767 - j) (by omega) (by omega) (by omega) (by rw [e, Nat.xor_self])
theorem pl_nodup : (pl 32768).Nodup := by
  unfold pl List.Nodup
  rw [List.pairwise_map]
  refine List.Pairwise.imp_of_mem ?_ (List.nodup_range (n := 32768))
  intro a b ha hb hab he
  exact hn_twice (List.mem_range.1 ha) (List.mem_range.1 hb) hab (by exact_mod_cast he)
theorem perm_differ {M : List Int} (h : M.Perm (pl 32768)) {i j : Nat} (hij : i < j) (hj : j < 32768) : M[i]?.getD 0 ≠ M[j]?.getD 0 := by
  have hl : M.length = 32768 := h.length_eq.trans (pl_len _)
  have hn : M.Nodup := h.nodup_iff.2 pl_nodup
  have := List.pairwise_iff_getElem.1 hn i j (by omega) (by omega) hij
  rwa [List.getElem?_eq_getElem (by omega), List.getElem?_eq_getElem (by omega)]
theorem perm_at {M : List Int} (h : M.Perm (pl 32768)) {i : Nat} (hi : i < 32768) : ∃ c : Nat, c < 4294967296 ∧ M[i]?.getD 0 = (c : Int) ∧ ((c ^^^ hn 1 1 : Nat) : Int) ∉ M := by
  have hl : M.length = 32768 := h.length_eq.trans (pl_len _)
  have hm : M[i]?.getD 0 ∈ pl 32768 := by
    rw [List.getElem?_eq_getElem (by omega)]
    exact h.mem_iff.1 (List.getElem_mem _)
  obtain ⟨j, hj, he⟩ := pl_mem hm
  refine ⟨hn (j + 1) 1, hn_lt _ (by decide), he, fun hx => ?_⟩
  obtain ⟨k, hk, he2⟩ := pl_mem (h.mem_iff.1 hx)
  have he3 : hn (j + 1) 1 ^^^ hn 1 1 = hn (k + 1) 1 := by exact_mod_cast he2
  have e0 : hn 1 1 = prt 4096 32767 := hn_prt (i := 0) (by omega)
  rw [hn_prt hj, hn_prt hk, e0] at he3
  have he4 : prt 4096 (32767 - j) ^^^ (prt 4096 32767 ^^^ prt 4096 (32767 - k)) = 0 := by rw [← Nat.xor_assoc, he3, Nat.xor_self]
  by_cases h1 : j = 0
  · subst h1
    rw [Nat.sub_zero, ← Nat.xor_assoc, Nat.xor_self, Nat.zero_xor] at he4
    exact prt_ne _ _ he4
  · by_cases h2 : k = 0
    · subst h2
      rw [Nat.sub_zero, Nat.xor_self, Nat.xor_zero] at he4
      exact prt_ne _ _ he4
    · by_cases h3 : j = k
      · subst h3
        rw [Nat.xor_comm (prt 4096 32767), ← Nat.xor_assoc, Nat.xor_self, Nat.zero_xor] at he4
        exact prt_ne _ _ he4
      · exact prt_three (N := 4096) (by omega) (by omega) (by omega) (by omega) (by omega) (by omega) (by omega) he4
theorem hs_hn (m : Nat) : hs (hn (m + 1) 1) = hn (m + 2) 1 := (hn_succ (m + 1) 1).symm
end Go.Proofs.YtdaijbplbnkpeaaDoor
