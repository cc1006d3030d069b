/-
  Plain facts on changes of one, two and three bits of at most 4096 bytes. No program is named here; the conditions are those in each statement.
-/
import Derived.Test.YtdaijbplbnkpeaaDoorHsb
namespace Go.Proofs.YtdaijbplbnkpeaaDoor

theorem rvn_prt (N k : Nat) : rvn (prt N k) 32 = pm (2 ^ (31 + (8 * N - k))) gP := by
  unfold prt
  rw [rvn_hn _ (by decide), show rvn 1 32 = 2 ^ 31 from by decide +kernel, ← Nat.pow_add]
theorem prt_two {N x y : Nat} (hN : N ≤ 4096) (hx : x < 8 * N) (hy : y < 8 * N) (h : x ≠ y) : prt N x ^^^ prt N y ≠ 0 := by
  suffices hs : ∀ x y, x < y → y < 8 * N → prt N x ^^^ prt N y ≠ 0 by
    rcases Nat.lt_or_gt_of_ne h with hl | hl
    · exact hs x y hl hy
    · rw [Nat.xor_comm]; exact hs y x hl hx
  intro x y hl hy h0
  have h1 := congrArg (fun z => rvn z 32) h0
  simp only [rvn_xor, rvn_prt] at h1
  rw [← pm_xor _ _ gP_ne, Nat.xor_comm] at h1
  have := two_free (a := 31 + (8 * N - y)) (d := y - x) (by omega) (by omega)
  rw [show 31 + (8 * N - y) + (y - x) = 31 + (8 * N - x) from by omega] at this
  exact this (h1.trans (by decide +kernel))
theorem prt_three {N x y z : Nat} (hN : N ≤ 4096) (hx : x < 8 * N) (hy : y < 8 * N) (hz : z < 8 * N) (h1 : x ≠ y) (h2 : x ≠ z) (h3 : y ≠ z) : prt N x ^^^ (prt N y ^^^ prt N z) ≠ 0 := by
  suffices hs : ∀ x y z, x < y → y < z → z < 8 * N → prt N x ^^^ (prt N y ^^^ prt N z) ≠ 0 by
    have c1 : prt N x ^^^ (prt N y ^^^ prt N z) = prt N x ^^^ (prt N z ^^^ prt N y) := by rw [Nat.xor_comm (prt N y)]
    have c2 : prt N x ^^^ (prt N y ^^^ prt N z) = prt N y ^^^ (prt N x ^^^ prt N z) := by rw [← Nat.xor_assoc, Nat.xor_comm (prt N x), Nat.xor_assoc]
    have c3 : prt N x ^^^ (prt N y ^^^ prt N z) = prt N y ^^^ (prt N z ^^^ prt N x) := by rw [c2, Nat.xor_comm (prt N x)]
    have c4 : prt N x ^^^ (prt N y ^^^ prt N z) = prt N z ^^^ (prt N x ^^^ prt N y) := by rw [← Nat.xor_assoc, Nat.xor_comm]
    have c5 : prt N x ^^^ (prt N y ^^^ prt N z) = prt N z ^^^ (prt N y ^^^ prt N x) := by rw [c4, Nat.xor_comm (prt N x)]
    rcases Nat.lt_or_gt_of_ne h1 with a | a <;> rcases Nat.lt_or_gt_of_ne h2 with b | b <;> rcases Nat.lt_or_gt_of_ne h3 with c | c
    · exact hs x y z a c hz
    · rw [c1]; exact hs x z y b c hy
    · omega
    · rw [c4]; exact hs z x y b a hy
    · rw [c2]; exact hs y x z a b hz
    · omega
    · rw [c3]; exact hs y z x c b hx
    · rw [c5]; exact hs z y x c a hx
  intro x y z hl hl2 hz h0
  have h1 := congrArg (fun z => rvn z 32) h0
  simp only [rvn_xor, rvn_prt] at h1
  rw [← pm_xor _ _ gP_ne, ← pm_xor _ _ gP_ne] at h1
  have := three_free (a := 31 + (8 * N - z)) (d := z - y) (e := z - x) (by omega) (by omega)
  rw [show 31 + (8 * N - z) + (z - y) = 31 + (8 * N - y) from by omega, show 31 + (8 * N - z) + (z - x) = 31 + (8 * N - x) from by omega] at this
  refine this ?_
  have e : 2 ^ (31 + (8 * N - z)) ^^^ 2 ^ (31 + (8 * N - y)) ^^^ 2 ^ (31 + (8 * N - x)) = 2 ^ (31 + (8 * N - x)) ^^^ (2 ^ (31 + (8 * N - y)) ^^^ 2 ^ (31 + (8 * N - z))) := by
    rw [Nat.xor_comm, Nat.xor_comm (2 ^ (31 + (8 * N - z)))]
  rw [e]
  exact h1.trans (by decide +kernel)

/-- How many of the first bits are left, each counted with its sign. -/
def lv (B : List Nat) : Nat → Int
  | 0 => 0
  | i + 1 => lv B i + (if (B.take i).contains (B[i]?.getD 0) then -1 else 1)
theorem lv_range (B : List Nat) : ∀ i : Nat, -(i : Int) ≤ lv B i ∧ lv B i ≤ i := by
  intro i
  induction i with
  | zero => simp [lv]
  | succ i ih => rw [lv]; split <;> omega
/-- .. as the law has it at last. -/
def lf (x y z t : Nat) : Int := if t = 3 ∧ x = y ∧ y = z then 1 else lv [x, y, z] t
theorem three_ok {N x y z : Nat} (hN : N ≤ 4096) (hx : x < 8 * N) (hy : y < 8 * N) (hz : z < 8 * N) : ∀ t, t ≤ 3 → (dmg N ([x, y, z].take t) != 0) = decide (0 < lf x y z t) := by
  have n1 := prt_ne N x
  have n2 := prt_ne N y
  have n3 := prt_ne N z
  intro t ht
  match t, ht with
  | 0, _ => simp [dmg, lf, lv]
  | 1, _ =>
    have e : dmg N ([x, y, z].take 1) = prt N x := by simp [dmg]
    rw [e]
    simp [lf, lv, n1]
  | 2, _ =>
    have e : dmg N ([x, y, z].take 2) = prt N x ^^^ prt N y := by simp [dmg]
    rw [e]
    by_cases h : x = y
    · subst h
      simp [lf, lv]
    · have := prt_two hN hx hy h
      have h' : ¬ y = x := fun hh => h hh.symm
      simp [lf, lv, this, h']
  | 3, _ =>
    have e : dmg N ([x, y, z].take 3) = prt N x ^^^ (prt N y ^^^ prt N z) := by simp [dmg]
    rw [e]
    by_cases h1 : x = y
    · subst h1
      rw [xor_cl]
      by_cases h2 : x = z
      · subst h2
        simp [lf, n1]
      · have h' : ¬ z = x := fun hh => h2 hh.symm
        simp [lf, lv, n3, h2, h']
    · have h1' : ¬ y = x := fun hh => h1 hh.symm
      by_cases h2 : x = z
      · subst h2
        rw [Nat.xor_comm (prt N y), xor_cl]
        simp [lf, lv, n2, h1, h1']
      · have h2' : ¬ z = x := fun hh => h2 hh.symm
        by_cases h3 : y = z
        · subst h3
          rw [Nat.xor_self, Nat.xor_zero]
          simp [lf, lv, n1, h1, h1']
        · have h3' : ¬ z = y := fun hh => h3 hh.symm
          have := prt_three hN hx hy hz h1 h2 h3
          simp [lf, lv, this, h1, h1', h2', h3']
end Go.Proofs.YtdaijbplbnkpeaaDoor
