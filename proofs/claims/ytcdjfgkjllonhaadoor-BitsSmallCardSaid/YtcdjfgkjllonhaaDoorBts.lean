/-
  Plain facts on sets of numbers as bits in words: the bit of a number, when a set is right, its members.
-/
import Derived.Test.YtcdjfgkjllonhaaDoorOwn
namespace Go.Proofs.YtcdjfgkjllonhaaDoor

/-- The bit of a number in some words. -/
def bt (l : List Int) (i : Nat) : Bool := (l[i / 64]?.getD 0).toNat.testBit (i % 64)
/-- Words. -/
def Wds (l : List Int) : Prop := ∀ x ∈ l, 0 ≤ x ∧ x < 18446744073709551616
theorem Wds.nil : Wds [] := fun _ h => by cases h
theorem Wds.at {l : List Int} (h : Wds l) (j : Nat) : 0 ≤ l[j]?.getD 0 ∧ l[j]?.getD 0 < 18446744073709551616 := by
  by_cases hj : j < l.length
  · rw [List.getElem?_eq_getElem hj]; exact h _ (List.getElem_mem hj)
  · rw [List.getElem?_eq_none (by omega)]; simp
theorem Wds.toNat {l : List Int} (h : Wds l) (j : Nat) : (l[j]?.getD 0).toNat < 2 ^ 64 := by have := h.at j; omega
theorem Wds.of_fits {l : List Int} (h : Fits .u64 l) : Wds l := fun x hx => by
  have := h x hx
  have := bounds_u64 this
  omega
theorem bt_out {l : List Int} {i : Nat} (h : 64 * l.length ≤ i) : bt l i = false := by
  unfold bt; rw [List.getElem?_eq_none (by omega)]; simp
/-- A bit, as the programs take it. -/
theorem bt_div {l : List Int} (h : Wds l) (i : Nat) : l[i / 64]?.getD 0 / 2 ^ (i % 64) % 2 = if bt l i then 1 else 0 := by
  obtain ⟨h0, h1⟩ := h.at (i / 64)
  obtain ⟨x, hx⟩ : ∃ x : Nat, l[i / 64]?.getD 0 = (x : Int) := ⟨(l[i / 64]?.getD 0).toNat, by omega⟩
  unfold bt
  rw [hx, Int.toNat_natCast, Nat.testBit_eq_decide_div_mod_eq]
  have e : (x : Int) / 2 ^ (i % 64) % 2 = ((x / 2 ^ (i % 64) % 2 : Nat) : Int) := by push_cast; rfl
  rw [e]
  by_cases h : x / 2 ^ (i % 64) % 2 = 1
  · simp [h]
  · have h2 : x / 2 ^ (i % 64) % 2 = 0 := by omega
    simp [h2]

/-- A right set. -/
def RightS (N : Int) (l : List Int) : Prop := 0 ≤ N ∧ N ≤ 65536 ∧ (l.length : Int) = (N + 63) / 64 ∧ ∀ i : Nat, i < 64 * l.length → N ≤ (i : Int) → bt l i = false
instance (N : Int) (l : List Int) : Decidable (RightS N l) := by unfold RightS; infer_instance
/-- Whether a set is right; it is not unfolded. -/
def rightB (N : Int) (l : List Int) : Bool := decide (RightS N l)
theorem rightB_yes {N : Int} {l : List Int} (h : RightS N l) : rightB N l = true := by unfold rightB; simpa using h
theorem rightB_no {N : Int} {l : List Int} (h : ¬ RightS N l) : rightB N l = false := by unfold rightB; simpa using h
theorem of_rightB {N : Int} {l : List Int} (h : rightB N l = true) : RightS N l := by unfold rightB at h; simpa using h
attribute [irreducible] rightB
theorem RightS.out {N : Int} {l : List Int} (h : RightS N l) {i : Nat} (hi : N ≤ (i : Int)) : bt l i = false := by
  by_cases h2 : i < 64 * l.length
  · exact h.2.2.2 i h2 hi
  · exact bt_out (by omega)

/-- The members below n, in their order. -/
def mem (n : Nat) (l : List Int) : List Nat := (List.range n).filter (bt l)
theorem mem_succ (n : Nat) (l : List Int) : mem (n + 1) l = if bt l n then mem n l ++ [n] else mem n l := by
  unfold mem; rw [List.range_succ, List.filter_append]
  by_cases h : bt l n <;> simp [h]
theorem mem_zero (l : List Int) : mem 0 l = [] := rfl
theorem mem_mem {n i : Nat} {l : List Int} : i ∈ mem n l ↔ i < n ∧ bt l i = true := by unfold mem; simp
theorem mem_sorted (n : Nat) (l : List Int) : (mem n l).Pairwise (· < ·) := by
  unfold mem; exact List.Pairwise.filter _ List.pairwise_lt_range
theorem mem_len (n : Nat) (l : List Int) : (mem n l).length ≤ n := by
  unfold mem; exact Nat.le_trans (List.length_filter_le _ _) (by simp)
/-- The words of a set: none, if it is not right. -/
def ef (N : Int) (l : List Int) : List Int := if rightB N l then l else []
theorem ef_yes {N : Int} {l : List Int} (h : rightB N l = true) : ef N l = l := by unfold ef; rw [h]; rfl
theorem ef_no {N : Int} {l : List Int} (h : rightB N l = false) : ef N l = [] := by unfold ef; rw [h]; rfl
theorem Wds.ef {l : List Int} (h : Wds l) (N : Int) : Wds (ef N l) := by unfold Proofs.YtcdjfgkjllonhaaDoor.ef; split; exact h; exact Wds.nil
theorem bt_nil (i : Nat) : bt [] i = false := bt_out (by simp)
attribute [irreducible] ef
/-- All members. -/
def all (l : List Int) : List Nat := mem (64 * l.length) l
theorem mem_part {n m : Nat} (l : List Int) (h : m ≤ n) : ∃ t, mem n l = mem m l ++ t ∧ ∀ x ∈ t, m ≤ x ∧ x < n ∧ bt l x = true := by
  obtain ⟨d, rfl⟩ : ∃ d, n = m + d := ⟨n - m, by omega⟩
  refine ⟨((List.range d).map (m + ·)).filter (bt l), by unfold mem; rw [List.range_add, List.filter_append], fun x hx => ?_⟩
  simp only [List.mem_filter, List.mem_map, List.mem_range] at hx
  obtain ⟨⟨y, hy, rfl⟩, hb⟩ := hx
  exact ⟨by omega, by omega, hb⟩
theorem mem_big {n : Nat} {l : List Int} (h : 64 * l.length ≤ n) : mem n l = all l := by
  obtain ⟨t, ht, hx⟩ := mem_part l h
  have : t = [] := by
    cases t with
    | nil => rfl
    | cons x t => have := hx x (by simp); rw [bt_out this.1] at this; simp at this
  rw [ht, this, List.append_nil]; rfl
theorem mem_top {n m : Nat} {l : List Int} (h : ∀ i, m ≤ i → bt l i = false) (hm : m ≤ n) : mem n l = mem m l := by
  obtain ⟨t, ht, hx⟩ := mem_part l hm
  have : t = [] := by
    cases t with
    | nil => rfl
    | cons x t => have := hx x (by simp); rw [h x this.1] at this; simp at this
  rw [ht, this, List.append_nil]
theorem mem_right {N : Nat} {l : List Int} (h : RightS (N : Int) l) : mem N l = all l := by
  by_cases hl : 64 * l.length ≤ N
  · exact mem_big hl
  · exact (mem_top (fun i hi => h.out (by omega)) (by omega)).symm
theorem all_nil : all [] = [] := rfl
theorem all_mem {m : Nat} {l : List Int} : m ∈ all l ↔ bt l m = true := by
  unfold all; rw [mem_mem]
  refine ⟨fun h => h.2, fun h => ⟨?_, h⟩⟩
  by_cases hl : 64 * l.length ≤ m
  · rw [bt_out hl] at h; cases h
  · omega
theorem all_lt {m : Nat} {l : List Int} (h : m ∈ all l) : m < 64 * l.length := by unfold all at h; exact (mem_mem.1 h).1
theorem all_sorted (l : List Int) : (all l).Pairwise (· < ·) := mem_sorted _ _
/-- How many members are less than a number. -/
def rk (l : List Int) (i : Nat) : Nat := (mem i l).length
theorem rk_mono {l : List Int} {i j : Nat} (h : i ≤ j) : rk l i ≤ rk l j := by
  obtain ⟨t, ht, _⟩ := mem_part l h; unfold rk; rw [ht, List.length_append]; omega
theorem rk_succ (l : List Int) (i : Nat) : rk l (i + 1) = rk l i + if bt l i then 1 else 0 := by
  unfold rk; rw [mem_succ]; by_cases h : bt l i <;> simp [h]
theorem rk_zero (l : List Int) : rk l 0 = 0 := rfl
theorem rk_big {l : List Int} {i : Nat} (h : 64 * l.length ≤ i) : rk l i = (all l).length := by unfold rk; rw [mem_big h]
theorem rk_le_all (l : List Int) (i : Nat) : rk l i ≤ (all l).length := by
  by_cases h : 64 * l.length ≤ i
  · rw [rk_big h]; exact Nat.le_refl _
  · rw [← rk_big (Nat.le_refl (64 * l.length))]; exact rk_mono (by omega)
theorem rk_nil (i : Nat) : rk [] i = 0 := by have := rk_le_all [] i; rw [all_nil] at this; simpa using this
theorem rk_le (l : List Int) (i : Nat) : rk l i ≤ i := mem_len i l
/-- The member of a rank. -/
theorem all_at {l : List Int} {k : Nat} (h : k < (all l).length) : bt l ((all l)[k]) = true ∧ rk l ((all l)[k]) = k := by
  have hm := List.getElem_mem h
  have hb := all_mem.1 hm
  refine ⟨hb, ?_⟩
  obtain ⟨m, hmm⟩ : ∃ m, m = (all l)[k] := ⟨_, rfl⟩
  rw [← hmm] at hb ⊢
  have hlt := all_lt (l := l) (m := m) (by rw [hmm]; exact hm)
  obtain ⟨t, ht, hx⟩ := mem_part l (m := m + 1) (n := 64 * l.length) hlt
  rw [mem_succ, hb, if_pos rfl] at ht
  have ha : all l = mem m l ++ m :: t := by unfold all; rw [ht, List.append_assoc]; rfl
  have hp : (mem m l).length < (all l).length := by rw [ha]; simp
  have he : (all l)[(mem m l).length] = m := by
    have : (all l)[(mem m l).length]? = some m := by rw [ha]; simp
    rw [List.getElem?_eq_getElem hp] at this; exact Option.some.inj this
  unfold rk
  have hs := List.pairwise_iff_getElem.1 (all_sorted l)
  rcases Nat.lt_trichotomy (mem m l).length k with h1 | h1 | h1
  · have := hs _ _ hp h h1; omega
  · exact h1
  · have := hs _ _ h hp h1; omega
theorem rk_at {l : List Int} {m : Nat} (h : bt l m = true) : rk l m < (all l).length ∧ (all l)[rk l m]? = some m := by
  obtain ⟨k, hk, he⟩ := List.getElem_of_mem (all_mem.2 h)
  have := (all_at hk).2
  rw [he] at this
  rw [this]
  exact ⟨hk, by rw [List.getElem?_eq_getElem hk, he]⟩
/-- The least member that is at least i; none. -/
def NextS (l : List Int) (i : Int) : Option Nat → Prop
  | none => ∀ k : Nat, i ≤ (k : Int) → bt l k = false
  | some m => i ≤ (m : Int) ∧ bt l m = true ∧ ∀ k : Nat, i ≤ (k : Int) → k < m → bt l k = false
/-- The greatest member that is less than i; none. -/
def BefS (l : List Int) (i : Int) : Option Nat → Prop
  | none => ∀ k : Nat, (k : Int) < i → bt l k = false
  | some m => (m : Int) < i ∧ bt l m = true ∧ ∀ k : Nat, m < k → (k : Int) < i → bt l k = false
theorem NextS.same {l : List Int} {i : Int} {r s : Option Nat} (h : NextS l i r) (h2 : NextS l i s) : r = s := by
  cases r with
  | none => cases s with
    | none => rfl
    | some m => have := h m h2.1; rw [h2.2.1] at this; cases this
  | some n => cases s with
    | none => have := h2 n h.1; rw [h.2.1] at this; cases this
    | some m =>
      rcases Nat.lt_trichotomy n m with h1 | h1 | h1
      · have := h2.2.2 n h.1 h1; rw [h.2.1] at this; cases this
      · rw [h1]
      · have := h.2.2 m h2.1 h1; rw [h2.2.1] at this; cases this
theorem BefS.same {l : List Int} {i : Int} {r s : Option Nat} (h : BefS l i r) (h2 : BefS l i s) : r = s := by
  cases r with
  | none => cases s with
    | none => rfl
    | some m => have := h m h2.1; rw [h2.2.1] at this; cases this
  | some n => cases s with
    | none => have := h2 n h.1; rw [h.2.1] at this; cases this
    | some m =>
      rcases Nat.lt_trichotomy n m with h1 | h1 | h1
      · have := h.2.2 m h1 h2.1; rw [h2.2.1] at this; cases this
      · rw [h1]
      · have := h2.2.2 n h1 h.1; rw [h.2.1] at this; cases this
/-- Words of one length with the same bits are the same. -/
theorem words_ext {R S : List Int} (hl : R.length = S.length) (hR : Wds R) (hS : Wds S) (h : ∀ i, bt R i = bt S i) : R = S := by
  refine List.ext_getElem hl fun j h1 h2 => ?_
  have a1 := hR.at j
  have a2 := hS.at j
  rw [List.getElem?_eq_getElem h1] at a1
  rw [List.getElem?_eq_getElem h2] at a2
  simp only [Option.getD_some] at a1 a2
  have e : (R[j]).toNat = (S[j]).toNat := by
    refine Nat.eq_of_testBit_eq fun i => ?_
    by_cases hi : i < 64
    · have := h (64 * j + i)
      unfold bt at this
      rw [show (64 * j + i) / 64 = j by omega, show (64 * j + i) % 64 = i by omega, List.getElem?_eq_getElem h1, List.getElem?_eq_getElem h2] at this
      exact this
    · have hp : 2 ^ 64 ≤ 2 ^ i := Nat.pow_le_pow_right (by omega) (by omega)
      rw [Nat.testBit_lt_two_pow (by omega), Nat.testBit_lt_two_pow (by omega)]
  omega
/-- A set is right just if its words are as many as they must be, and no bit from N on is 1. -/
theorem RightS.of {N : Nat} {l : List Int} (hN : N ≤ 65536) (hl : l.length = (N + 63) / 64) (h : ∀ i, N ≤ i → bt l i = false) : RightS (N : Int) l :=
  ⟨by omega, by omega, by omega, fun i _ hn => h i (by omega)⟩
end Go.Proofs.YtcdjfgkjllonhaaDoor
