/-
  Plain facts on the bits of one word: how many there are, up to a place; the lowest one; the way in which the library adds them up.
-/
import Derived.Test.YtcdjfgkjllonhaaDoorBts
namespace Go.Proofs.YtcdjfgkjllonhaaDoor

/-- How many bits below k are 1. -/
def pop (x : Nat) : Nat → Nat
  | 0 => 0
  | k + 1 => pop x k + (x.testBit k).toNat
theorem pop_succ (x k : Nat) : pop x (k + 1) = pop x k + (x.testBit k).toNat := rfl
theorem pop_le (x k : Nat) : pop x k ≤ k := by
  induction k with
  | zero => exact Nat.le_refl _
  | succ k ih => unfold pop; cases x.testBit k <;> simp <;> omega
theorem pop_mono (x : Nat) {j k : Nat} (h : j ≤ k) : pop x j ≤ pop x k := by
  obtain ⟨d, rfl⟩ : ∃ d, k = j + d := ⟨k - j, by omega⟩
  clear h
  induction d with
  | zero => exact Nat.le_refl _
  | succ d ih => rw [show j + (d + 1) = (j + d) + 1 from by omega, pop_succ]; omega
theorem pop_none {x j k : Nat} (hjk : j ≤ k) (h : ∀ i, j ≤ i → i < k → x.testBit i = false) : pop x k = pop x j := by
  obtain ⟨d, rfl⟩ : ∃ d, k = j + d := ⟨k - j, by omega⟩
  clear hjk
  induction d with
  | zero => rfl
  | succ d ih =>
    rw [show j + (d + 1) = (j + d) + 1 from by omega, pop_succ]
    rw [h (j + d) (by omega) (by omega), ih fun i h1 h2 => h i h1 (by omega)]; rfl
theorem pop_same {x y : Nat} {k : Nat} (h : ∀ i, i < k → x.testBit i = y.testBit i) : pop x k = pop y k := by
  induction k with
  | zero => rfl
  | succ k ih => unfold pop; rw [h k (by omega), ih fun i hi => h i (by omega)]
/-- The lowest k bits alone. -/
theorem pop_low (x k : Nat) (hk : k ≤ 64) : pop (x &&& (2 ^ k - 1)) 64 = pop x k := by
  have h1 : pop (x &&& (2 ^ k - 1)) 64 = pop (x &&& (2 ^ k - 1)) k := pop_none hk fun i h1 _ => by
    rw [Nat.testBit_and, Nat.testBit_two_pow_sub_one]
    have : ¬ i < k := by omega
    simp [this]
  rw [h1]
  refine pop_same fun i hi => ?_
  rw [Nat.testBit_and, Nat.testBit_two_pow_sub_one]
  simp [hi]

/-- The ones of a byte. -/
def pb (b : Nat) : Nat := b % 2 + b / 2 % 2 + b / 4 % 2 + b / 8 % 2 + b / 16 % 2 + b / 32 % 2 + b / 64 % 2 + b / 128 % 2
theorem bit_nat (x i : Nat) : (x.testBit i).toNat = x / 2 ^ i % 2 := Nat.toNat_testBit x i
theorem pop_byte (x n : Nat) : pop x (n + 8) = pop x n + pb (x / 2 ^ n % 256) := by
  simp only [pop, bit_nat, Nat.pow_add, ← Nat.div_div_eq_div_mul]
  obtain ⟨y, hy⟩ : ∃ y, y = x / 2 ^ n := ⟨_, rfl⟩
  rw [← hy]
  unfold pb
  omega
/-- Bytes, the lowest first. -/
def val : List Nat → Nat
  | [] => 0
  | b :: l => b + 256 * val l
theorem and_split (a c u v : Nat) (ha : a < 256) (hc : c < 256) : (a + 256 * u) &&& (c + 256 * v) = (a &&& c) + 256 * (u &&& v) := by
  have h1 := Nat.and_div_two_pow (a := a + 256 * u) (b := c + 256 * v) (n := 8)
  have h2 := Nat.and_mod_two_pow (a := a + 256 * u) (b := c + 256 * v) (n := 8)
  rw [show (a + 256 * u) / 2 ^ 8 = u by omega, show (c + 256 * v) / 2 ^ 8 = v by omega] at h1
  rw [show (a + 256 * u) % 2 ^ 8 = a by omega, show (c + 256 * v) % 2 ^ 8 = c by omega] at h2
  omega
def f1 (b : Nat) : Nat := (b / 2 &&& 85) + (b &&& 85)
def f2 (b : Nat) : Nat := (b / 4 &&& 51) + (b &&& 51)
def f3 (b : Nat) : Nat := (b / 16 + b) &&& 15
theorem swar1 (l : List Nat) (h : ∀ b ∈ l, b < 256) : (val l / 2 &&& val (List.replicate l.length 85)) + (val l &&& val (List.replicate l.length 85)) = val (l.map f1) := by
  induction l with
  | nil => rfl
  | cons b l ih =>
    have hb := h b (by simp)
    have ih := ih fun x hx => h x (by simp [hx])
    simp only [List.length_cons, List.replicate_succ, List.map_cons, val]
    rw [show (b + 256 * val l) / 2 = (b / 2 + 128 * (val l % 2)) + 256 * (val l / 2) by omega, and_split _ _ _ _ (by omega) (by omega), and_split _ _ _ _ hb (by omega), ← ih]
    have hk : ∀ d, d < 2 → ∀ b, b < 256 → (b / 2 + 128 * d) &&& 85 = b / 2 &&& 85 := by decide +kernel
    rw [hk _ (Nat.mod_lt _ (by omega)) b hb]
    unfold f1; omega
theorem swar2 (l : List Nat) (h : ∀ b ∈ l, b < 256) : (val l / 4 &&& val (List.replicate l.length 51)) + (val l &&& val (List.replicate l.length 51)) = val (l.map f2) := by
  induction l with
  | nil => rfl
  | cons b l ih =>
    have hb := h b (by simp)
    have ih := ih fun x hx => h x (by simp [hx])
    simp only [List.length_cons, List.replicate_succ, List.map_cons, val]
    rw [show (b + 256 * val l) / 4 = (b / 4 + 64 * (val l % 4)) + 256 * (val l / 4) by omega, and_split _ _ _ _ (by omega) (by omega), and_split _ _ _ _ hb (by omega), ← ih]
    have hk : ∀ d, d < 4 → ∀ b, b < 256 → (b / 4 + 64 * d) &&& 51 = b / 4 &&& 51 := by decide +kernel
    rw [hk _ (Nat.mod_lt _ (by omega)) b hb]
    unfold f2; omega
theorem swar3 (l : List Nat) (h : ∀ b ∈ l, b < 256 ∧ b % 16 ≤ 4 ∧ b / 16 ≤ 4) : (val l / 16 + val l) &&& val (List.replicate l.length 15) = val (l.map f3) := by
  induction l with
  | nil => rfl
  | cons b l ih =>
    have hb := h b (by simp)
    have ih := ih fun x hx => h x (by simp [hx])
    have hd : val l % 16 ≤ 4 := by
      cases l with
      | nil => simp [val]
      | cons c l => have := h c (by simp); simp only [val]; omega
    simp only [List.length_cons, List.replicate_succ, List.map_cons, val]
    rw [show (b + 256 * val l) / 16 + (b + 256 * val l) = (b / 16 + 16 * (val l % 16) + b) + 256 * (val l / 16 + val l) by omega, and_split _ _ _ _ (by omega) (by omega), ih]
    have hk : ∀ d, d < 5 → ∀ b, b < 256 → b / 16 ≤ 4 → b % 16 ≤ 4 → (b / 16 + 16 * d + b) &&& 15 = (b / 16 + b) &&& 15 := by decide +kernel
    rw [hk _ (by omega) b hb.1 hb.2.2 hb.2.1]
    rfl
theorem f1_lt : ∀ b, b < 256 → f1 b < 256 := by decide +kernel
theorem f2_lt : ∀ b, b < 256 → f2 (f1 b) < 256 ∧ f2 (f1 b) % 16 ≤ 4 ∧ f2 (f1 b) / 16 ≤ 4 := by decide +kernel
theorem f3_pb : ∀ b, b < 256 → f3 (f2 (f1 b)) = pb b := by decide +kernel
theorem pb_le (b : Nat) : pb b ≤ 8 := by unfold pb; omega
def byt (x : Nat) : List Nat := [x % 256, x / 256 % 256, x / 65536 % 256, x / 16777216 % 256, x / 4294967296 % 256, x / 1099511627776 % 256, x / 281474976710656 % 256, x / 72057594037927936]
theorem val_byt {x : Nat} (h : x < 18446744073709551616) : val (byt x) = x := by simp only [byt, val]; omega
theorem byt_lt {x : Nat} (h : x < 18446744073709551616) : ∀ b ∈ byt x, b < 256 := by
  intro b hb
  simp only [byt, List.mem_cons, List.not_mem_nil, or_false] at hb
  omega
theorem val_lt : ∀ (l : List Nat), (∀ b ∈ l, b < 256) → val l < 256 ^ l.length := by
  intro l
  induction l with
  | nil => intro _; exact Nat.one_pos
  | cons b l ih =>
    intro h
    have hb := h b (by simp)
    have := ih fun x hx => h x (by simp [hx])
    simp only [val, List.length_cons, Nat.pow_succ]
    omega
theorem swar_end {q0 q1 q2 q3 q4 q5 q6 q7 : Nat} (p0 : q0 ≤ 8) (p1 : q1 ≤ 8) (p2 : q2 ≤ 8) (p3 : q3 ≤ 8) (p4 : q4 ≤ 8) (p5 : q5 ≤ 8) (p6 : q6 ≤ 8) (p7 : q7 ≤ 8) {c : Nat}
    (hc : c = q0 + 256 * (q1 + 256 * (q2 + 256 * (q3 + 256 * (q4 + 256 * (q5 + 256 * (q6 + 256 * (q7 + 256 * 0)))))))) :
    c + c / 256 < 18446744073709551616 ∧ (c + c / 256) + (c + c / 256) / 65536 < 18446744073709551616 ∧ ((c + c / 256) + (c + c / 256) / 65536) + ((c + c / 256) + (c + c / 256) / 65536) / 4294967296 < 18446744073709551616 ∧
    (((c + c / 256) + (c + c / 256) / 65536) + ((c + c / 256) + (c + c / 256) / 65536) / 4294967296) % 128 = q0 + q1 + q2 + q3 + q4 + q5 + q6 + q7 := by
  have h1 : c / 256 = q1 + 256 * (q2 + 256 * (q3 + 256 * (q4 + 256 * (q5 + 256 * (q6 + 256 * q7))))) := by omega
  have ey : c + c / 256 = (q0 + q1) + 256 * ((q1 + q2) + 256 * ((q2 + q3) + 256 * ((q3 + q4) + 256 * ((q4 + q5) + 256 * ((q5 + q6) + 256 * ((q6 + q7) + 256 * q7)))))) := by rw [h1, hc]; omega
  obtain ⟨y, hy⟩ : ∃ y, y = c + c / 256 := ⟨_, rfl⟩
  rw [← hy] at ey ⊢
  clear hy h1 hc
  have h2 : y / 65536 = (q2 + q3) + 256 * ((q3 + q4) + 256 * ((q4 + q5) + 256 * ((q5 + q6) + 256 * ((q6 + q7) + 256 * q7)))) := by omega
  have ez : y + y / 65536 = (q0 + q1 + q2 + q3) + 256 * ((q1 + q2 + q3 + q4) + 256 * ((q2 + q3 + q4 + q5) + 256 * ((q3 + q4 + q5 + q6) + 256 * ((q4 + q5 + q6 + q7) + 256 * ((q5 + q6 + q7) + 256 * ((q6 + q7) + 256 * q7)))))) := by rw [h2, ey]; omega
  have b1 : y < 18446744073709551616 := by omega
  obtain ⟨z, hz⟩ : ∃ z, z = y + y / 65536 := ⟨_, rfl⟩
  rw [← hz] at ez ⊢
  clear hz h2 ey
  have h3 : z / 4294967296 = (q4 + q5 + q6 + q7) + 256 * ((q5 + q6 + q7) + 256 * ((q6 + q7) + 256 * q7)) := by omega
  have b2 : z < 18446744073709551616 := by omega
  refine ⟨b1, b2, ?_⟩
  rw [h3, ez]
  clear b1 b2 h3 ez
  obtain ⟨T, hT⟩ : ∃ T, T = (q1 + q2 + q3 + q4) + 256 * ((q2 + q3 + q4 + q5) + 256 * ((q3 + q4 + q5 + q6) + 256 * ((q4 + q5 + q6 + q7) + 256 * ((q5 + q6 + q7) + 256 * ((q6 + q7) + 256 * q7))))) := ⟨_, rfl⟩
  obtain ⟨U, hU⟩ : ∃ U, U = (q5 + q6 + q7) + 256 * ((q6 + q7) + 256 * q7) := ⟨_, rfl⟩
  rw [← hT, ← hU]
  have t1 : T ≤ 32 + 256 * (32 + 256 * (32 + 256 * (32 + 256 * (24 + 256 * (16 + 256 * 8))))) := by omega
  have u1 : U ≤ 24 + 256 * (16 + 256 * 8) := by omega
  clear hT hU
  omega
/-- The library's way of adding up: three masks, then three shifts. -/
theorem swar {x : Nat} (h : x < 18446744073709551616) : ∃ a b c : Nat, (x / 2 &&& 6148914691236517205) + (x &&& 6148914691236517205) = a ∧ (a / 4 &&& 3689348814741910323) + (a &&& 3689348814741910323) = b ∧ ((b / 16 + b) &&& 1085102592571150095) = c ∧
    a < 18446744073709551616 ∧ b < 18446744073709551616 ∧ b / 16 + b < 18446744073709551616 ∧
    c + c / 256 < 18446744073709551616 ∧ (c + c / 256) + (c + c / 256) / 65536 < 18446744073709551616 ∧ ((c + c / 256) + (c + c / 256) / 65536) + ((c + c / 256) + (c + c / 256) / 65536) / 4294967296 < 18446744073709551616 ∧
    (((c + c / 256) + (c + c / 256) / 65536) + ((c + c / 256) + (c + c / 256) / 65536) / 4294967296) % 128 = pop x 64 := by
  have hl := byt_lt h
  have e1 := swar1 (byt x) hl
  rw [val_byt h] at e1
  have hl1 : ∀ b ∈ (byt x).map f1, b < 256 := by intro b hb; obtain ⟨y, hy, rfl⟩ := List.mem_map.1 hb; exact f1_lt y (hl y hy)
  have e2 := swar2 _ hl1
  have hl2 : ∀ b ∈ ((byt x).map f1).map f2, b < 256 ∧ b % 16 ≤ 4 ∧ b / 16 ≤ 4 := by
    intro b hb; rw [List.map_map] at hb; obtain ⟨y, hy, rfl⟩ := List.mem_map.1 hb; exact f2_lt y (hl y hy)
  have e3 := swar3 _ hl2
  have e4 : (((byt x).map f1).map f2).map f3 = (byt x).map pb := by
    rw [List.map_map, List.map_map]
    refine List.map_congr_left fun y hy => ?_
    exact f3_pb y (hl y hy)
  have b1 := val_lt _ hl1
  have b2 := val_lt _ fun b hb => (hl2 b hb).1
  rw [e4] at e3
  have hpop : pop x 64 = pb (x % 256) + pb (x / 256 % 256) + pb (x / 65536 % 256) + pb (x / 16777216 % 256) + pb (x / 4294967296 % 256) + pb (x / 1099511627776 % 256) + pb (x / 281474976710656 % 256) + pb (x / 72057594037927936) := by
    rw [pop_byte x 56, pop_byte x 48, pop_byte x 40, pop_byte x 32, pop_byte x 24, pop_byte x 16, pop_byte x 8, pop_byte x 0]
    rw [show pop x 0 = 0 from rfl, show x / 2 ^ 56 % 256 = x / 72057594037927936 by omega]
    simp only [Nat.pow_zero, Nat.div_one, Nat.reducePow, Nat.zero_add]
  have p0 := pb_le (x % 256)
  have p1 := pb_le (x / 256 % 256)
  have p2 := pb_le (x / 65536 % 256)
  have p3 := pb_le (x / 16777216 % 256)
  have p4 := pb_le (x / 4294967296 % 256)
  have p5 := pb_le (x / 1099511627776 % 256)
  have p6 := pb_le (x / 281474976710656 % 256)
  have p7 := pb_le (x / 72057594037927936)
  have hm (c : Nat) : (List.replicate (byt x).length c) = [c, c, c, c, c, c, c, c] := rfl
  simp only [List.length_map, hm] at e1 e2 e3 b1 b2
  rw [show (byt x).length = 8 from rfl] at b1 b2
  have v5 : val [85, 85, 85, 85, 85, 85, 85, 85] = 6148914691236517205 := rfl
  have v3 : val [51, 51, 51, 51, 51, 51, 51, 51] = 3689348814741910323 := rfl
  have v1 : val [15, 15, 15, 15, 15, 15, 15, 15] = 1085102592571150095 := rfl
  rw [v5] at e1
  rw [v3] at e2
  rw [v1] at e3
  obtain ⟨a, ha⟩ : ∃ a, a = val ((byt x).map f1) := ⟨_, rfl⟩
  obtain ⟨b, hb⟩ : ∃ b, b = val (((byt x).map f1).map f2) := ⟨_, rfl⟩
  rw [← ha] at e1 e2 b1
  rw [← hb] at e2 e3 b2
  refine ⟨a, b, _, e1, e2, e3, b1, b2, ?_⟩
  have hb16 : b / 16 + b < 18446744073709551616 := by
    have : b < 5 * 16 ^ 15 := by
      have h7 : b = val (((byt x).map f1).map f2) := hb
      have m : ∀ y ∈ byt x, f2 (f1 y) ≤ 68 := fun y hy => by have := f2_lt y (hl y hy); omega
      simp only [byt, List.map_cons, List.map_nil, val] at h7
      have m0 := m (x % 256) (by simp [byt])
      have m1 := m (x / 256 % 256) (by simp [byt])
      have m2 := m (x / 65536 % 256) (by simp [byt])
      have m3 := m (x / 16777216 % 256) (by simp [byt])
      have m4 := m (x / 4294967296 % 256) (by simp [byt])
      have m5 := m (x / 1099511627776 % 256) (by simp [byt])
      have m6 := m (x / 281474976710656 % 256) (by simp [byt])
      have m7 := m (x / 72057594037927936) (by simp [byt])
      omega
    omega
  refine ⟨hb16, ?_⟩
  clear e1 e2 e3 e4 b1 b2 ha hb hl hl1 hl2 hb16
  rw [hpop]
  simp only [byt, List.map_cons, List.map_nil, val]
  generalize pb (x % 256) = q0 at *
  generalize pb (x / 256 % 256) = q1 at *
  generalize pb (x / 65536 % 256) = q2 at *
  generalize pb (x / 16777216 % 256) = q3 at *
  generalize pb (x / 4294967296 % 256) = q4 at *
  generalize pb (x / 1099511627776 % 256) = q5 at *
  generalize pb (x / 281474976710656 % 256) = q6 at *
  generalize pb (x / 72057594037927936) = q7 at *
  exact swar_end p0 p1 p2 p3 p4 p5 p6 p7 rfl

/-- A word without the lowest of its ones. -/
def dl (w : Nat) : Nat := w &&& (w - 1)
/-- The place of the lowest one. -/
theorem low_one {w : Nat} (h : w ≠ 0) : ∃ t q, w = 2 ^ t * (2 * q + 1) := by
  induction w using Nat.strongRecOn with
  | ind w ih =>
    by_cases h2 : w % 2 = 1
    · exact ⟨0, w / 2, by omega⟩
    · obtain ⟨t, q, he⟩ := ih (w / 2) (by omega) (by omega)
      exact ⟨t + 1, q, by rw [Nat.pow_succ, Nat.mul_comm (2 ^ t) 2, Nat.mul_assoc, ← he]; omega⟩
theorem test_low {t q : Nat} (i : Nat) : (2 ^ t * (2 * q + 1)).testBit i = (decide (i = t) || (decide (t < i) && q.testBit (i - t - 1))) := by
  have h := Nat.testBit_two_pow_mul_add (2 * q + 1) (b := 0) (i := t) (Nat.two_pow_pos t) i
  rw [Nat.add_zero] at h
  rw [h]
  by_cases h1 : i < t
  · have a1 : ¬ i = t := by omega
    have a2 : ¬ t < i := by omega
    simp [h1, a1, a2]
  · by_cases h2 : i = t
    · subst h2; simp
    · have a3 : t < i := by omega
      obtain ⟨d, hd⟩ : ∃ d, i - t = d + 1 := ⟨i - t - 1, by omega⟩
      simp [h1, h2, a3, hd, Nat.testBit_succ]
      congr 1
      omega
theorem test_dl {t q : Nat} (i : Nat) : (dl (2 ^ t * (2 * q + 1))).testBit i = (decide (t < i) && q.testBit (i - t - 1)) := by
  unfold dl
  have e : 2 ^ t * (2 * q + 1) - 1 = 2 ^ t * (2 * q) + (2 ^ t - 1) := by
    have := Nat.two_pow_pos t
    rw [Nat.mul_add, Nat.mul_one]; omega
  have h := Nat.testBit_two_pow_mul_add (2 * q) (b := 2 ^ t - 1) (i := t) (by have := Nat.two_pow_pos t; omega) i
  rw [Nat.testBit_and, test_low, e, h]
  by_cases h1 : i < t
  · have a1 : ¬ i = t := by omega
    have a2 : ¬ t < i := by omega
    simp [h1, a1, a2]
  · by_cases h2 : i = t
    · subst h2; simp
    · have a3 : t < i := by omega
      obtain ⟨d, hd⟩ : ∃ d, i - t = d + 1 := ⟨i - t - 1, by omega⟩
      simp [h1, h2, a3, hd, Nat.testBit_succ]
end Go.Proofs.YtcdjfgkjllonhaaDoor
