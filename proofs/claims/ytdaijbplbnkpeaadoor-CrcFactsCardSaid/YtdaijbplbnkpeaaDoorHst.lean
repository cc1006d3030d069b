/-
  Plain facts on the register of the checksum CRC-32: its step, its bytes, and what both are as polynomials; single bits, sealed bytes, changes. No program is named here; the conditions are those in each statement.
-/
import Derived.Test.YtdaijbplbnkpeaaDoorTri
import Derived.Test.YtdaijbplbnkpeaaDoorRev
namespace Go.Proofs.YtdaijbplbnkpeaaDoor

/-! ### the step -/
/-- A register's step: x times the polynomial, in the opposite order. -/
def hs (c : Nat) : Nat := if c % 2 = 1 then (c / 2) ^^^ 3988292384 else c / 2
def hn : Nat → Nat → Nat
  | 0, c => c
  | n + 1, c => hn n (hs c)
theorem hs_xor (a b : Nat) : hs (a ^^^ b) = hs a ^^^ hs b := by
  unfold hs
  have hm : (a ^^^ b) % 2 = 1 ↔ ¬(a % 2 = 1 ↔ b % 2 = 1) := by
    rw [Nat.xor_mod_two_eq_one]
  by_cases ha : a % 2 = 1 <;> by_cases hb : b % 2 = 1
  · rw [if_neg (by rw [hm]; simp [ha, hb]), if_pos ha, if_pos hb, Nat.xor_div_two, xor_ex, Nat.xor_self, Nat.xor_zero]
  · rw [if_pos (by rw [hm]; simp [ha, hb]), if_pos ha, if_neg hb, Nat.xor_div_two, Nat.xor_assoc, Nat.xor_assoc, Nat.xor_comm (b / 2)]
  · rw [if_pos (by rw [hm]; simp [ha, hb]), if_neg ha, if_pos hb, Nat.xor_div_two, Nat.xor_assoc]
  · rw [if_neg (by rw [hm]; simp [ha, hb]), if_neg ha, if_neg hb, Nat.xor_div_two]
theorem hs_lt {c : Nat} (h : c < 2 ^ 32) : hs c < 2 ^ 32 := by
  unfold hs
  split
  · exact Nat.xor_lt_two_pow (by omega) (by decide)
  · omega
theorem hs_dbl (c : Nat) : hs (2 * c) = c := by unfold hs; rw [if_neg (by omega)]; omega
theorem hs_zero : hs 0 = 0 := rfl
theorem hs_eq0 {c : Nat} (h : c < 2 ^ 32) (h0 : hs c = 0) : c = 0 := by
  unfold hs at h0
  split at h0
  · have := xor_eq0 h0; omega
  · omega
theorem hn_zero (n : Nat) : hn n 0 = 0 := by
  induction n with
  | zero => rfl
  | succ n ih => rw [hn, hs_zero, ih]
theorem hn_xor (n : Nat) : ∀ a b, hn n (a ^^^ b) = hn n a ^^^ hn n b := by
  induction n with
  | zero => intro a b; rfl
  | succ n ih => intro a b; rw [hn, hn, hn, hs_xor, ih]
theorem hn_lt (n : Nat) : ∀ {c}, c < 2 ^ 32 → hn n c < 2 ^ 32 := by
  induction n with
  | zero => intro c h; exact h
  | succ n ih => intro c h; rw [hn]; exact ih (hs_lt h)
theorem hn_add (m : Nat) : ∀ n c, hn (m + n) c = hn n (hn m c) := by
  induction m with
  | zero => intro n c; rw [Nat.zero_add]; rfl
  | succ m ih => intro n c; rw [show m + 1 + n = (m + n) + 1 from by omega, hn, hn, ih]
theorem hn_succ (n c : Nat) : hn (n + 1) c = hs (hn n c) := by rw [hn_add]; rfl
theorem hn_pow (n : Nat) : ∀ c, hn n (2 ^ n * c) = c := by
  induction n with
  | zero => intro c; simp [hn]
  | succ n ih => intro c; rw [hn, Nat.pow_succ, Nat.mul_comm (2 ^ n) 2, Nat.mul_assoc, hs_dbl, ih]
theorem hn_pow1 (n : Nat) : hn n (2 ^ n) = 1 := by have := hn_pow n 1; rwa [Nat.mul_one] at this
theorem hn_one (m k : Nat) (h : k ≤ m) : hn m (2 ^ k) = hn (m - k) 1 := by
  conv => lhs; rw [show m = k + (m - k) from by omega]
  rw [hn_add, hn_pow1]
theorem hn_eq0 (n : Nat) : ∀ {c}, c < 2 ^ 32 → hn n c = 0 → c = 0 := by
  induction n with
  | zero => intro c _ h; exact h
  | succ n ih => intro c h h0; rw [hn] at h0; exact hs_eq0 h (ih (hs_lt h) h0)
theorem hn_inj (n : Nat) {a b : Nat} (ha : a < 2 ^ 32) (hb : b < 2 ^ 32) (h : hn n a = hn n b) : a = b := by
  refine xor_eq0 (hn_eq0 n (Nat.xor_lt_two_pow ha hb) ?_)
  rw [hn_xor, h, Nat.xor_self]
theorem hn_one_ne (n : Nat) : hn n 1 ≠ 0 := fun h => by have := hn_eq0 n (by decide) h; omega

/-! ### the table -/
def halvesZ : List Int := [0, 498536548, 997073096, 651767980, 1994146192, 1802195444, 1303535960, 1342533948, 3988292384, 4027552580, 3604390888, 3412177804, 2607071920, 2262029012, 2685067896, 3183342108]
theorem halves_at : ∀ i : Fin 16, (halvesZ.getD i.val 0) = ((hn 4 i.val : Nat) : Int) := by decide +kernel
/-- Half a byte. -/
theorem hn4 (c : Nat) : hn 4 c = c / 16 ^^^ hn 4 (c % 16) := by
  have h : c = (2 ^ 4 * (c / 16)) ^^^ (c % 16) := by
    have h1 := Nat.two_pow_add_eq_or_of_lt (i := 4) (b := c % 16) (by omega) (c / 16)
    have h2 : (2 ^ 4 * (c / 16)) ^^^ (c % 16) = (2 ^ 4 * (c / 16)) ||| (c % 16) := by
      refine Nat.eq_of_testBit_eq fun i => ?_
      rw [Nat.testBit_xor, Nat.testBit_or, Nat.testBit_two_pow_mul, show (16 : Nat) = 2 ^ 4 from rfl, Nat.testBit_mod_two_pow]
      by_cases h4 : 4 ≤ i
      · simp [h4, Nat.not_lt.2 h4]
      · simp [h4]
    rw [h2, ← h1]; omega
  conv => lhs; rw [h]
  rw [hn_xor, hn_pow]

/-! ### what a step is as a polynomial -/
theorem rvn_xor (a b n : Nat) : rvn (a ^^^ b) n = rvn a n ^^^ rvn b n := by
  refine Nat.eq_of_testBit_eq fun i => ?_
  rw [rvn_bit, Nat.testBit_xor, Nat.testBit_xor, rvn_bit, rvn_bit]
  cases decide (i < n) <;> simp
theorem rvn_half {c : Nat} (h : c < 2 ^ 32) : rvn (c / 2) 32 = 2 * rvn c 32 % 2 ^ 32 := by
  refine eq_of_bits (rvn_lt _ _) (Nat.mod_lt _ (Nat.two_pow_pos _)) fun i hi => ?_
  rw [rvn_bit, Nat.testBit_mod_two_pow, ← Nat.testBit_succ]
  have e : ∀ x : Nat, (2 * x).testBit i = (decide (1 ≤ i) && x.testBit (i - 1)) := fun x => Nat.testBit_two_pow_mul (a := x) (i := 1) (j := i)
  rw [e, rvn_bit]
  cases i with
  | zero =>
    rw [Nat.testBit_lt_two_pow (Nat.lt_of_lt_of_le h (Nat.pow_le_pow_right (by omega) (by omega)))]
    simp
  | succ i =>
    rw [show (32 - 1 - (i + 1)).succ = 32 - 1 - (i + 1 - 1) from by omega]
    have : i < 32 := by omega
    simp [hi, this]
theorem rvn_top (c : Nat) : rvn c 32 < 2 ^ 31 ↔ c % 2 = 0 := by
  have hb := rvn_bit c 32 31
  have hl := rvn_lt c 32
  rw [Nat.testBit_eq_decide_div_mod_eq] at hb
  simp only [show 32 - 1 - 31 = 0 from rfl, Nat.testBit_zero, show decide (31 < 32) = true from rfl, Bool.true_and] at hb
  have := decide_eq_decide.1 hb
  omega
theorem rvn_hs {c : Nat} (h : c < 2 ^ 32) : rvn (hs c) 32 = pm (2 * rvn c 32) gP := by
  have hl := rvn_lt c 32
  rw [← (nxG_eq hl).1]
  have ht := rvn_top c
  unfold hs nxG
  by_cases hc : c % 2 = 1
  · rw [if_pos hc, rvn_xor, rvn_half h, show Nat.blt (rvn c 32) 2147483648 = false from by
      cases hb : Nat.blt (rvn c 32) 2147483648 with
      | false => rfl
      | true =>
        have h1 : rvn c 32 < 2147483648 := by simpa using hb
        omega]
    have e1 : rvn 3988292384 32 = 79764919 := by decide +kernel
    have e2 : 2 * rvn c 32 % 2 ^ 32 = 2 * rvn c 32 ^^^ 4294967296 := by
      have h3 : 2 * rvn c 32 = 2 ^ 32 + 2 * rvn c 32 % 2 ^ 32 := by omega
      have h4 := Nat.two_pow_add_eq_or_of_lt (i := 32) (b := 2 * rvn c 32 % 2 ^ 32) (Nat.mod_lt _ (by decide)) 1
      rw [Nat.mul_one] at h4
      have h5 : 2 * rvn c 32 = 2 * rvn c 32 % 2 ^ 32 ^^^ 2 ^ 32 := by
        refine Nat.eq_of_testBit_eq fun i => ?_
        conv => lhs; rw [h3, h4]
        rw [Nat.testBit_or, Nat.testBit_xor, Nat.testBit_two_pow, Nat.testBit_mod_two_pow]
        by_cases hi : 32 = i
        · subst hi; simp
        · simp [hi]
      exact (xor_move h5).symm
    rw [e1, e2, cond_false, Nat.xor_assoc]
    rfl
  · rw [if_neg hc, rvn_half h, show Nat.blt (rvn c 32) 2147483648 = true from by simp [Nat.blt_eq]; omega, cond_true]
    omega
theorem rvn_hn (n : Nat) : ∀ {c}, c < 2 ^ 32 → rvn (hn n c) 32 = pm (rvn c 32 * 2 ^ n) gP := by
  induction n with
  | zero =>
    intro c h
    rw [hn, Nat.pow_zero, Nat.mul_one, pm_lt0]
    rw [gP_bl]
    have : bl (rvn c 32) ≤ 32 := bl_le.2 (rvn_lt c 32)
    omega
  | succ n ih =>
    intro c h
    rw [hn, ih (hs_lt h), rvn_hs h, ← cm_pow, pm_cm_left _ _ gP_ne, cm_pow, Nat.pow_succ]
    congr 1
    rw [Nat.mul_comm 2, Nat.mul_assoc, Nat.mul_comm 2]
/-- The product by a power, as the program makes it. -/
theorem times_eq (n : Nat) {c : Nat} (h : c < 2 ^ 32) : rvn (pm (cm (rvn c 32) (pm (2 ^ n) gP)) gP) 32 = hn n c := by
  rw [pm_cm_right _ _ gP_ne, cm_pow, ← rvn_hn n h, rvn_rvn, Nat.mod_eq_of_lt (hn_lt n h)]
theorem hn31 : hn 31 2147483648 = 1 := by have := hn_pow1 31; simpa using this
theorem part_eq (n k : Nat) (h : k < 8 * n) : hn (32 + 8 * n - 1 - k) 2147483648 = hn (8 * n - k) 1 := by
  rw [show 32 + 8 * n - 1 - k = 31 + (8 * n - k) from by omega, hn_add, hn31]

/-! ### bytes -/
/-- The register behind some bytes. -/
def fol (c : Nat) : List Int → Nat
  | [] => c
  | x :: l => fol (hn 8 (c ^^^ x.toNat)) l
theorem fol_nil (c : Nat) : fol c [] = c := rfl
theorem fol_cons (c : Nat) (x : Int) (l : List Int) : fol c (x :: l) = fol (hn 8 (c ^^^ x.toNat)) l := rfl
/-- Bytes. -/
def Bys (l : List Int) : Prop := ∀ x ∈ l, 0 ≤ x ∧ x < 256
theorem Bys.nil : Bys [] := fun _ h => by cases h
theorem Bys.cons {x : Int} {l : List Int} (h : 0 ≤ x ∧ x < 256) (h2 : Bys l) : Bys (x :: l) := fun y hy => by
  rcases List.mem_cons.1 hy with rfl | hy
  · exact h
  · exact h2 y hy
theorem Bys.head {x : Int} {l : List Int} (h : Bys (x :: l)) : 0 ≤ x ∧ x < 256 := h x (by simp)
theorem Bys.tail {x : Int} {l : List Int} (h : Bys (x :: l)) : Bys l := fun y hy => h y (by simp [hy])
theorem Bys.append {l m : List Int} (h : Bys l) (h2 : Bys m) : Bys (l ++ m) := fun y hy => by
  rcases List.mem_append.1 hy with hy | hy
  · exact h y hy
  · exact h2 y hy
theorem Bys.take {l : List Int} (h : Bys l) (n : Nat) : Bys (l.take n) := fun y hy => h y (List.mem_of_mem_take hy)
theorem Bys.drop {l : List Int} (h : Bys l) (n : Nat) : Bys (l.drop n) := fun y hy => h y (List.mem_of_mem_drop hy)
theorem Bys.set {l : List Int} (h : Bys l) (i : Nat) {x : Int} (hx : 0 ≤ x ∧ x < 256) : Bys (l.set i x) := fun y hy => by
  rcases List.mem_or_eq_of_mem_set hy with hy | rfl
  · exact h y hy
  · exact hx
theorem Bys.get {l : List Int} (h : Bys l) (i : Nat) : 0 ≤ l[i]?.getD 0 ∧ l[i]?.getD 0 < 256 := by
  by_cases hi : i < l.length
  · rw [List.getElem?_eq_getElem hi]; exact h _ (List.getElem_mem hi)
  · rw [List.getElem?_eq_none (by omega)]; simp
theorem byte32 {x : Int} (h : 0 ≤ x ∧ x < 256) : x.toNat < 2 ^ 32 := by omega
theorem fol_append (l m : List Int) : ∀ c, fol c (l ++ m) = fol (fol c l) m := by
  induction l with
  | nil => intro c; rfl
  | cons x l ih => intro c; rw [List.cons_append, fol_cons, fol_cons, ih]
theorem fol_lt {l : List Int} (h : Bys l) : ∀ {c}, c < 2 ^ 32 → fol c l < 2 ^ 32 := by
  induction l with
  | nil => intro c hc; exact hc
  | cons x l ih => intro c hc; rw [fol_cons]; exact ih h.tail (hn_lt 8 (Nat.xor_lt_two_pow hc (byte32 h.head)))
theorem fol_lin (l : List Int) : ∀ c d, fol (c ^^^ d) l = hn (8 * l.length) c ^^^ fol d l := by
  induction l with
  | nil => intro c d; rfl
  | cons x l ih =>
    intro c d
    rw [fol_cons, fol_cons, Nat.xor_assoc, hn_xor, ih, List.length_cons, show 8 * (l.length + 1) = 8 + 8 * l.length from by omega, hn_add]
theorem fol_eq (c : Nat) (l : List Int) : fol c l = hn (8 * l.length) c ^^^ fol 0 l := by
  have := fol_lin l c 0; rwa [Nat.xor_zero] at this
theorem fol_rep (n : Nat) : ∀ c, fol c (List.replicate n 0) = hn (8 * n) c := by
  induction n with
  | zero => intro c; rfl
  | succ n ih =>
    intro c
    rw [List.replicate_succ, fol_cons, ih, show (0 : Int).toNat = 0 from rfl, Nat.xor_zero, show 8 * (n + 1) = 8 + 8 * n from by omega, hn_add]
theorem fol_step (c : Nat) {l : List Int} {i : Nat} (hi : i < l.length) : fol c (l.take (i + 1)) = hn 8 (fol c (l.take i) ^^^ (l[i]?.getD 0).toNat) := by
  rw [List.take_succ_eq_append_getElem hi, fol_append, List.getElem?_eq_getElem hi, fol_cons, fol_nil, Option.getD_some]
/-- The checksum of bytes behind others. -/
def upd (c : Nat) (l : List Int) : Nat := 4294967295 ^^^ fol (4294967295 ^^^ c) l
theorem upd_lt {l : List Int} (h : Bys l) {c : Nat} (hc : c < 2 ^ 32) : upd c l < 2 ^ 32 :=
  Nat.xor_lt_two_pow (by decide) (fol_lt h (Nat.xor_lt_two_pow (by decide) hc))
theorem upd_append (c : Nat) (l m : List Int) : upd c (l ++ m) = upd (upd c l) m := by
  unfold upd; rw [fol_append, xor_cl]
theorem upd_nil (c : Nat) : upd c [] = c := by unfold upd; rw [fol_nil, xor_cl]
theorem upd_eq (c : Nat) (l : List Int) : upd c l = hn (8 * l.length) c ^^^ upd 0 l := by
  unfold upd
  rw [Nat.xor_comm 4294967295 c, fol_lin, Nat.xor_zero]
  rw [← Nat.xor_assoc, Nat.xor_comm 4294967295 (hn _ c), Nat.xor_assoc]
theorem compl32 {c : Nat} (h : c < 2 ^ 32) : 4294967295 ^^^ c = 4294967295 - c := by
  have e : (4294967295 : Nat) - c = 2 ^ 32 - (c + 1) := by omega
  rw [e]
  refine eq_of_bits (n := 32) (Nat.xor_lt_two_pow (by decide) h) (by omega) fun i hi => ?_
  rw [Nat.testBit_two_pow_sub_succ h, Nat.testBit_xor, show (4294967295 : Nat) = 2 ^ 32 - 1 from rfl, Nat.testBit_two_pow_sub_one]
  simp [hi]

/-! ### the four bytes of a number, the lowest first -/
def le4 (c : Nat) : List Int := [((c % 256 : Nat) : Int), ((c / 256 % 256 : Nat) : Int), ((c / 65536 % 256 : Nat) : Int), ((c / 16777216 % 256 : Nat) : Int)]
theorem le4_len (c : Nat) : (le4 c).length = 4 := rfl
theorem le4_bys (c : Nat) : Bys (le4 c) := by
  intro x hx
  simp only [le4, List.mem_cons, List.not_mem_nil, or_false] at hx
  rcases hx with rfl | rfl | rfl | rfl <;> omega
theorem nat_parts (c k : Nat) : c = (2 ^ k * (c / 2 ^ k)) ^^^ (c % 2 ^ k) := by
  refine Nat.eq_of_testBit_eq fun i => ?_
  rw [Nat.testBit_xor, Nat.testBit_two_pow_mul, Nat.testBit_mod_two_pow, Nat.testBit_div_two_pow]
  by_cases hk : k ≤ i
  · simp [hk, Nat.not_lt.2 hk]
  · simp [hk, Nat.lt_of_not_le hk]
theorem hn_parts (c k : Nat) : hn k c = (c / 2 ^ k) ^^^ hn k (c % 2 ^ k) := by
  conv => lhs; rw [nat_parts c k]
  rw [hn_xor, hn_pow]
theorem fol_le4 {s : Nat} (h : s < 2 ^ 32) (c : Nat) : fol c (le4 s) = hn 32 (c ^^^ s) := by
  simp only [le4, fol_cons, fol_nil, Int.toNat_natCast]
  rw [show (32 : Nat) = 8 + (8 + (8 + 8)) from rfl, hn_add, hn_add, hn_add]
  have e1 := nat_parts s 8
  have e2 : hn 8 (c ^^^ s) = hn 8 (c ^^^ s % 256) ^^^ s / 256 := by
    conv => lhs; rw [e1]
    rw [Nat.xor_comm (2 ^ 8 * _), ← Nat.xor_assoc, hn_xor, hn_pow]
  have e3 := nat_parts (s / 256) 8
  have e4 := nat_parts (s / 65536) 8
  rw [e2]
  have e5 : ∀ x, hn 8 (x ^^^ s / 256) = hn 8 (x ^^^ s / 256 % 256) ^^^ s / 65536 := by
    intro x
    conv => lhs; rw [e3]
    rw [Nat.xor_comm (2 ^ 8 * _), ← Nat.xor_assoc, hn_xor, hn_pow, show s / 256 / 2 ^ 8 = s / 65536 from by omega]
  have e6 : ∀ x, hn 8 (x ^^^ s / 65536) = hn 8 (x ^^^ s / 65536 % 256) ^^^ s / 16777216 := by
    intro x
    conv => lhs; rw [e4]
    rw [Nat.xor_comm (2 ^ 8 * _), ← Nat.xor_assoc, hn_xor, hn_pow, show s / 65536 / 2 ^ 8 = s / 16777216 from by omega]
  rw [e5, e6, show s / 16777216 % 256 = s / 16777216 from by omega]
theorem le4_inj {a b : Nat} (ha : a < 2 ^ 32) (hb : b < 2 ^ 32) (h : le4 a = le4 b) : a = b := by
  simp only [le4, List.cons.injEq, and_true] at h
  omega
/-- Four bytes are those of a number. -/
theorem le4_of {l : List Int} (hl : l.length = 4) (h : Bys l) : ∃ s, s < 2 ^ 32 ∧ l = le4 s := by
  match l, hl with
  | [a, b, c, d], _ =>
    have h1 := h a (by simp); have h2 := h b (by simp); have h3 := h c (by simp); have h4 := h d (by simp)
    refine ⟨a.toNat + 256 * b.toNat + 65536 * c.toNat + 16777216 * d.toNat, by omega, ?_⟩
    simp only [le4, List.cons.injEq, and_true]
    omega

/-! ### sealed bytes -/
def chg (l : List Int) : Nat := upd 0 l ^^^ 558161692
theorem seal_const : upd 0 (le4 0) = 558161692 := by decide +kernel
theorem seal_hn : 4294967295 ^^^ hn 32 4294967295 = 558161692 := by decide +kernel
theorem chg_lt {l : List Int} (h : Bys l) : chg l < 2 ^ 32 := Nat.xor_lt_two_pow (upd_lt h (by decide)) (by decide)
/-- What is sealed. -/
def Sea (l : List Int) : Prop := 4 ≤ l.length ∧ chg l = 0
instance (l : List Int) : Decidable (Sea l) := by unfold Sea; infer_instance
theorem chg_le4 {l : List Int} (h : Bys l) {s : Nat} (hs : s < 2 ^ 32) : chg (l ++ le4 s) = 0 ↔ s = upd 0 l := by
  have hr : fol 4294967295 l < 2 ^ 32 := fol_lt h (by decide)
  have e : chg (l ++ le4 s) = hn 32 (fol 4294967295 l ^^^ s) ^^^ hn 32 4294967295 := by
    unfold chg upd
    rw [fol_append, fol_le4 hs, Nat.xor_zero, ← seal_hn, xor_ex, Nat.xor_self, Nat.zero_xor]
  rw [e]
  unfold upd
  rw [Nat.xor_zero]
  constructor
  · intro h0
    have := hn_inj 32 (Nat.xor_lt_two_pow hr hs) (by decide) (xor_eq0 h0)
    have h2 : s = fol 4294967295 l ^^^ 4294967295 := (xor_cl (fol 4294967295 l) s).symm.trans (congrArg (fun x => fol 4294967295 l ^^^ x) this)
    conv => lhs; rw [h2, Nat.xor_comm]
  · intro h0
    rw [h0, Nat.xor_comm 4294967295, xor_cl, Nat.xor_self]
theorem sealed_of {l : List Int} (h : Bys l) : Sea (l ++ le4 (upd 0 l)) :=
  ⟨by rw [List.length_append, le4_len]; omega, (chg_le4 h (upd_lt h (by decide))).2 rfl⟩
/-- Sealed bytes are those whose last four are the checksum of those before. -/
theorem sea_iff {l : List Int} (h : Bys l) (h4 : 4 ≤ l.length) : Sea l ↔ l.take (l.length - 4) ++ le4 (upd 0 (l.take (l.length - 4))) = l := by
  obtain ⟨s, hs, he⟩ := le4_of (l := l.drop (l.length - 4)) (by simp; omega) (h.drop _)
  have hl : l = l.take (l.length - 4) ++ le4 s := by rw [← he, List.take_append_drop]
  have hb := h.take (l.length - 4)
  have hu := upd_lt hb (c := 0) (by decide)
  constructor
  · rintro ⟨_, h0⟩
    rw [hl] at h0
    have := (chg_le4 hb hs).1 h0
    rw [← this, ← hl]
  · intro hh
    refine ⟨h4, ?_⟩
    rw [← hh]
    exact (chg_le4 hb hu).2 rfl

/-! ### single bits -/
/-- The linear part of the bit k of n bytes. -/
def prt (n k : Nat) : Nat := hn (8 * n - k) 1
theorem prt_ne (n k : Nat) : prt n k ≠ 0 := hn_one_ne _
theorem prt_lt (n k : Nat) : prt n k < 2 ^ 32 := hn_lt _ (by decide)
/-- Bytes in which a bit is changed. -/
def flp (l : List Int) (k : Nat) : List Int := l.set (k / 8) (((l[k / 8]?.getD 0).toNat ^^^ 2 ^ (k % 8) : Nat) : Int)
theorem flp_len (l : List Int) (k : Nat) : (flp l k).length = l.length := by simp [flp]
theorem flp_byte {x : Int} (h : 0 ≤ x ∧ x < 256) (j : Nat) (hj : j < 8) : (x.toNat ^^^ 2 ^ j : Nat) < 256 :=
  Nat.xor_lt_two_pow (n := 8) (by omega) (Nat.pow_lt_pow_right (by omega) hj)
theorem flp_bys {l : List Int} (h : Bys l) (k : Nat) : Bys (flp l k) :=
  h.set _ ⟨by omega, by have := flp_byte (h.get (k / 8)) (k % 8) (by omega); omega⟩
theorem fol_flp (c : Nat) {l : List Int} (k : Nat) (hk : k < 8 * l.length) : fol c (flp l k) = fol c l ^^^ prt l.length k := by
  have hi : k / 8 < l.length := by omega
  have e0 : l = l.take (k / 8) ++ l[k / 8]?.getD 0 :: l.drop (k / 8 + 1) := by
    rw [List.getElem?_eq_getElem hi]; simp
  have e1 : flp l k = l.take (k / 8) ++ (((l[k / 8]?.getD 0).toNat ^^^ 2 ^ (k % 8) : Nat) : Int) :: l.drop (k / 8 + 1) := by
    unfold flp; rw [List.set_eq_take_append_cons_drop, if_pos hi]
  rw [e1]
  conv => rhs; rw [e0]
  rw [fol_append, fol_append, fol_cons, fol_cons, Int.toNat_natCast, ← Nat.xor_assoc, hn_xor, Nat.xor_comm (hn 8 (fol c _ ^^^ _)), fol_lin, Nat.xor_comm (hn (8 * _) _)]
  congr 1
  rw [hn_one 8 (k % 8) (by omega), ← hn_add, List.length_drop]
  unfold prt
  congr 1
  have : (l.take (k / 8) ++ l[k / 8]?.getD 0 :: l.drop (k / 8 + 1)).length = l.length := by rw [← e0]
  rw [this]; omega
theorem chg_flp {l : List Int} (k : Nat) (hk : k < 8 * l.length) : chg (flp l k) = chg l ^^^ prt l.length k := by
  unfold chg upd
  rw [fol_flp _ k hk, ← Nat.xor_assoc, Nat.xor_assoc _ (prt _ _), Nat.xor_comm (prt _ _), ← Nat.xor_assoc]
/-- A change of one bit seals just if it is the one that is missing. -/
theorem sea_flp {l : List Int} (h4 : 4 ≤ l.length) (k : Nat) (hk : k < 8 * l.length) : Sea (flp l k) ↔ prt l.length k = chg l := by
  unfold Sea
  rw [flp_len, chg_flp k hk]
  constructor
  · rintro ⟨_, h⟩; exact (xor_eq0 h).symm
  · intro h; exact ⟨h4, by rw [h, Nat.xor_self]⟩
/-- What some bits, each as often as it is there, add. -/
def dmg (n : Nat) : List Nat → Nat
  | [] => 0
  | k :: l => prt n k ^^^ dmg n l
theorem dmg_lt (n : Nat) (l : List Nat) : dmg n l < 2 ^ 32 := by
  induction l with
  | nil => exact Nat.two_pow_pos 32
  | cons k l ih => exact Nat.xor_lt_two_pow (prt_lt n k) ih
theorem dmg_append (n : Nat) (l m : List Nat) : dmg n (l ++ m) = dmg n l ^^^ dmg n m := by
  induction l with
  | nil => rw [List.nil_append, dmg, Nat.zero_xor]
  | cons k l ih => rw [List.cons_append, dmg, dmg, ih, Nat.xor_assoc]
theorem chg_flps (ks : List Nat) : ∀ {l : List Int}, (∀ k ∈ ks, k < 8 * l.length) → chg (ks.foldl flp l) = chg l ^^^ dmg l.length ks := by
  induction ks with
  | nil => intro l _; rw [List.foldl_nil, dmg, Nat.xor_zero]
  | cons k ks ih =>
    intro l h
    rw [List.foldl_cons, ih (by intro j hj; rw [flp_len]; exact h j (by simp [hj])), chg_flp k (h k (by simp)), flp_len, dmg, Nat.xor_assoc]
end Go.Proofs.YtdaijbplbnkpeaaDoor
