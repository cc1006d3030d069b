/-
  The walk of BitsOne.
-/
import Derived.Test.YtcdjfgkjllonhaaDoorBl1
import Derived.Deep.CutBlock
namespace Go.Proofs.YtcdjfgkjllonhaaDoor
open Go.RowKit Go.Shelf

theorem swap_perm {M : List Int} {i j : Nat} (hi : i < M.length) (hj : j < M.length) : ((M.set i (M[j]?.getD 0)).set j (M[i]?.getD 0)).Perm M := by
  have hp := @List.set_set_perm _ M i j hi hj
  rw [List.getElem?_eq_getElem hi, List.getElem?_eq_getElem hj]
  exact hp
theorem own_cell {w : World} {base g c C : Nat} {M : List Int} (h : w.ownsRow base 3 1 (.slice (some ⟨g, 0, none⟩) C c) C (M.map (Value.int .i64))) (hl : M.length = C) {j : Nat} (hj : j < C) : w.cell? ⟨g, j, none⟩ = some (.int .i64 (M[j]?.getD 0)) := by
  have h2 := World.ownsRow.cellAt h j (show j < C * 1 by omega)
  rw [h2, List.getElem?_map, List.getElem?_eq_getElem (by omega : j < M.length)]
  rfl

/-- A right set in new memory, with the members that p says. -/
def GoodE (w : World) (N K : Nat) (p : Nat → Bool) (e : Ending) (w' : World) : Prop :=
  ∃ g c R, e = .returned (.tuple #[.agg #[.int .i64 (N : Int), .slice g K c], .int .i64 0]) ∧ SetIn w' (N : Int) g K c R ∧ RightS (N : Int) R ∧ (∀ i, bt R i = p i) ∧ Below w.heap.size w w'
/-- The same with its row. -/
def GoodO (w : World) (N K : Nat) (R : List Int) (e : Ending) (w' : World) : Prop :=
  ∃ g c, e = .returned (.tuple #[.agg #[.int .i64 (N : Int), .slice g K c], .int .i64 0]) ∧ w'.ownsRow w.heap.size 30 1 (.slice g K c) K (R.map (Value.int .u64)) ∧ Below w.heap.size w w'
theorem SetE.good {w : World} {N K : Nat} {p : Nat → Bool} {e : Ending} {w' : World} (hT : Tbz w) (hK : K = (N + 63) / 64) (hN : N ≤ 65536) (hp : ∀ i, N ≤ i → p i = false) (h : SetE w N p e w') : GoodE w N K p e w' := by
  obtain ⟨g, c, R, rfl, hown, hWd, hbt, hD⟩ := h
  have hl : R.length = (N + 63) / 64 := by have h9 := hown.1; simpa using h9
  subst hK
  exact ⟨g, c, R, rfl, ⟨own_sl hown, hWd, by omega, by omega, hT.step hD⟩, RightS.of hN hl (fun i hi => by rw [hbt i]; exact hp i hi), hbt, hD⟩
theorem same_words {W W2 : World} {N M : Int} {g g2 : Option Addr} {K c c2 : Nat} {R R2 : List Int} (h1 : SetIn W N g K c R) (h2 : SetIn W2 M g2 K c2 R2) (h : ∀ i, bt R i = bt R2 i) : R = R2 :=
  words_ext (by rw [h1.sl.1, h2.sl.1]) h1.wds h2.wds h
theorem rk_one {A B : List Int} {k : Nat} (hk : bt A k = true) (h : ∀ j, bt B j = (bt A j && !decide (j = k))) (i : Nat) : rk A i = rk B i + if k < i then 1 else 0 := by
  induction i with
  | zero => simp [rk_zero]
  | succ i ih =>
    rw [rk_succ, rk_succ, ih, h i]
    by_cases hi : i = k
    · subst hi; rw [hk]; simp
    · rw [decide_eq_false hi]
      by_cases h2 : k < i
      · have h3 : k < i + 1 := by omega
        rw [if_pos h2, if_pos h3]
        cases bt A i <;> simp <;> omega
      · have h3 : ¬ k < i + 1 := by omega
        rw [if_neg h2, if_neg h3]
        cases bt A i <;> simp
theorem all_one {A B : List Int} {k : Nat} (hl : B.length = A.length) (hk : bt A k = true) (h : ∀ j, bt B j = (bt A j && !decide (j = k))) : (all A).length = (all B).length + 1 := by
  have h1 := rk_one hk h (64 * A.length)
  have hlt := all_lt (all_mem.2 hk)
  rw [rk_big (Nat.le_refl _), rk_big (by rw [hl]; exact Nat.le_refl _), if_pos hlt] at h1
  exact h1
theorem of_mds {W w2 : World} {sb N K : Nat} {g : Option Addr} {c : Nat} {R : List Int} (h : MdS w2 W sb N K g c R) (hR : RightS (N : Int) R) (hK : K = (N + 63) / 64) (hN : N ≤ 65536) {M : List Int} (hP : M.Perm (ints (all R))) (a : Option Addr) (m cc : Nat) (hs : Sl .i64 W a m cc (M ++ M)) :
    Calls Tryd.prog 35 #[.int .i64 (N : Int), .slice a m cc] W (GoodO W N K R) := by
  refine (of_any W N hN a m cc (M ++ M) hs).mono ?_
  rintro e w' ⟨hok, _⟩
  have hm : ∀ x, x ∈ M ↔ x ∈ ints (all R) := fun x => hP.mem_iff
  have hb : ∀ x : Nat, (x : Int) ∈ M ↔ bt R x = true := fun x => by
    rw [hm, ← all_mem]
    unfold ints
    simp only [List.mem_map]
    exact ⟨fun ⟨y, hy, he⟩ => by have : y = x := by exact_mod_cast he
                                 exact this ▸ hy, fun h => ⟨x, h, rfl⟩⟩
  have hrange : ∀ x ∈ M ++ M, 0 ≤ x ∧ x < (N : Int) := fun x hx => by
    have hx2 : x ∈ M := by rcases List.mem_append.1 hx with h | h <;> exact h
    have hx3 := (hm x).1 hx2
    unfold ints at hx3
    obtain ⟨y, hy, rfl⟩ := List.mem_map.1 hx3
    have hyb := all_mem.1 hy
    refine ⟨Int.natCast_nonneg y, ?_⟩
    by_cases hlt : (y : Int) < (N : Int)
    · exact hlt
    · rw [hR.out (by omega)] at hyb; cases hyb
  have hsE := hok hrange
  have hfun : (fun i : Nat => (M ++ M).contains (i : Int)) = bt R := by
    funext i
    have h2 : ((i : Int) ∈ M ++ M) ↔ bt R i = true := by rw [List.mem_append, or_self]; exact hb i
    cases hbi : bt R i with
    | true => exact List.contains_iff_mem.2 (h2.2 hbi)
    | false =>
      cases hc : (M ++ M).contains (i : Int) with
      | true => have := h2.1 (List.contains_iff_mem.1 hc); rw [hbi] at this; cases this
      | false => rfl
  rw [hfun] at hsE
  obtain ⟨g2, c2, R2, rfl, hown, hWd, hbt, hD⟩ := hsE
  have hl : R2.length = (N + 63) / 64 := by have h9 := hown.1; simpa using h9
  have e1 : R2 = R := words_ext (by rw [hl, h.set.sl.1, hK]) hWd h.set.wds hbt
  rw [e1] at hown
  subst hK
  exact ⟨g2, c2, rfl, hown, hD⟩
theorem put0 {w : World} {b : Nat} {t : TypeId} {v0 v1 : Value} (h : Two w b t v0 v1) (x : Value) : Two (w.setCell ⟨b, 0, none⟩ x) b t x v1 := by
  obtain ⟨hlt, hk⟩ := Array.getElem?_eq_some_iff.1 h
  show (w.heap.modify b _)[b]? = _
  rw [Array.getElem?_eq_getElem (by rw [Array.size_modify]; exact hlt), Array.getElem_modify_self, hk]
  rfl
theorem put1 {w : World} {b : Nat} {t : TypeId} {v0 v1 : Value} (h : Two w b t v0 v1) (x : Value) : Two (w.setCell ⟨b, 1, none⟩ x) b t v0 x := by
  obtain ⟨hlt, hk⟩ := Array.getElem?_eq_some_iff.1 h
  show (w.heap.modify b _)[b]? = _
  rw [Array.getElem?_eq_getElem (by rw [Array.size_modify]; exact hlt), Array.getElem_modify_self, hk]
  rfl
theorem own_blk {w : World} {base : Nat} {e : TypeId} {size : Nat} {v : Value} {n : Nat} {xs : List Value} (h : w.ownsRow base e size v n xs) {k : Nat} (hk : v.ownBlock = some k) : base ≤ k ∧ k < w.heap.size := by
  rcases h.2 with ⟨hv, _⟩ | ⟨g, cap, cur, hv, hb, hh, _⟩
  · rw [hv] at hk; simp [Value.ownBlock] at hk
  · rw [hv] at hk; simp [Value.ownBlock] at hk; subst hk; exact ⟨hb, (Array.getElem?_eq_some_iff.1 hh).1⟩
theorem with_good {W : World} {N K : Nat} {g : Option Addr} {c : Nat} {R : List Int} (h : SetIn W (N : Int) g K c R) (hR : RightS (N : Int) R) (hK : K = (N + 63) / 64) (hN : N ≤ 65536) {i : Nat} (hi : i < N) :
    Calls Tryd.prog 36 #[.agg #[.int .i64 (N : Int), .slice g K c], .int .i64 (i : Int)] W (GoodE W N K fun j => bt R j || decide (j = i)) :=
  (withOk_any W N i g K c R h (rightB_yes hR) hi).mono fun e w' hs => SetE.good h.tab hK hN (fun j hj => by rw [hR.out (by omega), decide_eq_false (by omega)]; rfl) hs
theorem without_good {W : World} {N K : Nat} {g : Option Addr} {c : Nat} {R : List Int} (h : SetIn W (N : Int) g K c R) (hR : RightS (N : Int) R) (hK : K = (N + 63) / 64) (hN : N ≤ 65536) {i : Nat} (hi : i < N) :
    Calls Tryd.prog 37 #[.agg #[.int .i64 (N : Int), .slice g K c], .int .i64 (i : Int)] W (GoodE W N K fun j => bt R j && !decide (j = i)) :=
  (withoutOk_any W N i g K c R h (rightB_yes hR) hi).mono fun e w' hs => SetE.good h.tab hK hN (fun j hj => by rw [hR.out (by omega)]; rfl) hs
/-- Some right sets in variables. -/
def Five (w : World) (N K : Nat) (T : List (Nat × Option Addr × Nat × List Int)) (W : World) : Prop := ∀ t ∈ T, MdS w W t.1 N K t.2.1 t.2.2.1 t.2.2.2
theorem Five.step {w : World} {N K : Nat} {T : List (Nat × Option Addr × Nat × List Int)} {W W' : World} (h : Five w N K T W) (hb : Below W.heap.size W W') : Five w N K T W' := fun t ht => (h t ht).step hb
theorem Five.mk {w : World} {N K : Nat} {W : World} {b0 b1 b2 b3 b4 c0 c1 c2 c3 c4 : Nat} {g0 g1 g2 g3 g4 : Option Addr} {R0 R1 R2 R3 R4 : List Int} (h0 : MdS w W b0 N K g0 c0 R0) (h1 : MdS w W b1 N K g1 c1 R1) (h2 : MdS w W b2 N K g2 c2 R2) (h3 : MdS w W b3 N K g3 c3 R3) (h4 : MdS w W b4 N K g4 c4 R4) :
    ∃ T, Five w N K T W ∧ (∀ W', Five w N K T W' → MdS w W' b0 N K g0 c0 R0) ∧ (∀ W', Five w N K T W' → MdS w W' b1 N K g1 c1 R1) ∧ (∀ W', Five w N K T W' → MdS w W' b2 N K g2 c2 R2) ∧ (∀ W', Five w N K T W' → MdS w W' b3 N K g3 c3 R3) ∧ (∀ W', Five w N K T W' → MdS w W' b4 N K g4 c4 R4) := by
  refine ⟨[(b0, g0, c0, R0), (b1, g1, c1, R1), (b2, g2, c2, R2), (b3, g3, c3, R3), (b4, g4, c4, R4)], ?_, ?_, ?_, ?_, ?_, ?_⟩
  · intro t ht
    simp only [List.mem_cons, List.not_mem_nil, or_false] at ht
    rcases ht with rfl | rfl | rfl | rfl | rfl
    · exact h0
    · exact h1
    · exact h2
    · exact h3
    · exact h4
  · intro W' h; exact h (b0, g0, c0, R0) (by simp)
  · intro W' h; exact h (b1, g1, c1, R1) (by simp)
  · intro W' h; exact h (b2, g2, c2, R2) (by simp)
  · intro W' h; exact h (b3, g3, c3, R3) (by simp)
  · intro W' h; exact h (b4, g4, c4, R4) (by simp)
attribute [irreducible] Five
theorem has_bit {W : World} {N K : Nat} {g : Option Addr} {c : Nat} {R : List Int} (h : SetIn W (N : Int) g K c R) (hR : RightS (N : Int) R) {k : Nat} (hk : k ≤ 65536) {b : Bool} (hb : bt R k = b) :
    Calls Tryd.prog 28 #[.agg #[.int .i64 (N : Int), .slice g K c], .int .i64 (k : Int)] W fun e w' => e = .returned (.bool b) ∧ Below W.heap.size W w' := by
  have q := has_any W (N : Int) (k : Int) g K c R h (by omega) (by omega)
  rw [ef_yes (rightB_yes hR), Int.toNat_natCast, hb, decide_eq_true (show (0 : Int) ≤ (k : Int) by omega), Bool.true_and] at q
  exact q
theorem count_bit {W : World} {N K : Nat} {g : Option Addr} {c : Nat} {R : List Int} (h : SetIn W (N : Int) g K c R) (hR : RightS (N : Int) R) {n : Nat} (hn : n = (all R).length) :
    Calls Tryd.prog 21 #[.agg #[.int .i64 (N : Int), .slice g K c]] W fun e w' => e = .returned (.int .i64 (n : Int)) ∧ Below W.heap.size W w' := by
  have q := count_any W (N : Int) g K c R h
  rw [ef_yes (rightB_yes hR), ← hn] at q
  exact q
theorem same_yes {W : World} {N M : Int} {g g2 : Option Addr} {K c c2 : Nat} {R R2 : List Int} (h1 : SetIn W N g K c R) (h2 : SetIn W M g2 K c2 R2) (h : R = R2) :
    Calls Tryd.prog 33 #[.slice g K c, .slice g2 K c2] W fun e w' => e = .returned (.bool true) ∧ Below W.heap.size W w' :=
  (sameNums_yes _ _ _ _ _ _ _ _ _ h1.sl h2.sl h).mono fun _ _ ⟨he, hd⟩ => ⟨he, hd.below⟩
theorem MdS.drew' {w W : World} {sb N K : Nat} {g : Option Addr} {c : Nat} {R : List Int} (h : MdS w W sb N K g c R) : MdS w W.drew sb N K g c R := h.step (Below.refl _ _).drew
/-- What is made is put into a variable. -/
theorem MdS.made {w W v : World} {N K : Nat} {g : Option Addr} {c : Nat} {R : List Int} (hb : Below w.heap.size w W) (hD : Below W.heap.size W v) (h : SetIn v (N : Int) g K c R) : MdS w (v.alloc (.cells #[.int .i64 (N : Int), .slice g K c] 24)) v.heap.size N K g c R := by
  have hA : Below v.heap.size v (v.alloc (.cells #[.int .i64 (N : Int), .slice g K c] 24)) := (Below.refl _ v).alloc (Nat.le_refl _) _
  exact ⟨bstep (bstep hb hD) hA, h.below hA, Two.new _ _ _ _⟩

set_option maxRecDepth 100000 in
set_option maxHeartbeats 8000000 in
theorem one_walk (w : World) (hT : Tbz w) (x : Int) (a : Option Addr) (len cap : Nat) (l : List Int) (i turn : Int) (hx : (Lit.int .u16 x).wf = true) (hs : Sl .u64 w a len cap l) (hf : Fits .u64 l) (hi : (Lit.int .i64 i).wf = true) (hturn : (Lit.int .u8 turn).wf = true) :
    Calls Tryd.prog 10 #[.int .u16 x, .slice a len cap, .int .i64 i, .int .u8 turn] w fun e w' => e = .returned (.bool true) ∧ Below w.heap.size w w' := by
  obtain ⟨hx0, hx1⟩ := bounds_u16 hx
  obtain ⟨hi0, hi1⟩ := bounds_i64 hi
  obtain ⟨hy0, hy1⟩ := bounds_u8 hturn
  have hw := Wds.of_fits hf
  obtain ⟨N, hN⟩ : ∃ N : Nat, (N : Int) = x % (64 * (min len 16 : Nat) + 1) := ⟨(x % (64 * (min len 16 : Nat) + 1)).toNat, by rw [Int.toNat_of_nonneg (Int.emod_nonneg _ (by omega))]⟩
  have hNb : N ≤ 1024 := by
    have := Int.emod_lt_of_pos x (show (0 : Int) < 64 * ((min len 16 : Nat) : Int) + 1 by omega)
    omega
  clear hx hf hi hturn
  go_enter Tryd.func10, Tryd.ntmps10
  go_wp2_with fail
  refine (awake_any w hT).mono ?_
  rintro e w1 ⟨rfl, hB1⟩
  go_wp2_with fail
  refine (made_any w1 x a len cap l (hs.below hB1) hw hx0 (by omega) N hN).mono ?_
  unfold MadeS
  rintro e w2 ⟨g, c, R, rfl, hown, hWd, hR, hB2⟩
  obtain ⟨Kw, hK⟩ : ∃ Kw, Kw = (N + 63) / 64 := ⟨_, rfl⟩
  rw [← hK] at hown ⊢
  have hA : Below w2.heap.size w2 (w2.alloc (.cells #[.int .i64 (N : Int), .slice g Kw c] 24)) := (Below.refl _ w2).alloc (Nat.le_refl _) _
  have hBB := bstep hB1 hB2
  have hS0 : MdS w _ w2.heap.size N Kw g c R := ⟨bstep hBB hA, ⟨(own_sl hown).below hA, hWd, by omega, by omega, hT.step (bstep hBB hA)⟩, Two.new _ _ _ _⟩
  have hRb := rightB_yes hR
  have hef := ef_yes hRb
  have hRl : R.length = Kw := hS0.set.sl.1
  have hEl : R.length ≤ 1024 := by have := hR.2.2.1; omega
  have hCm := all_small hEl
  have q := members_any _ (N : Int) g Kw c R hS0.set
  rw [hef] at q
  have HK := Lib.hid hK
  have HRL := Lib.hid hRl
  clear hs hw hN hT hown hB1 hB2 hA hBB hK hRl
  go_wp2_with fail
  obtain ⟨wB, hwB⟩ : ∃ wz, wz = w2.alloc (.cells #[.int .i64 (N : Int), .slice g Kw c] 24) := ⟨_, rfl⟩
  rw [← hwB] at hS0 q ⊢
  refine q.mono ?_
  unfold GivesI
  rintro e w3 ⟨ga, gc, rfl, hrow, hD⟩
  obtain ⟨sb, hsb⟩ : ∃ b, b = w2.heap.size := ⟨_, rfl⟩
  rw [← hsb] at hS0 ⊢
  obtain ⟨L, hL⟩ : ∃ L, L = all R := ⟨_, rfl⟩
  rw [← hL] at hrow hCm ⊢
  obtain ⟨C, hC⟩ : ∃ C, C = L.length := ⟨_, rfl⟩
  rw [← hC] at hrow hCm ⊢
  have HL := Lib.hid hL
  have HC := Lib.hid hC
  clear q hwB hsb hL hC
  go_wp2_with fail
  go_loopw [32] (fun I wr => ∃ (k : Nat) (M : List Int), k ≤ C ∧ I = .int .i64 (k : Int) ∧ M.Perm (ints L) ∧ Below wB.heap.size wB wr ∧ wr.ownsRow wB.heap.size 3 1 (.slice ga C gc) C (M.map (Value.int .i64))) (fun I _ => C - (intOf I).toNat)
  case atStart => exact ⟨0, ints L, by omega, rfl, List.Perm.refl _, hD, hrow⟩
  case round =>
    obtain ⟨k, M, hk, rfl, hP, hD0, hM0⟩ := hrel
    clear hrow hD
    have hMl : M.length = C := by have := hP.length_eq; rw [this, ints_len, HC.out]
    by_cases hlt : k < C
    · obtain ⟨gb, rfl, hbg, hgl, _, hCc⟩ := own_addr2 hM0 (by omega)
      obtain ⟨m, hm⟩ : ∃ m : Nat, (m : Int) = (k : Int) * turn := ⟨((k : Int) * turn).toNat, Int.toNat_of_nonneg (Int.mul_nonneg (by omega) hy0)⟩
      have em : (k : Int) * turn = (m : Int) := hm.symm
      have hmb : m ≤ 65536 * 255 := by
        have h1 : (k : Int) * turn ≤ 65536 * 255 := Int.mul_le_mul (by omega) (by omega) hy0 (by omega)
        omega
      obtain ⟨p, hp⟩ : ∃ p : Nat, p = m % C := ⟨_, rfl⟩
      have hpC : p < C := by rw [hp]; exact Nat.mod_lt _ (by omega)
      have ep : (m : Int) % (C : Int) = (p : Int) := by rw [hp]; omega
      have ep2 : (m : Int).tmod (C : Int) = (p : Int) := by rw [Int.tmod_eq_emod_of_nonneg (by omega)]; exact ep
      have wm : IntKind.i64.wrap (m : Int) = (m : Int) := by rw [IntKind.wrap_i64]; omega
      have wp2 : IntKind.i64.wrap (p : Int) = (p : Int) := by rw [IntKind.wrap_i64]; omega
      have wt : IntKind.i64.wrap turn = turn := by rw [IntKind.wrap_i64]; omega
      have hC0 : ¬ (C : Int) = 0 := by omega
      have hCz : ((C : Int) == 0) = false := by simp; omega
      have hC0n : ¬ C = 0 := by omega
      have i1 : (k : Int) < (C : Int) := by omega
      have i2 : (p : Int) < (C : Int) := by omega
      have cK := own_cell hM0 hMl hlt
      have cP := own_cell hM0 hMl hpC
      have fK := World.ownsRow.frozenAt hM0 k
      have hPm := (swap_perm (M := M) (i := k) (j := p) (by omega) (by omega)).trans hP
      obtain ⟨A, hAe⟩ : ∃ A, A = M[k]?.getD 0 := ⟨_, rfl⟩
      obtain ⟨B, hBe⟩ : ∃ B, B = M[p]?.getD 0 := ⟨_, rfl⟩
      rw [← hAe] at cK hPm
      rw [← hBe] at cP hPm
      have hs1 := (World.ownsRow.stored hM0 k (.int .i64 B)).1
      rw [← List.map_set] at hs1
      have cP2 := own_cell hs1 (by rw [List.length_set]; exact hMl) hpC
      have fP := World.ownsRow.frozenAt hs1 p
      have hs2 := (World.ownsRow.stored hs1 p (.int .i64 A)).1
      rw [← List.map_set] at hs2
      have hB9 := ((hD0.setCell (p := ⟨gb, k, none⟩) (by exact hbg) (.int .i64 B)).setCell (p := ⟨gb, p, none⟩) (by exact hbg) (.int .i64 A)).drew
      have hs3 := ownsRow_below hs2 (Below.refl _ _).drew
      have HZ := Lib.hid (And.intro hPm (And.intro hB9 hs3))
      clear hm hp hAe hBe hs1 hs2 hs3 hB9 hPm hM0 hD0 hP
      go_wp2_with fail
      go_region
      all_goals
        clear cK cP cP2 fK fP
        go_wp2_with fail
        go_roundw
        case rel => exact ⟨k + 1, _, by omega, by go_num, HZ.out.1, HZ.out.2.1, HZ.out.2.2⟩
        case measure => simp [intOf]; omega
    · obtain rfl : k = C := by omega
      have hS1 := hS0.step hD0
      rw [HL.out] at hP
      go_upto_region 10 with fail
      go_cut [12, 13] from 62 to 70 (fun P E wx => ∃ (ab : Nat) (g2 : Option Addr) (c2 : Nat), P = .pointer (some ⟨ab, 0, none⟩) ∧ E = .int .i64 0 ∧ MdS w wx sb N Kw g c R ∧ MdS w wx ab N Kw g2 c2 R)
      case first =>
        obtain ⟨i0, hinf, hz0, hz1, hz2⟩ := info_parts infoIb
        have hbB : wB.heap.size ≤ wr.drew.heap.size := hD0.drew.size
        have hMd : wr.drew.ownsRow wB.heap.size 3 1 (.slice ga k gc) M.length (M.map (Value.int .i64)) := by rw [hMl]; exact ownsRow_below hM0 (Below.refl _ _).drew
        have hSd : Sl .i64 wr.drew ga k gc M := (own_sl hM0).below (Below.refl _ _).drew
        have hDd := hD0.drew
        have hOB := fun q e => own_blk hM0 (k := q) e
        obtain ⟨D2, hD2⟩ : ∃ D, D = (M ++ M).length := ⟨_, rfl⟩
        have HD2 := Lib.hid hD2
        clear hD2
        have hS1d := hS1.drew'
        have h0 := And.intro hS1d.bel hS1d.two.c0
        have HMl := Lib.hid hMl
        refine wp_region_noPanic ?_
        refine wp_region_held_drew (S := fun w' => Below w.heap.size w w' ∧ w'.cell? ⟨sb, 0, none⟩ = some (.int .i64 (N : Int))) (by kernel_rfl) (h0) (fun hHeld => ?_)
        refine wpAnyH_take (i := 0) (oi := { dst := some 63, op := Go.Op.fieldAddr 24 (Go.Operand.tmp 9) 0, type := 0, pos := "outright.go:131", after := #[], guard := none }) (v := ?v0x1) rfl (by kernel_rfl) (by kernel_rfl) (by kernel_rfl) (fun _ _ _ h => h) (Or.inl ⟨by rfl, ?hy0x1⟩) hHeld ?rest0x1
        case hy0x1 =>
          intro w hSw
          try dsimp only at hSw
          go_simp
          try with_reducible rfl
        try simp only [Act.put, List.setIfInBounds_toArray, List.set_cons_zero, List.set_cons_succ]
        refine wpAnyH_take (i := 1) (oi := { dst := some 64, op := Go.Op.load 3 (Go.Operand.tmp 63), type := 3, pos := "outright.go:131", after := #[{ on := 0, ground := Go.Ground.data }], guard := none }) (v := ?v1x2) rfl (by kernel_rfl) (by kernel_rfl) (by kernel_rfl) (fun _ _ _ h => h) (Or.inl ⟨by rfl, ?hy1x2⟩) hHeld ?rest1x2
        case hy1x2 =>
          intro w hSw
          try dsimp only at hSw
          go_simp
          try with_reducible rfl
        try simp only [Act.put, List.setIfInBounds_toArray, List.set_cons_zero, List.set_cons_succ]
        refine wpAnyH_take (i := 2) (oi := { dst := some 65, op := Go.Op.move (Go.Operand.tmp 10), type := 27, pos := "outright.go:131", after := #[], guard := none }) (v := ?v2x3) rfl (by kernel_rfl) (by kernel_rfl) (by kernel_rfl) (fun _ _ _ h => h) (Or.inl ⟨by rfl, ?hy2x3⟩) hHeld ?rest2x3
        case hy2x3 =>
          intro w hSw
          try dsimp only at hSw
          go_simp
          try with_reducible rfl
        try simp only [Act.put, List.setIfInBounds_toArray, List.set_cons_zero, List.set_cons_succ]
        refine wpAnyH_take (i := 3) (oi := { dst := some 66, op := Go.Op.move (Go.Operand.tmp 10), type := 27, pos := "outright.go:131", after := #[], guard := none }) (v := ?v3x4) rfl (by kernel_rfl) (by kernel_rfl) (by kernel_rfl) (fun _ _ _ h => h) (Or.inl ⟨by rfl, ?hy3x4⟩) hHeld ?rest3x4
        case hy3x4 =>
          intro w hSw
          try dsimp only at hSw
          go_simp
          try with_reducible rfl
        try simp only [Act.put, List.setIfInBounds_toArray, List.set_cons_zero, List.set_cons_succ]
        refine wpAnyH_ready (rs := [4, 9]) (by kernel_rfl) (by simp) ?_
        refine AllReadyH.cons (o := { dst := some 67, op := Go.Op.call { callee := Go.Callee.builtin Go.Builtin.append, args := #[Go.Operand.tmp 65, Go.Operand.tmp 66], argTypes := #[27, 27] }, type := 27, pos := "outright.go:131", after := #[{ on := 2, ground := Go.Ground.data }, { on := 3, ground := Go.Ground.data }], guard := none }) rfl (fun K hK => ?_) (AllReadyH.cons (o := { dst := some 12, op := Go.Op.alloc 24, type := 0, pos := "outright.go:131", after := #[], guard := none }) rfl (fun K hK => ?_) AllReadyH.nil)
        · refine step_append_onsl _ rfl (.tmp 65) (.tmp 66) 27 rfl .i64 wB.heap.size 3 i0 8 Tryd.underlying27 hinf hz0 hz1 hz2 _ M ga k gc M rfl rfl hMd hSd (by have := HMl.out; unfold maxLen; omega) (by have := HMl.out; omega) hbB ?_
          intro v5 w5 hown hgrow
          have hown2 : w5.ownsRow wB.heap.size 3 1 v5 D2 ((M ++ M).map (Value.int .i64)) := by rw [HD2.out]; exact hown
          clear hown
          obtain ⟨g5, c5, rfl⟩ := own_shape hown2
          have hD5 : Below wB.heap.size wB w5 := hDd.grown hgrow hbB (fun q e => (hOB q e).1)
          have hS5 := hS0.step hD5
          have h5 := And.intro hS5.bel hS5.two.c0
          go_simp
          refine hK.out _ _ (h5) (fun hHeld => ?_)
          clear hK K
          try simp only [Act.put, List.setIfInBounds_toArray, List.set_cons_zero, List.set_cons_succ]
          refine wpAnyH_ready (rs := [5, 9]) (by kernel_rfl) (by simp) ?_
          refine AllReadyH.cons (o := { dst := some 68, op := Go.Op.call { callee := Go.Callee.value (Go.Operand.func 35), args := #[Go.Operand.tmp 64, Go.Operand.tmp 67], argTypes := #[3, 27] }, type := 36, pos := "outright.go:131", after := #[{ on := 1, ground := Go.Ground.data }, { on := 4, ground := Go.Ground.data }, { on := 4, ground := Go.Ground.chain }], guard := none }) rfl (fun K hK => ?_) (AllReadyH.cons (o := { dst := some 12, op := Go.Op.alloc 24, type := 0, pos := "outright.go:131", after := #[], guard := none }) rfl (fun K hK => ?_) AllReadyH.nil)
          · go_simp
            refine (of_mds hS5 hR HK.out (by omega) hP g5 D2 c5 (own_sl hown2)).mono ?_
            unfold GoodO
            rintro e v ⟨g2, c2, rfl, hown6, hDv⟩
            have hS7 := hS5.step hDv
            have h7 := And.intro hS7.bel hS7.two.c0
            have hT7 := Two.new v 24 (.int .i64 0) (.slice none 0 0)
            have hA7 : Below v.heap.size v (v.alloc (.cells #[.int .i64 0, .slice none 0 0] 24)) := (Below.refl _ _).alloc (Nat.le_refl _) _
            have hS7b := hS7.step hA7
            have h7b := And.intro hS7b.bel hS7b.two.c0
            have q0 := hT7.c0
            have q1 := hT7.c1
            have q2 := hT7.f0
            have q3 := hT7.f1
            have hA8 : Below v.heap.size v (v.alloc (.cells #[(.int .i64 (N : Int)), (.slice g2 Kw c2)] 24)) := (Below.refl _ _).alloc (Nat.le_refl _) _
            have hS8 := hS7.step hA8
            have h8 := And.intro hS8.bel hS8.two.c0
            have hF8 : MdS w _ _ N Kw g2 c2 R := ⟨hS8.bel, ⟨(own_sl hown6).below hA8, hWd, by omega, by omega, hS8.set.tab⟩, Two.new v 24 (.int .i64 (N : Int)) (.slice g2 Kw c2)⟩
            go_wp2_with fail
            refine hK.out _ _ (h7) (fun hHeld => ?_)
            clear hK K
            try simp only [Act.put, List.setIfInBounds_toArray, List.set_cons_zero, List.set_cons_succ]
            refine wpAnyH_take (i := 6) (oi := { dst := some 62, op := Go.Op.move (Go.Operand.tmp 68), type := 36, pos := "outright.go:131", after := #[{ on := 5, ground := Go.Ground.data }], guard := none }) (v := ?v6x7) rfl (by kernel_rfl) (by kernel_rfl) (by kernel_rfl) (fun _ _ _ h => h) (Or.inl ⟨by rfl, ?hy6x7⟩) hHeld ?rest6x7
            case hy6x7 =>
              intro w hSw
              try dsimp only at hSw
              go_simp
              try with_reducible rfl
            try simp only [Act.put, List.setIfInBounds_toArray, List.set_cons_zero, List.set_cons_succ]
            refine wpAnyH_take (i := 7) (oi := { dst := some 69, op := Go.Op.extract (Go.Operand.tmp 62) 0, type := 24, pos := "outright.go:131", after := #[{ on := 6, ground := Go.Ground.data }], guard := none }) (v := ?v7x8) rfl (by kernel_rfl) (by kernel_rfl) (by kernel_rfl) (fun _ _ _ h => h) (Or.inl ⟨by rfl, ?hy7x8⟩) hHeld ?rest7x8
            case hy7x8 =>
              intro w hSw
              try dsimp only at hSw
              go_simp
              try with_reducible rfl
            try simp only [Act.put, List.setIfInBounds_toArray, List.set_cons_zero, List.set_cons_succ]
            refine wpAnyH_take (i := 8) (oi := { dst := some 70, op := Go.Op.extract (Go.Operand.tmp 62) 1, type := 35, pos := "outright.go:131", after := #[{ on := 6, ground := Go.Ground.data }, { on := 10, ground := Go.Ground.gcOnly Go.Departure.lateStores }], guard := none }) (v := ?v8x9) rfl (by kernel_rfl) (by kernel_rfl) (by kernel_rfl) (fun _ _ _ h => h) (Or.inl ⟨by rfl, ?hy8x9⟩) hHeld ?rest8x9
            case hy8x9 =>
              intro w hSw
              try dsimp only at hSw
              go_simp
              try with_reducible rfl
            try simp only [Act.put, List.setIfInBounds_toArray, List.set_cons_zero, List.set_cons_succ]
            refine wpAnyH_ready (rs := [9]) (by kernel_rfl) (by simp) ?_
            refine AllReadyH.cons (o := { dst := some 12, op := Go.Op.alloc 24, type := 0, pos := "outright.go:131", after := #[], guard := none }) rfl (fun K hK => ?_) AllReadyH.nil
            go_simp
            refine hK.out _ _ (h7b) (fun hHeld => ?_)
            clear hK K
            try simp only [Act.put, List.setIfInBounds_toArray, List.set_cons_zero, List.set_cons_succ]
            refine wpAnyH_ready (rs := [10]) (by kernel_rfl) (by simp) ?_
            refine AllReadyH.cons (o := { dst := none, op := Go.Op.store 24 (Go.Operand.tmp 12) (Go.Operand.tmp 69), type := 0, pos := "outright.go:131", after := #[{ on := 9, ground := Go.Ground.data }, { on := 7, ground := Go.Ground.data }, { on := 5, ground := Go.Ground.chain }, { on := 0, ground := Go.Ground.phase }, { on := 1, ground := Go.Ground.phase }, { on := 2, ground := Go.Ground.phase }, { on := 3, ground := Go.Ground.phase }, { on := 4, ground := Go.Ground.phase }, { on := 5, ground := Go.Ground.phase }, { on := 6, ground := Go.Ground.phase }, { on := 7, ground := Go.Ground.phase }, { on := 8, ground := Go.Ground.textOnly Go.Departure.lateStores }, { on := 9, ground := Go.Ground.phase }], guard := none }) rfl (fun K hK => ?_) AllReadyH.nil
            go_simp
            refine hK.out _ _ (h8) (fun hHeld => ?_)
            clear hK K
            try simp only [Act.put, List.setIfInBounds_toArray, List.set_cons_zero, List.set_cons_succ]
            refine wpAnyH_take (i := 11) (oi := { dst := some 13, op := Go.Op.assign (Go.Operand.tmp 70), type := 35, pos := "outright.go:131", after := #[{ on := 8, ground := Go.Ground.data }, { on := 10, ground := Go.Ground.chain }, { on := 0, ground := Go.Ground.phase }, { on := 1, ground := Go.Ground.phase }, { on := 2, ground := Go.Ground.phase }, { on := 3, ground := Go.Ground.phase }, { on := 4, ground := Go.Ground.phase }, { on := 5, ground := Go.Ground.phase }, { on := 6, ground := Go.Ground.phase }, { on := 7, ground := Go.Ground.phase }, { on := 8, ground := Go.Ground.phase }, { on := 9, ground := Go.Ground.phase }, { on := 10, ground := Go.Ground.phase }], guard := none }) (v := ?v11x12) rfl (by kernel_rfl) (by kernel_rfl) (by kernel_rfl) (fun _ _ _ h => h) (Or.inl ⟨by rfl, ?hy11x12⟩) hHeld ?rest11x12
            case hy11x12 =>
              intro w hSw
              try dsimp only at hSw
              go_simp
              try with_reducible rfl
            try simp only [Act.put, List.setIfInBounds_toArray, List.set_cons_zero, List.set_cons_succ]
            refine wpAnyH_done (by kernel_rfl) ?_ _
            refine NoPanic.normal ?_
            go_wp2_with fail
            go_meet
            case rel => exact ⟨_, g2, c2, rfl, rfl, hS8, hF8⟩
          · have hT6 := Two.new w5 24 (.int .i64 0) (.slice none 0 0)
            have hA6 : Below w5.heap.size w5 (w5.alloc (.cells #[.int .i64 0, .slice none 0 0] 24)) := (Below.refl _ _).alloc (Nat.le_refl _) _
            have hS6 := hS5.step hA6
            have h6 := And.intro hS6.bel hS6.two.c0
            go_simp
            refine hK.out _ _ (h6) (fun hHeld => ?_)
            clear hK K
            try simp only [Act.put, List.setIfInBounds_toArray, List.set_cons_zero, List.set_cons_succ]
            refine wpAnyH_ready (rs := [5]) (by kernel_rfl) (by simp) ?_
            refine AllReadyH.cons (o := { dst := some 68, op := Go.Op.call { callee := Go.Callee.value (Go.Operand.func 35), args := #[Go.Operand.tmp 64, Go.Operand.tmp 67], argTypes := #[3, 27] }, type := 36, pos := "outright.go:131", after := #[{ on := 1, ground := Go.Ground.data }, { on := 4, ground := Go.Ground.data }, { on := 4, ground := Go.Ground.chain }], guard := none }) rfl (fun K hK => ?_) AllReadyH.nil
            go_simp
            refine (of_mds hS6 hR HK.out (by omega) hP g5 D2 c5 ((own_sl hown2).below hA6)).mono ?_
            unfold GoodO
            rintro e v ⟨g2, c2, rfl, hown6, hDv⟩
            have hS7 := hS6.step hDv
            have h7 := And.intro hS7.bel hS7.two.c0
            have hT7 := hT6.step hDv
            have hlt := hT6.lt
            have q0 := hT7.c0
            have q1 := hT7.c1
            have q2 := hT7.f0
            have q3 := hT7.f1
            have hT8 := put1 (put0 hT7 (.int .i64 (N : Int))) (.slice g2 Kw c2)
            have hA8 : Below wB.heap.size wB ((v.setCell ⟨w5.heap.size, 0, none⟩ (.int .i64 (N : Int))).setCell ⟨w5.heap.size, 1, none⟩ (.slice g2 Kw c2)) := (((hD5.trans (hA6.mono hD5.size)).trans (hDv.mono (hD5.trans (hA6.mono hD5.size)).size)).setCell (p := ⟨w5.heap.size, 0, none⟩) hD5.size _).setCell (p := ⟨w5.heap.size, 1, none⟩) hD5.size _
            have hS8 := hS0.step hA8
            have h8 := And.intro hS8.bel hS8.two.c0
            have hown8 := own_set (own_set hown6 w5.heap.size 0 (.int .i64 (N : Int)) hlt) w5.heap.size 1 (.slice g2 Kw c2) hlt
            have hF8 : MdS w _ _ N Kw g2 c2 R := ⟨hS8.bel, ⟨own_sl hown8, hWd, by omega, by omega, hS8.set.tab⟩, hT8⟩
            go_wp2_with fail
            refine hK.out _ _ (h7) (fun hHeld => ?_)
            clear hK K
            try simp only [Act.put, List.setIfInBounds_toArray, List.set_cons_zero, List.set_cons_succ]
            refine wpAnyH_take (i := 6) (oi := { dst := some 62, op := Go.Op.move (Go.Operand.tmp 68), type := 36, pos := "outright.go:131", after := #[{ on := 5, ground := Go.Ground.data }], guard := none }) (v := ?v6x15) rfl (by kernel_rfl) (by kernel_rfl) (by kernel_rfl) (fun _ _ _ h => h) (Or.inl ⟨by rfl, ?hy6x15⟩) hHeld ?rest6x15
            case hy6x15 =>
              intro w hSw
              try dsimp only at hSw
              go_simp
              try with_reducible rfl
            try simp only [Act.put, List.setIfInBounds_toArray, List.set_cons_zero, List.set_cons_succ]
            refine wpAnyH_take (i := 7) (oi := { dst := some 69, op := Go.Op.extract (Go.Operand.tmp 62) 0, type := 24, pos := "outright.go:131", after := #[{ on := 6, ground := Go.Ground.data }], guard := none }) (v := ?v7x16) rfl (by kernel_rfl) (by kernel_rfl) (by kernel_rfl) (fun _ _ _ h => h) (Or.inl ⟨by rfl, ?hy7x16⟩) hHeld ?rest7x16
            case hy7x16 =>
              intro w hSw
              try dsimp only at hSw
              go_simp
              try with_reducible rfl
            try simp only [Act.put, List.setIfInBounds_toArray, List.set_cons_zero, List.set_cons_succ]
            refine wpAnyH_take (i := 8) (oi := { dst := some 70, op := Go.Op.extract (Go.Operand.tmp 62) 1, type := 35, pos := "outright.go:131", after := #[{ on := 6, ground := Go.Ground.data }, { on := 10, ground := Go.Ground.gcOnly Go.Departure.lateStores }], guard := none }) (v := ?v8x17) rfl (by kernel_rfl) (by kernel_rfl) (by kernel_rfl) (fun _ _ _ h => h) (Or.inl ⟨by rfl, ?hy8x17⟩) hHeld ?rest8x17
            case hy8x17 =>
              intro w hSw
              try dsimp only at hSw
              go_simp
              try with_reducible rfl
            try simp only [Act.put, List.setIfInBounds_toArray, List.set_cons_zero, List.set_cons_succ]
            refine wpAnyH_ready (rs := [10]) (by kernel_rfl) (by simp) ?_
            refine AllReadyH.cons (o := { dst := none, op := Go.Op.store 24 (Go.Operand.tmp 12) (Go.Operand.tmp 69), type := 0, pos := "outright.go:131", after := #[{ on := 9, ground := Go.Ground.data }, { on := 7, ground := Go.Ground.data }, { on := 5, ground := Go.Ground.chain }, { on := 0, ground := Go.Ground.phase }, { on := 1, ground := Go.Ground.phase }, { on := 2, ground := Go.Ground.phase }, { on := 3, ground := Go.Ground.phase }, { on := 4, ground := Go.Ground.phase }, { on := 5, ground := Go.Ground.phase }, { on := 6, ground := Go.Ground.phase }, { on := 7, ground := Go.Ground.phase }, { on := 8, ground := Go.Ground.textOnly Go.Departure.lateStores }, { on := 9, ground := Go.Ground.phase }], guard := none }) rfl (fun K hK => ?_) AllReadyH.nil
            go_simp
            refine hK.out _ _ (h8) (fun hHeld => ?_)
            clear hK K
            try simp only [Act.put, List.setIfInBounds_toArray, List.set_cons_zero, List.set_cons_succ]
            refine wpAnyH_take (i := 11) (oi := { dst := some 13, op := Go.Op.assign (Go.Operand.tmp 70), type := 35, pos := "outright.go:131", after := #[{ on := 8, ground := Go.Ground.data }, { on := 10, ground := Go.Ground.chain }, { on := 0, ground := Go.Ground.phase }, { on := 1, ground := Go.Ground.phase }, { on := 2, ground := Go.Ground.phase }, { on := 3, ground := Go.Ground.phase }, { on := 4, ground := Go.Ground.phase }, { on := 5, ground := Go.Ground.phase }, { on := 6, ground := Go.Ground.phase }, { on := 7, ground := Go.Ground.phase }, { on := 8, ground := Go.Ground.phase }, { on := 9, ground := Go.Ground.phase }, { on := 10, ground := Go.Ground.phase }], guard := none }) (v := ?v11x19) rfl (by kernel_rfl) (by kernel_rfl) (by kernel_rfl) (fun _ _ _ h => h) (Or.inl ⟨by rfl, ?hy11x19⟩) hHeld ?rest11x19
            case hy11x19 =>
              intro w hSw
              try dsimp only at hSw
              go_simp
              try with_reducible rfl
            try simp only [Act.put, List.setIfInBounds_toArray, List.set_cons_zero, List.set_cons_succ]
            refine wpAnyH_done (by kernel_rfl) ?_ _
            refine NoPanic.normal ?_
            go_wp2_with fail
            go_meet
            case rel => exact ⟨_, g2, c2, rfl, rfl, hS8, hF8⟩
        · have hT4 : Two (wr.drew.alloc (.cells #[.int .i64 0, .slice none 0 0] 24)) wr.heap.size 24 (.int .i64 0) (.slice none 0 0) := Two.new wr.drew _ _ _
          have hA4 : Below wr.drew.heap.size wr.drew (wr.drew.alloc (.cells #[.int .i64 0, .slice none 0 0] 24)) := (Below.refl _ _).alloc (Nat.le_refl _) _
          have hD4 := hDd.trans (hA4.mono hbB)
          have hM4 := ownsRow_below hMd hA4
          have hS4l := hSd.below hA4
          have hS4 := hS0.step hD4
          have h4 := And.intro hS4.bel hS4.two.c0
          go_simp
          refine hK.out _ _ (h4) (fun hHeld => ?_)
          clear hK K
          try simp only [Act.put, List.setIfInBounds_toArray, List.set_cons_zero, List.set_cons_succ]
          refine wpAnyH_ready (rs := [4]) (by kernel_rfl) (by simp) ?_
          refine AllReadyH.cons (o := { dst := some 67, op := Go.Op.call { callee := Go.Callee.builtin Go.Builtin.append, args := #[Go.Operand.tmp 65, Go.Operand.tmp 66], argTypes := #[27, 27] }, type := 27, pos := "outright.go:131", after := #[{ on := 2, ground := Go.Ground.data }, { on := 3, ground := Go.Ground.data }], guard := none }) rfl (fun K hK => ?_) AllReadyH.nil
          · refine step_append_onsl _ rfl (.tmp 65) (.tmp 66) 27 rfl .i64 wB.heap.size 3 i0 8 Tryd.underlying27 hinf hz0 hz1 hz2 _ M ga k gc M rfl rfl hM4 hS4l (by have := HMl.out; unfold maxLen; omega) (by have := HMl.out; omega) hD4.size ?_
            intro v5 w5 hown hgrow
            have hown2 : w5.ownsRow wB.heap.size 3 1 v5 D2 ((M ++ M).map (Value.int .i64)) := by rw [HD2.out]; exact hown
            clear hown
            obtain ⟨g5, c5, rfl⟩ := own_shape hown2
            have hD5 : Below wB.heap.size wB w5 := hD4.grown hgrow hD4.size (fun q e => (hOB q e).1)
            have hS5 := hS0.step hD5
            have h5 := And.intro hS5.bel hS5.two.c0
            have hT5 : Two w5 wr.heap.size 24 (.int .i64 0) (.slice none 0 0) := (hgrow.block _ hT4.lt (fun e => absurd (hOB _ e.symm).2 (Nat.lt_irrefl _))).trans hT4
            go_simp
            refine hK.out _ _ (h5) (fun hHeld => ?_)
            clear hK K
            try simp only [Act.put, List.setIfInBounds_toArray, List.set_cons_zero, List.set_cons_succ]
            refine wpAnyH_ready (rs := [5]) (by kernel_rfl) (by simp) ?_
            refine AllReadyH.cons (o := { dst := some 68, op := Go.Op.call { callee := Go.Callee.value (Go.Operand.func 35), args := #[Go.Operand.tmp 64, Go.Operand.tmp 67], argTypes := #[3, 27] }, type := 36, pos := "outright.go:131", after := #[{ on := 1, ground := Go.Ground.data }, { on := 4, ground := Go.Ground.data }, { on := 4, ground := Go.Ground.chain }], guard := none }) rfl (fun K hK => ?_) AllReadyH.nil
            go_simp
            refine (of_mds hS5 hR HK.out (by omega) hP g5 D2 c5 (own_sl hown2)).mono ?_
            unfold GoodO
            rintro e v ⟨g2, c2, rfl, hown6, hDv⟩
            have hS7 := hS5.step hDv
            have h7 := And.intro hS7.bel hS7.two.c0
            have hT7 := hT5.step hDv
            have hlt := hT5.lt
            have q0 := hT7.c0
            have q1 := hT7.c1
            have q2 := hT7.f0
            have q3 := hT7.f1
            have hT8 := put1 (put0 hT7 (.int .i64 (N : Int))) (.slice g2 Kw c2)
            have hA8 : Below wB.heap.size wB ((v.setCell ⟨wr.heap.size, 0, none⟩ (.int .i64 (N : Int))).setCell ⟨wr.heap.size, 1, none⟩ (.slice g2 Kw c2)) := ((hD5.trans (hDv.mono hD5.size)).setCell (p := ⟨wr.heap.size, 0, none⟩) hbB _).setCell (p := ⟨wr.heap.size, 1, none⟩) hbB _
            have hS8 := hS0.step hA8
            have h8 := And.intro hS8.bel hS8.two.c0
            have hown8 := own_set (own_set hown6 wr.heap.size 0 (.int .i64 (N : Int)) hlt) wr.heap.size 1 (.slice g2 Kw c2) hlt
            have hF8 : MdS w _ _ N Kw g2 c2 R := ⟨hS8.bel, ⟨own_sl hown8, hWd, by omega, by omega, hS8.set.tab⟩, hT8⟩
            go_wp2_with fail
            refine hK.out _ _ (h7) (fun hHeld => ?_)
            clear hK K
            try simp only [Act.put, List.setIfInBounds_toArray, List.set_cons_zero, List.set_cons_succ]
            refine wpAnyH_take (i := 6) (oi := { dst := some 62, op := Go.Op.move (Go.Operand.tmp 68), type := 36, pos := "outright.go:131", after := #[{ on := 5, ground := Go.Ground.data }], guard := none }) (v := ?v6x23) rfl (by kernel_rfl) (by kernel_rfl) (by kernel_rfl) (fun _ _ _ h => h) (Or.inl ⟨by rfl, ?hy6x23⟩) hHeld ?rest6x23
            case hy6x23 =>
              intro w hSw
              try dsimp only at hSw
              go_simp
              try with_reducible rfl
            try simp only [Act.put, List.setIfInBounds_toArray, List.set_cons_zero, List.set_cons_succ]
            refine wpAnyH_take (i := 7) (oi := { dst := some 69, op := Go.Op.extract (Go.Operand.tmp 62) 0, type := 24, pos := "outright.go:131", after := #[{ on := 6, ground := Go.Ground.data }], guard := none }) (v := ?v7x24) rfl (by kernel_rfl) (by kernel_rfl) (by kernel_rfl) (fun _ _ _ h => h) (Or.inl ⟨by rfl, ?hy7x24⟩) hHeld ?rest7x24
            case hy7x24 =>
              intro w hSw
              try dsimp only at hSw
              go_simp
              try with_reducible rfl
            try simp only [Act.put, List.setIfInBounds_toArray, List.set_cons_zero, List.set_cons_succ]
            refine wpAnyH_take (i := 8) (oi := { dst := some 70, op := Go.Op.extract (Go.Operand.tmp 62) 1, type := 35, pos := "outright.go:131", after := #[{ on := 6, ground := Go.Ground.data }, { on := 10, ground := Go.Ground.gcOnly Go.Departure.lateStores }], guard := none }) (v := ?v8x25) rfl (by kernel_rfl) (by kernel_rfl) (by kernel_rfl) (fun _ _ _ h => h) (Or.inl ⟨by rfl, ?hy8x25⟩) hHeld ?rest8x25
            case hy8x25 =>
              intro w hSw
              try dsimp only at hSw
              go_simp
              try with_reducible rfl
            try simp only [Act.put, List.setIfInBounds_toArray, List.set_cons_zero, List.set_cons_succ]
            refine wpAnyH_ready (rs := [10]) (by kernel_rfl) (by simp) ?_
            refine AllReadyH.cons (o := { dst := none, op := Go.Op.store 24 (Go.Operand.tmp 12) (Go.Operand.tmp 69), type := 0, pos := "outright.go:131", after := #[{ on := 9, ground := Go.Ground.data }, { on := 7, ground := Go.Ground.data }, { on := 5, ground := Go.Ground.chain }, { on := 0, ground := Go.Ground.phase }, { on := 1, ground := Go.Ground.phase }, { on := 2, ground := Go.Ground.phase }, { on := 3, ground := Go.Ground.phase }, { on := 4, ground := Go.Ground.phase }, { on := 5, ground := Go.Ground.phase }, { on := 6, ground := Go.Ground.phase }, { on := 7, ground := Go.Ground.phase }, { on := 8, ground := Go.Ground.textOnly Go.Departure.lateStores }, { on := 9, ground := Go.Ground.phase }], guard := none }) rfl (fun K hK => ?_) AllReadyH.nil
            go_simp
            refine hK.out _ _ (h8) (fun hHeld => ?_)
            clear hK K
            try simp only [Act.put, List.setIfInBounds_toArray, List.set_cons_zero, List.set_cons_succ]
            refine wpAnyH_take (i := 11) (oi := { dst := some 13, op := Go.Op.assign (Go.Operand.tmp 70), type := 35, pos := "outright.go:131", after := #[{ on := 8, ground := Go.Ground.data }, { on := 10, ground := Go.Ground.chain }, { on := 0, ground := Go.Ground.phase }, { on := 1, ground := Go.Ground.phase }, { on := 2, ground := Go.Ground.phase }, { on := 3, ground := Go.Ground.phase }, { on := 4, ground := Go.Ground.phase }, { on := 5, ground := Go.Ground.phase }, { on := 6, ground := Go.Ground.phase }, { on := 7, ground := Go.Ground.phase }, { on := 8, ground := Go.Ground.phase }, { on := 9, ground := Go.Ground.phase }, { on := 10, ground := Go.Ground.phase }], guard := none }) (v := ?v11x27) rfl (by kernel_rfl) (by kernel_rfl) (by kernel_rfl) (fun _ _ _ h => h) (Or.inl ⟨by rfl, ?hy11x27⟩) hHeld ?rest11x27
            case hy11x27 =>
              intro w hSw
              try dsimp only at hSw
              go_simp
              try with_reducible rfl
            try simp only [Act.put, List.setIfInBounds_toArray, List.set_cons_zero, List.set_cons_succ]
            refine wpAnyH_done (by kernel_rfl) ?_ _
            refine NoPanic.normal ?_
            go_wp2_with fail
            go_meet
            case rel => exact ⟨_, g2, c2, rfl, rfl, hS8, hF8⟩
      case rest =>
        obtain ⟨ab, g2, c2, rfl, rfl, hS2, hA2⟩ := hcut
        clear hS1 hD0 hM0 hP hS0
        have hS20 := hS2.two.c0
        have hS21 := hS2.two.c1
        have hA20 := hA2.two.c0
        have hA21 := hA2.two.c1
        have q := sameNums_yes _ _ _ _ _ _ _ _ _ hA2.set.sl hS2.set.sl rfl
        go_wp2_with fail
        refine q.mono ?_
        rintro e v ⟨rfl, hD⟩
        replace hD := hD.below
        have hS2 := hS2.step hD
        have hA2 := hA2.step hD
        clear q hS20 hS21 hA20 hA21
        clear hA2
        by_cases hN0 : N = 0
        · have hNz : ((N : Int) == 0) = true := by simp; omega
          have hS20 := hS2.two.c0
          go_wp2_with fail
          go_ret
          exact ⟨rfl, hS2.bel⟩
        have hNz : ((N : Int) == 0) = false := by simp; omega
        obtain ⟨k, hk⟩ : ∃ k : Nat, (k : Int) = i % (N : Int) := ⟨(i % (N : Int)).toNat, Int.toNat_of_nonneg (Int.emod_nonneg _ (by omega))⟩
        have hkN : k < N := by
          have := Int.emod_lt_of_pos i (show (0 : Int) < (N : Int) by omega)
          omega
        have hS20 := hS2.two.c0
        have q := fun W => pick_any i N W (by omega) (by omega)
        simp only [← hk] at q
        clear hk
        go_wp2_with fail
        refine (q _).mono ?_
        rintro e v ⟨rfl, rfl⟩
        clear q hS20 hNz
        have hS20 := hS2.two.c0
        have hS21 := hS2.two.c1
        have q := with_good hS2.set hR HK.out (by omega) hkN
        unfold GoodE at q
        go_wp2_with fail
        refine q.mono ?_
        rintro e vW ⟨g3, c3, R1, rfl, hI, hWR, hWB, hD⟩
        have hW := MdS.made hS2.bel hD hI
        have hA9 : Below vW.heap.size vW (vW.alloc (.cells #[.int .i64 (N : Int), .slice g3 Kw c3] 24)) := (Below.refl _ _).alloc (Nat.le_refl _) _
        have hS2 := (hS2.step hD).step hA9
        clear q hA9 hI hD hS20 hS21
        have hS20 := hS2.two.c0
        have hS21 := hS2.two.c1
        have q := without_good hS2.set hR HK.out (by omega) hkN
        unfold GoodE at q
        go_wp2_with fail
        refine q.mono ?_
        rintro e vL ⟨g4, c4, R2, rfl, hI, hLR, hLB, hD⟩
        have hL := MdS.made hS2.bel hD hI
        have hA9 : Below vL.heap.size vL (vL.alloc (.cells #[.int .i64 (N : Int), .slice g4 Kw c4] 24)) := (Below.refl _ _).alloc (Nat.le_refl _) _
        have hS2 := (hS2.step hD).step hA9
        have hW := (hW.step hD).step hA9
        clear q hA9 hI hD hS20 hS21
        have hW0 := hW.two.c0
        have hW1 := hW.two.c1
        have q := without_good hW.set hWR HK.out (by omega) hkN
        unfold GoodE at q
        go_wp2_with fail
        refine q.mono ?_
        rintro e vQ ⟨g5, c5, R3, rfl, hI, hQR, hQB, hD⟩
        have hQ := MdS.made hS2.bel hD hI
        have hA9 : Below vQ.heap.size vQ (vQ.alloc (.cells #[.int .i64 (N : Int), .slice g5 Kw c5] 24)) := (Below.refl _ _).alloc (Nat.le_refl _) _
        have hS2 := (hS2.step hD).step hA9
        have hW := (hW.step hD).step hA9
        have hL := (hL.step hD).step hA9
        clear q hA9 hI hD hW0 hW1
        have hL0 := hL.two.c0
        have hL1 := hL.two.c1
        have q := with_good hL.set hLR HK.out (by omega) hkN
        unfold GoodE at q
        go_wp2_with fail
        refine q.mono ?_
        rintro e vM ⟨g6, c6, R4, rfl, hI, hMR, hMB, hD⟩
        have hM := MdS.made hS2.bel hD hI
        have hA9 : Below vM.heap.size vM (vM.alloc (.cells #[.int .i64 (N : Int), .slice g6 Kw c6] 24)) := (Below.refl _ _).alloc (Nat.le_refl _) _
        have hS2 := (hS2.step hD).step hA9
        have hW := (hW.step hD).step hA9
        have hL := (hL.step hD).step hA9
        have hQ := (hQ.step hD).step hA9
        clear q hA9 hI hD hL0 hL1
        have hb1 : bt R1 k = true := by rw [hWB]; simp
        have hb2 : bt R2 k = false := by rw [hLB]; simp
        have e3 : R3 = R2 := same_words hQ.set hL.set (fun j => by rw [hQB, hWB, hLB]; by_cases hj : j = k <;> simp [hj])
        have e4 : R4 = R1 := same_words hM.set hW.set (fun j => by rw [hMB, hWB, hLB]; by_cases hj : j = k <;> simp [hj])
        have hcnt := all_one (A := R1) (B := R2) (k := k) (by rw [hL.set.sl.1, hW.set.sl.1]) hb1 (fun j => by rw [hWB, hLB]; by_cases hj : j = k <;> simp [hj])
        have hsm1 := all_small (l := R1) (by rw [hW.set.sl.1]; have := HK.out; omega)
        have hsm2 := all_small (l := R2) (by rw [hL.set.sl.1]; have := HK.out; omega)
        have ef1 := ef_yes (rightB_yes hWR)
        have ef2 := ef_yes (rightB_yes hLR)
        obtain ⟨n1, hn1⟩ : ∃ n, n = (all R1).length := ⟨_, rfl⟩
        obtain ⟨n2, hn2⟩ : ∃ n, n = (all R2).length := ⟨_, rfl⟩
        rw [← hn1, ← hn2] at hcnt
        rw [← hn1] at hsm1
        rw [← hn2] at hsm2
        have HCN := Lib.hid (And.intro hcnt (And.intro hn1 (And.intro hn2 (And.intro ef1 ef2))))
        have e12 : (n2 : Int) + 1 = (n1 : Int) := by omega
        have wn2 : IntKind.i64.wrap (n1 : Int) = (n1 : Int) := by rw [IntKind.wrap_i64]; omega
        have hnn : ((n1 : Int) != (n1 : Int)) = false := by simp
        rw [e3] at hQ hQR hQB
        rw [e4] at hM hMR hMB
        clear hcnt hn1 hn2 ef1 ef2 e3 e4
        have hS20 := hS2.two.c0
        have hS21 := hS2.two.c1
        go_wp2_with fail
        clear hS20 hS21
        obtain ⟨w9, hw9⟩ : ∃ wz, wz = (vM.alloc (.cells #[.int .i64 (N : Int), .slice g6 Kw c6] 24)) := ⟨_, rfl⟩
        rw [← hw9] at hS2 hW hL hQ hM ⊢
        clear hw9
        obtain ⟨T, hF, hP5⟩ := Five.mk hS2 hW hL hQ hM
        have HP := Lib.hid hP5
        have HB := Lib.hid (And.intro hWR (And.intro hLR (And.intro hWB hLB)))
        have HH := Lib.hid (And.intro hR hkN)
        have HBT := Lib.hid (And.intro hb1 hb2)
        have h0 : Five w N Kw T w9.drew ∧ w9.drew.cell? ⟨vW.heap.size, 0, none⟩ = some (.int .i64 (N : Int)) ∧ w9.drew.cell? ⟨vW.heap.size, 1, none⟩ = some (.slice g3 Kw c3) ∧ w9.drew.cell? ⟨vL.heap.size, 0, none⟩ = some (.int .i64 (N : Int)) ∧ w9.drew.cell? ⟨vL.heap.size, 1, none⟩ = some (.slice g4 Kw c4) ∧ w9.drew.cell? ⟨vQ.heap.size, 1, none⟩ = some (.slice g5 Kw c5) ∧ w9.drew.cell? ⟨vM.heap.size, 1, none⟩ = some (.slice g6 Kw c6) := ⟨hF.step (Below.refl _ _).drew, (HP.out.2.1 _ (hF.step (Below.refl _ _).drew)).two.c0, (HP.out.2.1 _ (hF.step (Below.refl _ _).drew)).two.c1, (HP.out.2.2.1 _ (hF.step (Below.refl _ _).drew)).two.c0, (HP.out.2.2.1 _ (hF.step (Below.refl _ _).drew)).two.c1, (HP.out.2.2.2.1 _ (hF.step (Below.refl _ _).drew)).two.c1, (HP.out.2.2.2.2 _ (hF.step (Below.refl _ _).drew)).two.c1⟩
        clear hS2 hW hL hQ hM hP5 hF hWR hLR hQR hMR hWB hLB hQB hMB hb1 hb2 hR hRb hef hEl hWd hCm hsm1 hsm2 hkN hN0
        refine wp_region_noPanic ?_
        refine wp_region_held_drew (S := fun W => Five w N Kw T W ∧ W.cell? ⟨vW.heap.size, 0, none⟩ = some (.int .i64 (N : Int)) ∧ W.cell? ⟨vW.heap.size, 1, none⟩ = some (.slice g3 Kw c3) ∧ W.cell? ⟨vL.heap.size, 0, none⟩ = some (.int .i64 (N : Int)) ∧ W.cell? ⟨vL.heap.size, 1, none⟩ = some (.slice g4 Kw c4) ∧ W.cell? ⟨vQ.heap.size, 1, none⟩ = some (.slice g5 Kw c5) ∧ W.cell? ⟨vM.heap.size, 1, none⟩ = some (.slice g6 Kw c6)) (by kernel_rfl) (h0) (fun hHeld => ?_)
        refine wpAnyH_take (i := 0) (oi := { dst := some 112, op := Go.Op.move (Go.Operand.tmp 16), type := 35, pos := "outright.go:143", after := #[], guard := none }) (v := ?v0r20) rfl (by kernel_rfl) (by kernel_rfl) (by kernel_rfl) (fun _ _ _ h => h) (Or.inl ⟨by rfl, ?hy0r20⟩) hHeld ?rest0r20
        case hy0r20 =>
          intro w hSw
          try dsimp only at hSw
          go_simp
          try with_reducible rfl
        try simp only [Act.put, List.setIfInBounds_toArray, List.set_cons_zero, List.set_cons_succ]
        refine wpAnyH_take (i := 1) (oi := { dst := some 113, op := Go.Op.move (Go.Operand.tmp 18), type := 35, pos := "outright.go:143", after := #[], guard := none }) (v := ?v1r20) rfl (by kernel_rfl) (by kernel_rfl) (by kernel_rfl) (fun _ _ _ h => h) (Or.inl ⟨by rfl, ?hy1r20⟩) hHeld ?rest1r20
        case hy1r20 =>
          intro w hSw
          try dsimp only at hSw
          go_simp
          try with_reducible rfl
        try simp only [Act.put, List.setIfInBounds_toArray, List.set_cons_zero, List.set_cons_succ]
        refine wpAnyH_take (i := 2) (oi := { dst := some 114, op := Go.Op.binOp Go.BinOp.add 35 (Go.Operand.tmp 112) (Go.Operand.tmp 113) 35, type := 35, pos := "outright.go:143", after := #[{ on := 0, ground := Go.Ground.data }, { on := 1, ground := Go.Ground.data }], guard := none }) (v := ?v2r20) rfl (by kernel_rfl) (by kernel_rfl) (by kernel_rfl) (fun _ _ _ h => h) (Or.inl ⟨by rfl, ?hy2r20⟩) hHeld ?rest2r20
        case hy2r20 =>
          intro w hSw
          try dsimp only at hSw
          go_simp
          try with_reducible rfl
        try simp only [Act.put, List.setIfInBounds_toArray, List.set_cons_zero, List.set_cons_succ]
        refine wpAnyH_take (i := 3) (oi := { dst := some 115, op := Go.Op.move (Go.Operand.tmp 20), type := 35, pos := "outright.go:143", after := #[], guard := none }) (v := ?v3r20) rfl (by kernel_rfl) (by kernel_rfl) (by kernel_rfl) (fun _ _ _ h => h) (Or.inl ⟨by rfl, ?hy3r20⟩) hHeld ?rest3r20
        case hy3r20 =>
          intro w hSw
          try dsimp only at hSw
          go_simp
          try with_reducible rfl
        try simp only [Act.put, List.setIfInBounds_toArray, List.set_cons_zero, List.set_cons_succ]
        refine wpAnyH_take (i := 4) (oi := { dst := some 116, op := Go.Op.binOp Go.BinOp.add 35 (Go.Operand.tmp 114) (Go.Operand.tmp 115) 35, type := 35, pos := "outright.go:143", after := #[{ on := 2, ground := Go.Ground.data }, { on := 3, ground := Go.Ground.data }], guard := none }) (v := ?v4r20) rfl (by kernel_rfl) (by kernel_rfl) (by kernel_rfl) (fun _ _ _ h => h) (Or.inl ⟨by rfl, ?hy4r20⟩) hHeld ?rest4r20
        case hy4r20 =>
          intro w hSw
          try dsimp only at hSw
          go_simp
          try with_reducible rfl
        try simp only [Act.put, List.setIfInBounds_toArray, List.set_cons_zero, List.set_cons_succ]
        refine wpAnyH_take (i := 5) (oi := { dst := some 117, op := Go.Op.move (Go.Operand.tmp 22), type := 35, pos := "outright.go:143", after := #[], guard := none }) (v := ?v5r20) rfl (by kernel_rfl) (by kernel_rfl) (by kernel_rfl) (fun _ _ _ h => h) (Or.inl ⟨by rfl, ?hy5r20⟩) hHeld ?rest5r20
        case hy5r20 =>
          intro w hSw
          try dsimp only at hSw
          go_simp
          try with_reducible rfl
        try simp only [Act.put, List.setIfInBounds_toArray, List.set_cons_zero, List.set_cons_succ]
        refine wpAnyH_take (i := 6) (oi := { dst := some 118, op := Go.Op.binOp Go.BinOp.add 35 (Go.Operand.tmp 116) (Go.Operand.tmp 117) 35, type := 35, pos := "outright.go:143", after := #[{ on := 4, ground := Go.Ground.data }, { on := 5, ground := Go.Ground.data }], guard := none }) (v := ?v6r20) rfl (by kernel_rfl) (by kernel_rfl) (by kernel_rfl) (fun _ _ _ h => h) (Or.inl ⟨by rfl, ?hy6r20⟩) hHeld ?rest6r20
        case hy6r20 =>
          intro w hSw
          try dsimp only at hSw
          go_simp
          try with_reducible rfl
        try simp only [Act.put, List.setIfInBounds_toArray, List.set_cons_zero, List.set_cons_succ]
        refine wpAnyH_take (i := 7) (oi := { dst := some 119, op := Go.Op.binOp Go.BinOp.neq 35 (Go.Operand.tmp 118) (Go.Operand.const (Go.Value.int Go.IntKind.i64 0)) 35, type := 4, pos := "outright.go:143", after := #[{ on := 6, ground := Go.Ground.data }], guard := none }) (v := ?v7r20) rfl (by kernel_rfl) (by kernel_rfl) (by kernel_rfl) (fun _ _ _ h => h) (Or.inl ⟨by rfl, ?hy7r20⟩) hHeld ?rest7r20
        case hy7r20 =>
          intro w hSw
          try dsimp only at hSw
          go_simp
          try with_reducible rfl
        try simp only [Act.put, List.setIfInBounds_toArray, List.set_cons_zero, List.set_cons_succ]
        refine wpAnyH_take (i := 8) (oi := { dst := some 120, op := Go.Op.move (Go.Operand.tmp 119), type := 4, pos := "outright.go:143", after := #[{ on := 7, ground := Go.Ground.data }], guard := none }) (v := ?v8r20) rfl (by kernel_rfl) (by kernel_rfl) (by kernel_rfl) (fun _ _ _ h => h) (Or.inl ⟨by rfl, ?hy8r20⟩) hHeld ?rest8r20
        case hy8r20 =>
          intro w hSw
          try dsimp only at hSw
          go_simp
          try with_reducible rfl
        try simp only [Act.put, List.setIfInBounds_toArray, List.set_cons_zero, List.set_cons_succ]
        refine wpAnyH_take (i := 9) (oi := { dst := some 121, op := Go.Op.load 24 (Go.Operand.tmp 15), type := 24, pos := "outright.go:143", after := #[{ on := 8, ground := Go.Ground.guard }], guard := some (8, false) }) (v := ?v9r20) rfl (by kernel_rfl) (by kernel_rfl) (by kernel_rfl) (fun _ _ _ h => h) (Or.inl ⟨by rfl, ?hy9r20⟩) hHeld ?rest9r20
        case hy9r20 =>
          intro w hSw
          try dsimp only at hSw
          go_simp
          try with_reducible rfl
        try simp only [Act.put, List.setIfInBounds_toArray, List.set_cons_zero, List.set_cons_succ]
        refine wpAnyH_take (i := 10) (oi := { dst := some 122, op := Go.Op.move (Go.Operand.tmp 14), type := 3, pos := "outright.go:143", after := #[{ on := 8, ground := Go.Ground.guard }], guard := some (8, false) }) (v := ?v10r20) rfl (by kernel_rfl) (by kernel_rfl) (by kernel_rfl) (fun _ _ _ h => h) (Or.inl ⟨by rfl, ?hy10r20⟩) hHeld ?rest10r20
        case hy10r20 =>
          intro w hSw
          try dsimp only at hSw
          go_simp
          try with_reducible rfl
        try simp only [Act.put, List.setIfInBounds_toArray, List.set_cons_zero, List.set_cons_succ]
        refine wpAnyH_ready (rs := [11]) (by kernel_rfl) (by simp) ?_
        refine AllReadyH.cons (o := { dst := some 123, op := Go.Op.call { callee := Go.Callee.value (Go.Operand.func 28), args := #[Go.Operand.tmp 121, Go.Operand.tmp 122], argTypes := #[24, 3] }, type := 4, pos := "outright.go:143", after := #[{ on := 9, ground := Go.Ground.data }, { on := 10, ground := Go.Ground.data }, { on := 8, ground := Go.Ground.chain }, { on := 8, ground := Go.Ground.guard }], guard := some (8, false) }) rfl (fun K hK => ?_) AllReadyH.nil
        go_simp
        refine (has_bit (HP.out.2.1 _ h0.1).set HB.out.1 (by have := HH.out.2; omega) HBT.out.1).mono ?_
        rintro e v1 ⟨rfl, hD1⟩
        have h1 : Five w N Kw T v1 ∧ v1.cell? ⟨vW.heap.size, 0, none⟩ = some (.int .i64 (N : Int)) ∧ v1.cell? ⟨vW.heap.size, 1, none⟩ = some (.slice g3 Kw c3) ∧ v1.cell? ⟨vL.heap.size, 0, none⟩ = some (.int .i64 (N : Int)) ∧ v1.cell? ⟨vL.heap.size, 1, none⟩ = some (.slice g4 Kw c4) ∧ v1.cell? ⟨vQ.heap.size, 1, none⟩ = some (.slice g5 Kw c5) ∧ v1.cell? ⟨vM.heap.size, 1, none⟩ = some (.slice g6 Kw c6) := ⟨h0.1.step hD1, (HP.out.2.1 _ (h0.1.step hD1)).two.c0, (HP.out.2.1 _ (h0.1.step hD1)).two.c1, (HP.out.2.2.1 _ (h0.1.step hD1)).two.c0, (HP.out.2.2.1 _ (h0.1.step hD1)).two.c1, (HP.out.2.2.2.1 _ (h0.1.step hD1)).two.c1, (HP.out.2.2.2.2 _ (h0.1.step hD1)).two.c1⟩
        go_wp2_with fail
        refine hK.out _ _ (h1) (fun hHeld => ?_)
        clear hK K
        try simp only [Act.put, List.setIfInBounds_toArray, List.set_cons_zero, List.set_cons_succ]
        refine wpAnyH_take (i := 12) (oi := { dst := some 124, op := Go.Op.unOp Go.UnOp.not 4 (Go.Operand.tmp 123), type := 4, pos := "outright.go:143", after := #[{ on := 11, ground := Go.Ground.data }, { on := 8, ground := Go.Ground.guard }], guard := some (8, false) }) (v := ?v12r20) rfl (by kernel_rfl) (by kernel_rfl) (by kernel_rfl) (fun _ _ _ h => h) (Or.inl ⟨by rfl, ?hy12r20⟩) hHeld ?rest12r20
        case hy12r20 =>
          intro w hSw
          try dsimp only at hSw
          go_simp
          try with_reducible rfl
        try simp only [Act.put, List.setIfInBounds_toArray, List.set_cons_zero, List.set_cons_succ]
        refine wpAnyH_take (i := 13) (oi := { dst := some 125, op := Go.Op.pick (Go.Operand.tmp 120) (Go.Operand.const (Go.Value.bool true)) (Go.Operand.tmp 124), type := 4, pos := "outright.go:143", after := #[{ on := 8, ground := Go.Ground.data }, { on := 12, ground := Go.Ground.data }], guard := none }) (v := ?v13r20) rfl (by kernel_rfl) (by kernel_rfl) (by kernel_rfl) (fun _ _ _ h => h) (Or.inl ⟨by rfl, ?hy13r20⟩) hHeld ?rest13r20
        case hy13r20 =>
          intro w hSw
          try dsimp only at hSw
          go_simp
          try with_reducible rfl
        try simp only [Act.put, List.setIfInBounds_toArray, List.set_cons_zero, List.set_cons_succ]
        refine wpAnyH_take (i := 14) (oi := { dst := some 126, op := Go.Op.move (Go.Operand.tmp 125), type := 4, pos := "outright.go:143", after := #[{ on := 13, ground := Go.Ground.data }, { on := 11, ground := Go.Ground.chain }], guard := none }) (v := ?v14r20) rfl (by kernel_rfl) (by kernel_rfl) (by kernel_rfl) (fun _ _ _ h => h) (Or.inl ⟨by rfl, ?hy14r20⟩) hHeld ?rest14r20
        case hy14r20 =>
          intro w hSw
          try dsimp only at hSw
          go_simp
          try with_reducible rfl
        try simp only [Act.put, List.setIfInBounds_toArray, List.set_cons_zero, List.set_cons_succ]
        refine wpAnyH_take (i := 15) (oi := { dst := some 127, op := Go.Op.load 24 (Go.Operand.tmp 17), type := 24, pos := "outright.go:143", after := #[{ on := 14, ground := Go.Ground.guard }], guard := some (14, false) }) (v := ?v15r20) rfl (by kernel_rfl) (by kernel_rfl) (by kernel_rfl) (fun _ _ _ h => h) (Or.inl ⟨by rfl, ?hy15r20⟩) hHeld ?rest15r20
        case hy15r20 =>
          intro w hSw
          try dsimp only at hSw
          go_simp
          try with_reducible rfl
        try simp only [Act.put, List.setIfInBounds_toArray, List.set_cons_zero, List.set_cons_succ]
        refine wpAnyH_take (i := 16) (oi := { dst := some 128, op := Go.Op.move (Go.Operand.tmp 14), type := 3, pos := "outright.go:143", after := #[{ on := 14, ground := Go.Ground.guard }], guard := some (14, false) }) (v := ?v16r20) rfl (by kernel_rfl) (by kernel_rfl) (by kernel_rfl) (fun _ _ _ h => h) (Or.inl ⟨by rfl, ?hy16r20⟩) hHeld ?rest16r20
        case hy16r20 =>
          intro w hSw
          try dsimp only at hSw
          go_simp
          try with_reducible rfl
        try simp only [Act.put, List.setIfInBounds_toArray, List.set_cons_zero, List.set_cons_succ]
        refine wpAnyH_ready (rs := [17]) (by kernel_rfl) (by simp) ?_
        refine AllReadyH.cons (o := { dst := some 129, op := Go.Op.call { callee := Go.Callee.value (Go.Operand.func 28), args := #[Go.Operand.tmp 127, Go.Operand.tmp 128], argTypes := #[24, 3] }, type := 4, pos := "outright.go:143", after := #[{ on := 15, ground := Go.Ground.data }, { on := 16, ground := Go.Ground.data }, { on := 14, ground := Go.Ground.chain }, { on := 14, ground := Go.Ground.guard }], guard := some (14, false) }) rfl (fun K hK => ?_) AllReadyH.nil
        go_simp
        refine (has_bit (HP.out.2.2.1 _ h1.1).set HB.out.2.1 (by have := HH.out.2; omega) HBT.out.2).mono ?_
        rintro e v2 ⟨rfl, hD2⟩
        have h2 : Five w N Kw T v2 ∧ v2.cell? ⟨vW.heap.size, 0, none⟩ = some (.int .i64 (N : Int)) ∧ v2.cell? ⟨vW.heap.size, 1, none⟩ = some (.slice g3 Kw c3) ∧ v2.cell? ⟨vL.heap.size, 0, none⟩ = some (.int .i64 (N : Int)) ∧ v2.cell? ⟨vL.heap.size, 1, none⟩ = some (.slice g4 Kw c4) ∧ v2.cell? ⟨vQ.heap.size, 1, none⟩ = some (.slice g5 Kw c5) ∧ v2.cell? ⟨vM.heap.size, 1, none⟩ = some (.slice g6 Kw c6) := ⟨h1.1.step hD2, (HP.out.2.1 _ (h1.1.step hD2)).two.c0, (HP.out.2.1 _ (h1.1.step hD2)).two.c1, (HP.out.2.2.1 _ (h1.1.step hD2)).two.c0, (HP.out.2.2.1 _ (h1.1.step hD2)).two.c1, (HP.out.2.2.2.1 _ (h1.1.step hD2)).two.c1, (HP.out.2.2.2.2 _ (h1.1.step hD2)).two.c1⟩
        go_wp2_with fail
        refine hK.out _ _ (h2) (fun hHeld => ?_)
        clear hK K
        try simp only [Act.put, List.setIfInBounds_toArray, List.set_cons_zero, List.set_cons_succ]
        refine wpAnyH_take (i := 18) (oi := { dst := some 130, op := Go.Op.pick (Go.Operand.tmp 126) (Go.Operand.const (Go.Value.bool true)) (Go.Operand.tmp 129), type := 4, pos := "outright.go:143", after := #[{ on := 14, ground := Go.Ground.data }, { on := 17, ground := Go.Ground.data }], guard := none }) (v := ?v18r20) rfl (by kernel_rfl) (by kernel_rfl) (by kernel_rfl) (fun _ _ _ h => h) (Or.inl ⟨by rfl, ?hy18r20⟩) hHeld ?rest18r20
        case hy18r20 =>
          intro w hSw
          try dsimp only at hSw
          go_simp
          try with_reducible rfl
        try simp only [Act.put, List.setIfInBounds_toArray, List.set_cons_zero, List.set_cons_succ]
        refine wpAnyH_take (i := 19) (oi := { dst := some 131, op := Go.Op.move (Go.Operand.tmp 130), type := 4, pos := "outright.go:143", after := #[{ on := 18, ground := Go.Ground.data }, { on := 17, ground := Go.Ground.chain }], guard := none }) (v := ?v19r20) rfl (by kernel_rfl) (by kernel_rfl) (by kernel_rfl) (fun _ _ _ h => h) (Or.inl ⟨by rfl, ?hy19r20⟩) hHeld ?rest19r20
        case hy19r20 =>
          intro w hSw
          try dsimp only at hSw
          go_simp
          try with_reducible rfl
        try simp only [Act.put, List.setIfInBounds_toArray, List.set_cons_zero, List.set_cons_succ]
        refine wpAnyH_take (i := 20) (oi := { dst := some 132, op := Go.Op.fieldAddr 24 (Go.Operand.tmp 19) 1, type := 0, pos := "outright.go:143", after := #[{ on := 19, ground := Go.Ground.guard }], guard := some (19, false) }) (v := ?v20r20) rfl (by kernel_rfl) (by kernel_rfl) (by kernel_rfl) (fun _ _ _ h => h) (Or.inl ⟨by rfl, ?hy20r20⟩) hHeld ?rest20r20
        case hy20r20 =>
          intro w hSw
          try dsimp only at hSw
          go_simp
          try with_reducible rfl
        try simp only [Act.put, List.setIfInBounds_toArray, List.set_cons_zero, List.set_cons_succ]
        refine wpAnyH_take (i := 21) (oi := { dst := some 133, op := Go.Op.load 22 (Go.Operand.tmp 132), type := 22, pos := "outright.go:143", after := #[{ on := 20, ground := Go.Ground.data }, { on := 19, ground := Go.Ground.guard }], guard := some (19, false) }) (v := ?v21r20) rfl (by kernel_rfl) (by kernel_rfl) (by kernel_rfl) (fun _ _ _ h => h) (Or.inl ⟨by rfl, ?hy21r20⟩) hHeld ?rest21r20
        case hy21r20 =>
          intro w hSw
          try dsimp only at hSw
          go_simp
          try with_reducible rfl
        try simp only [Act.put, List.setIfInBounds_toArray, List.set_cons_zero, List.set_cons_succ]
        refine wpAnyH_take (i := 22) (oi := { dst := some 134, op := Go.Op.fieldAddr 24 (Go.Operand.tmp 17) 1, type := 0, pos := "outright.go:143", after := #[{ on := 19, ground := Go.Ground.guard }], guard := some (19, false) }) (v := ?v22r20) rfl (by kernel_rfl) (by kernel_rfl) (by kernel_rfl) (fun _ _ _ h => h) (Or.inl ⟨by rfl, ?hy22r20⟩) hHeld ?rest22r20
        case hy22r20 =>
          intro w hSw
          try dsimp only at hSw
          go_simp
          try with_reducible rfl
        try simp only [Act.put, List.setIfInBounds_toArray, List.set_cons_zero, List.set_cons_succ]
        refine wpAnyH_take (i := 23) (oi := { dst := some 135, op := Go.Op.load 22 (Go.Operand.tmp 134), type := 22, pos := "outright.go:143", after := #[{ on := 22, ground := Go.Ground.data }, { on := 19, ground := Go.Ground.guard }], guard := some (19, false) }) (v := ?v23r20) rfl (by kernel_rfl) (by kernel_rfl) (by kernel_rfl) (fun _ _ _ h => h) (Or.inl ⟨by rfl, ?hy23r20⟩) hHeld ?rest23r20
        case hy23r20 =>
          intro w hSw
          try dsimp only at hSw
          go_simp
          try with_reducible rfl
        try simp only [Act.put, List.setIfInBounds_toArray, List.set_cons_zero, List.set_cons_succ]
        refine wpAnyH_ready (rs := [24]) (by kernel_rfl) (by simp) ?_
        refine AllReadyH.cons (o := { dst := some 136, op := Go.Op.call { callee := Go.Callee.value (Go.Operand.func 33), args := #[Go.Operand.tmp 133, Go.Operand.tmp 135], argTypes := #[22, 22] }, type := 4, pos := "outright.go:143", after := #[{ on := 21, ground := Go.Ground.data }, { on := 23, ground := Go.Ground.data }, { on := 19, ground := Go.Ground.chain }, { on := 19, ground := Go.Ground.guard }], guard := some (19, false) }) rfl (fun K hK => ?_) AllReadyH.nil
        go_simp
        refine (same_yes (HP.out.2.2.2.1 _ h2.1).set (HP.out.2.2.1 _ h2.1).set rfl).mono ?_
        rintro e v3 ⟨rfl, hD3⟩
        have h3 : Five w N Kw T v3 ∧ v3.cell? ⟨vW.heap.size, 0, none⟩ = some (.int .i64 (N : Int)) ∧ v3.cell? ⟨vW.heap.size, 1, none⟩ = some (.slice g3 Kw c3) ∧ v3.cell? ⟨vL.heap.size, 0, none⟩ = some (.int .i64 (N : Int)) ∧ v3.cell? ⟨vL.heap.size, 1, none⟩ = some (.slice g4 Kw c4) ∧ v3.cell? ⟨vQ.heap.size, 1, none⟩ = some (.slice g5 Kw c5) ∧ v3.cell? ⟨vM.heap.size, 1, none⟩ = some (.slice g6 Kw c6) := ⟨h2.1.step hD3, (HP.out.2.1 _ (h2.1.step hD3)).two.c0, (HP.out.2.1 _ (h2.1.step hD3)).two.c1, (HP.out.2.2.1 _ (h2.1.step hD3)).two.c0, (HP.out.2.2.1 _ (h2.1.step hD3)).two.c1, (HP.out.2.2.2.1 _ (h2.1.step hD3)).two.c1, (HP.out.2.2.2.2 _ (h2.1.step hD3)).two.c1⟩
        go_wp2_with fail
        refine hK.out _ _ (h3) (fun hHeld => ?_)
        clear hK K
        try simp only [Act.put, List.setIfInBounds_toArray, List.set_cons_zero, List.set_cons_succ]
        refine wpAnyH_take (i := 25) (oi := { dst := some 137, op := Go.Op.unOp Go.UnOp.not 4 (Go.Operand.tmp 136), type := 4, pos := "outright.go:143", after := #[{ on := 24, ground := Go.Ground.data }, { on := 19, ground := Go.Ground.guard }], guard := some (19, false) }) (v := ?v25r20) rfl (by kernel_rfl) (by kernel_rfl) (by kernel_rfl) (fun _ _ _ h => h) (Or.inl ⟨by rfl, ?hy25r20⟩) hHeld ?rest25r20
        case hy25r20 =>
          intro w hSw
          try dsimp only at hSw
          go_simp
          try with_reducible rfl
        try simp only [Act.put, List.setIfInBounds_toArray, List.set_cons_zero, List.set_cons_succ]
        refine wpAnyH_take (i := 26) (oi := { dst := some 138, op := Go.Op.pick (Go.Operand.tmp 131) (Go.Operand.const (Go.Value.bool true)) (Go.Operand.tmp 137), type := 4, pos := "outright.go:143", after := #[{ on := 19, ground := Go.Ground.data }, { on := 25, ground := Go.Ground.data }], guard := none }) (v := ?v26r20) rfl (by kernel_rfl) (by kernel_rfl) (by kernel_rfl) (fun _ _ _ h => h) (Or.inl ⟨by rfl, ?hy26r20⟩) hHeld ?rest26r20
        case hy26r20 =>
          intro w hSw
          try dsimp only at hSw
          go_simp
          try with_reducible rfl
        try simp only [Act.put, List.setIfInBounds_toArray, List.set_cons_zero, List.set_cons_succ]
        refine wpAnyH_take (i := 27) (oi := { dst := some 139, op := Go.Op.move (Go.Operand.tmp 138), type := 4, pos := "outright.go:143", after := #[{ on := 26, ground := Go.Ground.data }, { on := 24, ground := Go.Ground.chain }], guard := none }) (v := ?v27r20) rfl (by kernel_rfl) (by kernel_rfl) (by kernel_rfl) (fun _ _ _ h => h) (Or.inl ⟨by rfl, ?hy27r20⟩) hHeld ?rest27r20
        case hy27r20 =>
          intro w hSw
          try dsimp only at hSw
          go_simp
          try with_reducible rfl
        try simp only [Act.put, List.setIfInBounds_toArray, List.set_cons_zero, List.set_cons_succ]
        refine wpAnyH_take (i := 28) (oi := { dst := some 140, op := Go.Op.fieldAddr 24 (Go.Operand.tmp 21) 1, type := 0, pos := "outright.go:143", after := #[{ on := 27, ground := Go.Ground.guard }], guard := some (27, false) }) (v := ?v28r20) rfl (by kernel_rfl) (by kernel_rfl) (by kernel_rfl) (fun _ _ _ h => h) (Or.inl ⟨by rfl, ?hy28r20⟩) hHeld ?rest28r20
        case hy28r20 =>
          intro w hSw
          try dsimp only at hSw
          go_simp
          try with_reducible rfl
        try simp only [Act.put, List.setIfInBounds_toArray, List.set_cons_zero, List.set_cons_succ]
        refine wpAnyH_take (i := 29) (oi := { dst := some 141, op := Go.Op.load 22 (Go.Operand.tmp 140), type := 22, pos := "outright.go:143", after := #[{ on := 28, ground := Go.Ground.data }, { on := 27, ground := Go.Ground.guard }], guard := some (27, false) }) (v := ?v29r20) rfl (by kernel_rfl) (by kernel_rfl) (by kernel_rfl) (fun _ _ _ h => h) (Or.inl ⟨by rfl, ?hy29r20⟩) hHeld ?rest29r20
        case hy29r20 =>
          intro w hSw
          try dsimp only at hSw
          go_simp
          try with_reducible rfl
        try simp only [Act.put, List.setIfInBounds_toArray, List.set_cons_zero, List.set_cons_succ]
        refine wpAnyH_take (i := 30) (oi := { dst := some 142, op := Go.Op.fieldAddr 24 (Go.Operand.tmp 15) 1, type := 0, pos := "outright.go:143", after := #[{ on := 27, ground := Go.Ground.guard }], guard := some (27, false) }) (v := ?v30r20) rfl (by kernel_rfl) (by kernel_rfl) (by kernel_rfl) (fun _ _ _ h => h) (Or.inl ⟨by rfl, ?hy30r20⟩) hHeld ?rest30r20
        case hy30r20 =>
          intro w hSw
          try dsimp only at hSw
          go_simp
          try with_reducible rfl
        try simp only [Act.put, List.setIfInBounds_toArray, List.set_cons_zero, List.set_cons_succ]
        refine wpAnyH_take (i := 31) (oi := { dst := some 143, op := Go.Op.load 22 (Go.Operand.tmp 142), type := 22, pos := "outright.go:143", after := #[{ on := 30, ground := Go.Ground.data }, { on := 27, ground := Go.Ground.guard }], guard := some (27, false) }) (v := ?v31r20) rfl (by kernel_rfl) (by kernel_rfl) (by kernel_rfl) (fun _ _ _ h => h) (Or.inl ⟨by rfl, ?hy31r20⟩) hHeld ?rest31r20
        case hy31r20 =>
          intro w hSw
          try dsimp only at hSw
          go_simp
          try with_reducible rfl
        try simp only [Act.put, List.setIfInBounds_toArray, List.set_cons_zero, List.set_cons_succ]
        refine wpAnyH_ready (rs := [32]) (by kernel_rfl) (by simp) ?_
        refine AllReadyH.cons (o := { dst := some 144, op := Go.Op.call { callee := Go.Callee.value (Go.Operand.func 33), args := #[Go.Operand.tmp 141, Go.Operand.tmp 143], argTypes := #[22, 22] }, type := 4, pos := "outright.go:143", after := #[{ on := 29, ground := Go.Ground.data }, { on := 31, ground := Go.Ground.data }, { on := 27, ground := Go.Ground.chain }, { on := 27, ground := Go.Ground.guard }], guard := some (27, false) }) rfl (fun K hK => ?_) AllReadyH.nil
        go_simp
        refine (same_yes (HP.out.2.2.2.2 _ h3.1).set (HP.out.2.1 _ h3.1).set rfl).mono ?_
        rintro e v4 ⟨rfl, hD4⟩
        have h4 : Five w N Kw T v4 ∧ v4.cell? ⟨vW.heap.size, 0, none⟩ = some (.int .i64 (N : Int)) ∧ v4.cell? ⟨vW.heap.size, 1, none⟩ = some (.slice g3 Kw c3) ∧ v4.cell? ⟨vL.heap.size, 0, none⟩ = some (.int .i64 (N : Int)) ∧ v4.cell? ⟨vL.heap.size, 1, none⟩ = some (.slice g4 Kw c4) ∧ v4.cell? ⟨vQ.heap.size, 1, none⟩ = some (.slice g5 Kw c5) ∧ v4.cell? ⟨vM.heap.size, 1, none⟩ = some (.slice g6 Kw c6) := ⟨h3.1.step hD4, (HP.out.2.1 _ (h3.1.step hD4)).two.c0, (HP.out.2.1 _ (h3.1.step hD4)).two.c1, (HP.out.2.2.1 _ (h3.1.step hD4)).two.c0, (HP.out.2.2.1 _ (h3.1.step hD4)).two.c1, (HP.out.2.2.2.1 _ (h3.1.step hD4)).two.c1, (HP.out.2.2.2.2 _ (h3.1.step hD4)).two.c1⟩
        go_wp2_with fail
        refine hK.out _ _ (h4) (fun hHeld => ?_)
        clear hK K
        try simp only [Act.put, List.setIfInBounds_toArray, List.set_cons_zero, List.set_cons_succ]
        refine wpAnyH_take (i := 33) (oi := { dst := some 145, op := Go.Op.unOp Go.UnOp.not 4 (Go.Operand.tmp 144), type := 4, pos := "outright.go:143", after := #[{ on := 32, ground := Go.Ground.data }, { on := 27, ground := Go.Ground.guard }], guard := some (27, false) }) (v := ?v33r20) rfl (by kernel_rfl) (by kernel_rfl) (by kernel_rfl) (fun _ _ _ h => h) (Or.inl ⟨by rfl, ?hy33r20⟩) hHeld ?rest33r20
        case hy33r20 =>
          intro w hSw
          try dsimp only at hSw
          go_simp
          try with_reducible rfl
        try simp only [Act.put, List.setIfInBounds_toArray, List.set_cons_zero, List.set_cons_succ]
        refine wpAnyH_take (i := 34) (oi := { dst := some 146, op := Go.Op.pick (Go.Operand.tmp 139) (Go.Operand.const (Go.Value.bool true)) (Go.Operand.tmp 145), type := 4, pos := "outright.go:143", after := #[{ on := 27, ground := Go.Ground.data }, { on := 33, ground := Go.Ground.data }], guard := none }) (v := ?v34r20) rfl (by kernel_rfl) (by kernel_rfl) (by kernel_rfl) (fun _ _ _ h => h) (Or.inl ⟨by rfl, ?hy34r20⟩) hHeld ?rest34r20
        case hy34r20 =>
          intro w hSw
          try dsimp only at hSw
          go_simp
          try with_reducible rfl
        try simp only [Act.put, List.setIfInBounds_toArray, List.set_cons_zero, List.set_cons_succ]
        refine wpAnyH_take (i := 35) (oi := { dst := some 147, op := Go.Op.move (Go.Operand.tmp 146), type := 4, pos := "outright.go:143", after := #[{ on := 34, ground := Go.Ground.data }, { on := 32, ground := Go.Ground.chain }], guard := none }) (v := ?v35r20) rfl (by kernel_rfl) (by kernel_rfl) (by kernel_rfl) (fun _ _ _ h => h) (Or.inl ⟨by rfl, ?hy35r20⟩) hHeld ?rest35r20
        case hy35r20 =>
          intro w hSw
          try dsimp only at hSw
          go_simp
          try with_reducible rfl
        try simp only [Act.put, List.setIfInBounds_toArray, List.set_cons_zero, List.set_cons_succ]
        refine wpAnyH_take (i := 36) (oi := { dst := some 148, op := Go.Op.load 24 (Go.Operand.tmp 15), type := 24, pos := "outright.go:143", after := #[{ on := 35, ground := Go.Ground.guard }], guard := some (35, false) }) (v := ?v36r20) rfl (by kernel_rfl) (by kernel_rfl) (by kernel_rfl) (fun _ _ _ h => h) (Or.inl ⟨by rfl, ?hy36r20⟩) hHeld ?rest36r20
        case hy36r20 =>
          intro w hSw
          try dsimp only at hSw
          go_simp
          try with_reducible rfl
        try simp only [Act.put, List.setIfInBounds_toArray, List.set_cons_zero, List.set_cons_succ]
        refine wpAnyH_take (i := 38) (oi := { dst := some 150, op := Go.Op.load 24 (Go.Operand.tmp 17), type := 24, pos := "outright.go:143", after := #[{ on := 35, ground := Go.Ground.guard }], guard := some (35, false) }) (v := ?v38r20) rfl (by kernel_rfl) (by kernel_rfl) (by kernel_rfl) (fun _ _ _ h => h) (Or.inl ⟨by rfl, ?hy38r20⟩) hHeld ?rest38r20
        case hy38r20 =>
          intro w hSw
          try dsimp only at hSw
          go_simp
          try with_reducible rfl
        try simp only [Act.put, List.setIfInBounds_toArray, List.set_cons_zero, List.set_cons_succ]
        refine wpAnyH_ready (rs := [37]) (by kernel_rfl) (by simp) ?_
        refine AllReadyH.cons (o := { dst := some 149, op := Go.Op.call { callee := Go.Callee.value (Go.Operand.func 21), args := #[Go.Operand.tmp 148], argTypes := #[24] }, type := 3, pos := "outright.go:143", after := #[{ on := 36, ground := Go.Ground.data }, { on := 35, ground := Go.Ground.chain }, { on := 35, ground := Go.Ground.guard }], guard := some (35, false) }) rfl (fun K hK => ?_) AllReadyH.nil
        go_simp
        refine (count_bit (HP.out.2.1 _ h4.1).set HB.out.1 HCN.out.2.1).mono ?_
        rintro e v5 ⟨rfl, hD5⟩
        have h5 : Five w N Kw T v5 ∧ v5.cell? ⟨vW.heap.size, 0, none⟩ = some (.int .i64 (N : Int)) ∧ v5.cell? ⟨vW.heap.size, 1, none⟩ = some (.slice g3 Kw c3) ∧ v5.cell? ⟨vL.heap.size, 0, none⟩ = some (.int .i64 (N : Int)) ∧ v5.cell? ⟨vL.heap.size, 1, none⟩ = some (.slice g4 Kw c4) ∧ v5.cell? ⟨vQ.heap.size, 1, none⟩ = some (.slice g5 Kw c5) ∧ v5.cell? ⟨vM.heap.size, 1, none⟩ = some (.slice g6 Kw c6) := ⟨h4.1.step hD5, (HP.out.2.1 _ (h4.1.step hD5)).two.c0, (HP.out.2.1 _ (h4.1.step hD5)).two.c1, (HP.out.2.2.1 _ (h4.1.step hD5)).two.c0, (HP.out.2.2.1 _ (h4.1.step hD5)).two.c1, (HP.out.2.2.2.1 _ (h4.1.step hD5)).two.c1, (HP.out.2.2.2.2 _ (h4.1.step hD5)).two.c1⟩
        go_wp2_with fail
        refine hK.out _ _ (h5) (fun hHeld => ?_)
        clear hK K
        try simp only [Act.put, List.setIfInBounds_toArray, List.set_cons_zero, List.set_cons_succ]
        refine wpAnyH_ready (rs := [39]) (by kernel_rfl) (by simp) ?_
        refine AllReadyH.cons (o := { dst := some 151, op := Go.Op.call { callee := Go.Callee.value (Go.Operand.func 21), args := #[Go.Operand.tmp 150], argTypes := #[24] }, type := 3, pos := "outright.go:143", after := #[{ on := 38, ground := Go.Ground.data }, { on := 37, ground := Go.Ground.chain }, { on := 35, ground := Go.Ground.guard }], guard := some (35, false) }) rfl (fun K hK => ?_) AllReadyH.nil
        go_simp
        refine (count_bit (HP.out.2.2.1 _ h5.1).set HB.out.2.1 HCN.out.2.2.1).mono ?_
        rintro e v6 ⟨rfl, hD6⟩
        have h6 : Five w N Kw T v6 ∧ v6.cell? ⟨vW.heap.size, 0, none⟩ = some (.int .i64 (N : Int)) ∧ v6.cell? ⟨vW.heap.size, 1, none⟩ = some (.slice g3 Kw c3) ∧ v6.cell? ⟨vL.heap.size, 0, none⟩ = some (.int .i64 (N : Int)) ∧ v6.cell? ⟨vL.heap.size, 1, none⟩ = some (.slice g4 Kw c4) ∧ v6.cell? ⟨vQ.heap.size, 1, none⟩ = some (.slice g5 Kw c5) ∧ v6.cell? ⟨vM.heap.size, 1, none⟩ = some (.slice g6 Kw c6) := ⟨h5.1.step hD6, (HP.out.2.1 _ (h5.1.step hD6)).two.c0, (HP.out.2.1 _ (h5.1.step hD6)).two.c1, (HP.out.2.2.1 _ (h5.1.step hD6)).two.c0, (HP.out.2.2.1 _ (h5.1.step hD6)).two.c1, (HP.out.2.2.2.1 _ (h5.1.step hD6)).two.c1, (HP.out.2.2.2.2 _ (h5.1.step hD6)).two.c1⟩
        go_wp2_with fail
        refine hK.out _ _ (h6) (fun hHeld => ?_)
        clear hK K
        try simp only [Act.put, List.setIfInBounds_toArray, List.set_cons_zero, List.set_cons_succ]
        refine wpAnyH_take (i := 40) (oi := { dst := some 152, op := Go.Op.binOp Go.BinOp.add 3 (Go.Operand.tmp 151) (Go.Operand.const (Go.Value.int Go.IntKind.i64 1)) 3, type := 3, pos := "outright.go:143", after := #[{ on := 39, ground := Go.Ground.data }, { on := 35, ground := Go.Ground.guard }], guard := some (35, false) }) (v := ?v40r20) rfl (by kernel_rfl) (by kernel_rfl) (by kernel_rfl) (fun _ _ _ h => h) (Or.inl ⟨by rfl, ?hy40r20⟩) hHeld ?rest40r20
        case hy40r20 =>
          intro w hSw
          try dsimp only at hSw
          go_simp
          try with_reducible rfl
        try simp only [Act.put, List.setIfInBounds_toArray, List.set_cons_zero, List.set_cons_succ]
        refine wpAnyH_take (i := 41) (oi := { dst := some 153, op := Go.Op.binOp Go.BinOp.neq 3 (Go.Operand.tmp 149) (Go.Operand.tmp 152) 3, type := 4, pos := "outright.go:143", after := #[{ on := 37, ground := Go.Ground.data }, { on := 40, ground := Go.Ground.data }, { on := 35, ground := Go.Ground.guard }], guard := some (35, false) }) (v := ?v41r20) rfl (by kernel_rfl) (by kernel_rfl) (by kernel_rfl) (fun _ _ _ h => h) (Or.inl ⟨by rfl, ?hy41r20⟩) hHeld ?rest41r20
        case hy41r20 =>
          intro w hSw
          try dsimp only at hSw
          go_simp
          try with_reducible rfl
        try simp only [Act.put, List.setIfInBounds_toArray, List.set_cons_zero, List.set_cons_succ]
        refine wpAnyH_take (i := 42) (oi := { dst := some 154, op := Go.Op.pick (Go.Operand.tmp 147) (Go.Operand.const (Go.Value.bool true)) (Go.Operand.tmp 153), type := 4, pos := "outright.go:143", after := #[{ on := 35, ground := Go.Ground.data }, { on := 41, ground := Go.Ground.data }], guard := none }) (v := ?v42r20) rfl (by kernel_rfl) (by kernel_rfl) (by kernel_rfl) (fun _ _ _ h => h) (Or.inl ⟨by rfl, ?hy42r20⟩) hHeld ?rest42r20
        case hy42r20 =>
          intro w hSw
          try dsimp only at hSw
          go_simp
          try with_reducible rfl
        try simp only [Act.put, List.setIfInBounds_toArray, List.set_cons_zero, List.set_cons_succ]
        refine wpAnyH_done (by kernel_rfl) ?_ _
        refine NoPanic.normal ?_
        have hS := HP.out.1 _ h6.1
        have hW := HP.out.2.1 _ h6.1
        have hL := HP.out.2.2.1 _ h6.1
        have hR := HH.out.1
        have hkN := HH.out.2
        clear h0 h1 h2 h3 h4 h5 h6
        have c0 := hS.two.c0
        have c1 := hS.two.c1
        cases hb : bt R k with
        | true =>
          have q := has_bit hS.set hR (k := k) (by omega) hb
          go_wp2_with fail
          refine q.mono ?_
          rintro e u ⟨rfl, hD⟩
          have hS8 := hS.step hD
          have hW8 := hW.step hD
          have c0 := hS8.two.c0
          have c1 := hS8.two.c1
          have d0 := hW8.two.c0
          have d1 := hW8.two.c1
          have hR1 : R1 = R := same_words hW8.set hS8.set (fun j => by rw [HB.out.2.2.1]; by_cases hj : j = k <;> simp [hj, hb])
          have q2 := same_yes hW8.set hS8.set hR1
          clear hR1 q
          go_wp2_with fail
          refine q2.mono ?_
          rintro e u2 ⟨rfl, hD2⟩
          have hS9 := hS8.step hD2
          go_wp2_with fail
          go_ret
          exact ⟨rfl, hS9.bel⟩
        | false =>
          have q := has_bit hS.set hR (k := k) (by omega) hb
          go_wp2_with fail
          refine q.mono ?_
          rintro e u ⟨rfl, hD⟩
          have hS8 := hS.step hD
          have hL8 := hL.step hD
          have c0 := hS8.two.c0
          have c1 := hS8.two.c1
          have d0 := hL8.two.c0
          have d1 := hL8.two.c1
          have hR2 : R2 = R := same_words hL8.set hS8.set (fun j => by rw [HB.out.2.2.2]; by_cases hj : j = k <;> simp [hj, hb])
          have q2 := same_yes hL8.set hS8.set hR2
          clear hR2 q
          go_wp2_with fail
          refine q2.mono ?_
          rintro e u2 ⟨rfl, hD2⟩
          have hS9 := hS8.step hD2
          go_wp2_with fail
          go_ret
          exact ⟨rfl, hS9.bel⟩
end Go.Proofs.YtcdjfgkjllonhaaDoor
