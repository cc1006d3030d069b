/-
  The walk of the law CrcJoins. Where the table of the halves lies as the program's text lays it.
-/
import Derived.Test.YtdaijbplbnkpeaaDoorQw2
import Derived.Test.YtdaijbplbnkpeaaDoorCnc
namespace Go.Proofs.YtdaijbplbnkpeaaDoor
open Go.RowKit Go.Shelf

theorem two_cells (w : World) (x y : Value) (t : TypeId) : (w.alloc (.cells #[x, y] t)).cell? ⟨w.heap.size, 0, none⟩ = some x ∧ (w.alloc (.cells #[x, y] t)).cell? ⟨w.heap.size, 1, none⟩ = some y := by
  constructor <;> rw [World.cell?_alloc_mark] <;> rfl
theorem concat_new (W w : World) (hW : Below W.heap.size W w) (a1 a2 : Option Addr) (n1 c1 n2 c2 : Nat) (l1 l2 : List Int) (hS1 : Sl .u8 w a1 n1 c1 l1) (hS2 : Sl .u8 w a2 n2 c2 l2) (h1 : n1 ≤ 1000) (h2 : n2 ≤ 1000) :
    Calls Tryd.prog 33 #[.slice (some ⟨w.heap.size, 0, none⟩) 2 2] (w.alloc (.cells #[.slice a1 n1 c1, .slice a2 n2 c2] 22)) fun e w' => ∃ a c, e = .returned (.slice a (n1 + n2) c) ∧ Sl .u8 w' a (n1 + n2) c (l1 ++ l2) ∧ Below W.heap.size W w' ∧ Below w.heap.size w w' := by
  have hb : Below w.heap.size w (w.alloc (.cells #[.slice a1 n1 c1, .slice a2 n2 c2] 22)) := (Below.refl _ _).alloc (Nat.le_refl _) _
  refine (concat_any _ w.heap.size a1 a2 n1 c1 n2 c2 l1 l2 (by simp) (two_cells w _ _ _).1 (two_cells w _ _ _).2 (hS1.below hb) (hS2.below hb) h1 h2).mono ?_
  rintro e w' ⟨v, rfl, hm⟩
  obtain ⟨a, c, rfl, hs, _, hB⟩ := hm.view (n1 + n2) (by rw [List.length_append, hS1.1, hS2.1])
  exact ⟨a, c, rfl, hs, below_step (below_step hW hb) hB, below_step hb hB⟩

set_option maxRecDepth 100000 in
set_option maxHeartbeats 2000000 in
theorem joins_walk (W : World) (hT : Tab W) (a1 : Option Addr) (n1 c1 : Nat) (l1 : List Int) (a2 : Option Addr) (n2 c2 : Nat) (l2 : List Int) (a3 : Option Addr) (n3 c3 : Nat) (l3 : List Int) (x y : Int) (hs1 : Sl .u8 W a1 n1 c1 l1) (hf1 : Fits .u8 l1) (hs2 : Sl .u8 W a2 n2 c2 l2) (hf2 : Fits .u8 l2) (hs3 : Sl .u8 W a3 n3 c3 l3) (hf3 : Fits .u8 l3) (wx : (Lit.int .u32 x).wf = true) (wy : (Lit.int .u32 y).wf = true) :
    Calls Tryd.prog 12 #[.slice a1 n1 c1, .slice a2 n2 c2, .slice a3 n3 c3, .int .u32 x, .int .u32 y] W fun e w' => e = .returned (.bool true) ∧ Below W.heap.size W w' := by
  have hx := bounds_u32 wx
  have hy := bounds_u32 wy
  have hc1 := hs1.2.1
  have hk1 := hs1.2.2.1
  have hc2 := hs2.2.1
  have hk2 := hs2.2.2.1
  have hc3 := hs3.2.1
  have hk3 := hs3.2.2.1
  obtain ⟨m1, hm1⟩ : ∃ m : Nat, m = min n1 300 := ⟨_, rfl⟩
  obtain ⟨m2, hm2⟩ : ∃ m : Nat, m = min n2 300 := ⟨_, rfl⟩
  obtain ⟨m3, hm3⟩ : ∃ m : Nat, m = min n3 300 := ⟨_, rfl⟩
  have hi1 : min (n1 : Int) 300 = (m1 : Int) := by omega
  have hi2 : min (n2 : Int) 300 = (m2 : Int) := by omega
  have hi3 : min (n3 : Int) 300 = (m3 : Int) := by omega
  have g1 : m1 ≤ n1 := by omega
  have g2 : m2 ≤ n2 := by omega
  have g3 : m3 ≤ n3 := by omega
  have b1 : m1 ≤ 300 := by omega
  have b2 : m2 ≤ 300 := by omega
  have b3 : m3 ≤ 300 := by omega
  have hsA := hs1.upto m1 g1
  have hsB := hs2.upto m2 g2
  have hsC := hs3.upto m3 g3
  have hbA := (bys_fits hf1).take m1
  have hbB := (bys_fits hf2).take m2
  have hbC := (bys_fits hf3).take m3
  obtain ⟨A, hA⟩ : ∃ A, A = l1.take m1 := ⟨_, rfl⟩
  obtain ⟨B, hB⟩ : ∃ B, B = l2.take m2 := ⟨_, rfl⟩
  obtain ⟨C, hC⟩ : ∃ C, C = l3.take m3 := ⟨_, rfl⟩
  rw [← hA] at hsA hbA
  rw [← hB] at hsB hbB
  rw [← hC] at hsC hbC
  clear hm1 hm2 hm3 hA hB hC hs1 hs2 hs3 hf1 hf2 hf3 wx wy
  have ja := join_eq A B
  have jb := join_eq (A ++ B) C
  have jc := join_eq B C
  have jd := join_three A B C
  rw [hsB.1] at ja
  rw [hsC.1] at jb jc
  rw [hsB.1, hsC.1] at jd
  have ua := upd_append 0 A B
  have rA := upd_lt hbA (c := 0) (by decide)
  have rB := upd_lt hbB (c := 0) (by decide)
  have rC := upd_lt hbC (c := 0) (by decide)
  have rAB := upd_lt (hbA.append hbB) (c := 0) (by decide)
  have rBC := upd_lt (hbB.append hbC) (c := 0) (by decide)
  have qA := fun w' (hb : Below W.heap.size W w') => sum_any' a1 m1 c1 A w' (hT.step hb) (hsA.below hb) hbA
  have qB := fun w' (hb : Below W.heap.size W w') => sum_any' a2 m2 c2 B w' (hT.step hb) (hsB.below hb) hbB
  have qC := fun w' (hb : Below W.heap.size W w') => sum_any' a3 m3 c3 C w' (hT.step hb) (hsC.below hb) hbC
  have qU := fun w' (hb : Below W.heap.size W w') => update_any (upd 0 A) a2 m2 c2 B w' (hT.step hb) rA (hsB.below hb) hbB
  obtain ⟨sA, hsAe⟩ : ∃ s, s = upd 0 A := ⟨_, rfl⟩
  obtain ⟨sB, hsBe⟩ : ∃ s, s = upd 0 B := ⟨_, rfl⟩
  obtain ⟨sC, hsCe⟩ : ∃ s, s = upd 0 C := ⟨_, rfl⟩
  obtain ⟨sAB, hABe⟩ : ∃ s, s = upd 0 (A ++ B) := ⟨_, rfl⟩
  obtain ⟨sBC, hBCe⟩ : ∃ s, s = upd 0 (B ++ C) := ⟨_, rfl⟩
  obtain ⟨sT, hTe⟩ : ∃ s, s = upd 0 (A ++ B ++ C) := ⟨_, rfl⟩
  rw [← ua] at qU
  simp only [← hsAe, ← hsBe, ← hsCe, ← hABe, ← hBCe, ← hTe] at ja jb jc jd rA rB rC rAB rBC qA qB qC qU
  have p1 := fun w => join_any sA sB m2 w rA rB (by omega)
  have p2 := fun w => join_any sAB sC m3 w rAB rC (by omega)
  have p3 := fun w => join_any sB sC m3 w rB rC (by omega)
  have p4 := fun w => join_any sA sBC (m2 + m3) w rA rBC (by omega)
  rw [ja] at p1
  rw [jb] at p2
  rw [jc] at p3
  rw [jd] at p4
  have HAB := Lib.hid hABe
  have HT := Lib.hid hTe
  have hbAB := Lib.hid (hbA.append hbB)
  have hbABC := Lib.hid ((hbA.append hbB).append hbC)
  clear ja jb jc jd ua hsAe hsBe hsCe hABe hBCe hTe
  obtain ⟨k, hk⟩ : ∃ k : Nat, (k : Int) = x % 8388609 := ⟨(x % 8388609).toNat, by omega⟩
  obtain ⟨l, hl⟩ : ∃ l : Nat, (l : Int) = y % 8388609 := ⟨(y % 8388609).toNat, by omega⟩
  have hkx : x.tmod 8388609 = (k : Int) := by rw [hk, Int.tmod_eq_emod_of_nonneg hx.1]
  have hly : y.tmod 8388609 = (l : Int) := by rw [hl, Int.tmod_eq_emod_of_nonneg hy.1]
  have hkl : k ≤ 8388608 := by omega
  have hll : l ≤ 8388608 := by omega
  clear hk hl
  have sh := hn_two k l sA
  have rp : hn (8 * k) sA < 4294967296 := hn_lt _ rA
  have t1 := fun w => shift_any sA k w rA (by omega)
  have t2 := fun w => shift_any (hn (8 * k) sA) l w rp (by omega)
  have t3 := fun w => shift_any sA (k + l) w rA (by omega)
  rw [sh] at t2
  obtain ⟨p, hp⟩ : ∃ p, p = hn (8 * k) sA := ⟨_, rfl⟩
  obtain ⟨q, hq⟩ : ∃ q, q = hn (8 * (k + l)) sA := ⟨_, rfl⟩
  rw [← hp] at t1 t2
  rw [← hq] at t2 t3
  clear sh hp hq rp rA rB rC rAB rBC
  go_enter Tryd.func12, Tryd.ntmps12
  go_wp2_with fail
  go_region
  go_wp2_with fail
  refine Calls.mono (concat_new W W.drew (Below.refl _ _).drew a1 a2 m1 c1 m2 c2 A B (hsA.below (Below.refl _ _).drew) (hsB.below (Below.refl _ _).drew) (by omega) (by omega)) ?_
  rintro e w1 ⟨ab, cab, rfl, hsab, hB1, _⟩
  have qAB := fun w' (hb : Below w1.heap.size w1 w') => sum_any' ab (m1 + m2) cab (A ++ B) w' ((hT.step hB1).step hb) (hsab.below hb) hbAB.out
  simp only [← HAB.out] at qAB
  have d1 := Below.refl w1.heap.size w1
  go_wp2_with fail
  refine (qA _ hB1).mono ?_
  rintro e w' ⟨rfl, rfl⟩
  go_wp2_with fail
  refine (qB _ hB1).mono ?_
  rintro e w' ⟨rfl, rfl⟩
  go_wp2_with fail
  refine (p1 _).mono ?_
  rintro e w2 ⟨rfl, hb⟩
  have hB2 := below_step hB1 hb
  have d2 := below_step d1 hb
  clear hb
  go_wp2_with fail
  refine (qC _ hB2).mono ?_
  rintro e w' ⟨rfl, rfl⟩
  go_wp2_with fail
  refine (p2 _).mono ?_
  rintro e w3 ⟨rfl, hb⟩
  have hB3 := below_step hB2 hb
  have d3 := below_step d2 hb
  clear hb hB2 d2
  go_wp2_with fail
  refine (qB _ hB3).mono ?_
  rintro e w' ⟨rfl, rfl⟩
  go_wp2_with fail
  refine (qC _ hB3).mono ?_
  rintro e w' ⟨rfl, rfl⟩
  go_wp2_with fail
  refine (p3 _).mono ?_
  rintro e w4 ⟨rfl, hb⟩
  have hB4 := below_step hB3 hb
  have d4 := below_step d3 hb
  clear hb hB3 d3
  go_wp2_with fail
  refine (qA _ hB4).mono ?_
  rintro e w' ⟨rfl, rfl⟩
  go_wp2_with fail
  refine (p4 _).mono ?_
  rintro e w5 ⟨rfl, hb⟩
  have hB5 := below_step hB4 hb
  have d5 := below_step d4 hb
  clear hb hB4 d4 p1 p2 p3 p4 qB qC
  go_wp2_with fail
  refine (qAB _ d5).mono ?_
  rintro e w' ⟨rfl, rfl⟩
  go_wp2_with fail
  refine (qA _ hB5).mono ?_
  rintro e w' ⟨rfl, rfl⟩
  go_wp2_with fail
  refine (qU _ hB5).mono ?_
  rintro e w' ⟨rfl, rfl⟩
  go_wp2_with fail
  refine (concat_new W w5 hB5 ab a3 (m1 + m2) cab m3 c3 (A ++ B) C (hsab.below d5) (hsC.below hB5) (by omega) (by omega)).mono ?_
  rintro e w6 ⟨at', ct, rfl, hst, hB6, _⟩
  have qT := sum_any' at' (m1 + m2 + m3) ct (A ++ B ++ C) w6 (hT.step hB6) hst hbABC.out
  rw [← HT.out] at qT
  clear hB5 d5 d1 qAB qU hst hsab hB1
  go_wp2_with fail
  refine qT.mono ?_
  rintro e w' ⟨rfl, rfl⟩
  clear qT
  go_wp2_with fail
  refine (qA _ hB6).mono ?_
  rintro e w' ⟨rfl, rfl⟩
  go_wp2_with fail
  refine (t1 _).mono ?_
  rintro e w7 ⟨rfl, hb⟩
  have hB7 := below_step hB6 hb
  clear hb hB6
  go_wp2_with fail
  refine (t2 _).mono ?_
  rintro e w8 ⟨rfl, hb⟩
  have hB8 := below_step hB7 hb
  clear hb hB7
  go_wp2_with fail
  refine (qA _ hB8).mono ?_
  rintro e w' ⟨rfl, rfl⟩
  go_wp2_with fail
  refine (t3 _).mono ?_
  rintro e w9 ⟨rfl, hb⟩
  have hB9 := below_step hB8 hb
  clear hb hB8
  go_wp2_with fail
  refine (awake_any _ (hT.step hB9)).mono ?_
  rintro e w' ⟨rfl, hb3⟩
  go_wp2_with fail
  go_ret
  exact ⟨rfl, below_step hB9 hb3⟩
end Go.Proofs.YtdaijbplbnkpeaaDoor
