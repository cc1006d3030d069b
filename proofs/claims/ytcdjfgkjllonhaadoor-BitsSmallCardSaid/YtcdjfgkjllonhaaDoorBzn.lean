/-
  The contracts of bits' Or, And, Minus, all and Not.
-/
import Derived.Test.YtcdjfgkjllonhaaDoorBzm
namespace Go.Proofs.YtcdjfgkjllonhaaDoor
open Go.RowKit Go.Shelf

set_option maxRecDepth 100000 in
set_option maxHeartbeats 2000000 in
theorem orOk_any (w : World) (N : Nat) (a b : Option Addr) (n c k d : Nat) (l m : List Int) (ha : SetIn w N a n c l) (hb : SetIn w N b k d m) (hra : rightB N l = true) (hrb : rightB N m = true) :
    Calls Tryd.prog 30 #[.agg #[.int .i64 (N : Int), .slice a n c], .agg #[.int .i64 (N : Int), .slice b k d]] w (SetE w N fun j => bt l j || bt m j) := by
  have hkn : k = n := by
    have h1 := (of_rightB hra).2.2.1
    have h2 := (of_rightB hrb).2.2.1
    have h3 := ha.sl.1
    have h4 := hb.sl.1
    omega
  subst hkn
  unfold SetE
  have hWn : (N + 63) / 64 = k := by
    have h1 := (of_rightB hra).2.2.1
    have h3 := ha.sl.1
    omega
  rw [hWn]
  obtain ⟨hS, hT⟩ := boxes2 w (.int .i64 (N : Int)) (.slice a k c) (.int .i64 (N : Int)) (.slice b k d)
  have qc := orC_ok _ (N : Int) a b k c d l m (ha.below hS.1) (hb.below hS.1) hra hrb
  clear ha hb hra hrb hWn
  go_enter Tryd.func30, Tryd.ntmps30
  go_wp2_with fail
  refine qc.mono ?_
  rintro e w2 ⟨g, c2, R, rfl, hown, hWd, hbt, hB2⟩
  have hS2 := hS.step hB2
  have hT2 := hT.step hB2
  have hz : (((w.alloc (.cells #[.int .i64 (N : Int), .slice a k c] 24)).alloc (.cells #[.int .i64 (N : Int), .slice b k d] 24)).alloc (.cells #[.int .i64 0, .slice none 0 0] 24)).heap.size = w.heap.size + 1 + 1 + 1 := by rw [World.size_alloc, World.size_alloc, World.size_alloc]
  rw [hz] at hown
  have q0 := hT2.c0
  have q1 := hT2.c1
  have q2 := hT2.f0
  have q3 := hT2.f1
  have hQ3 := hT2.range_set (.int .i64 (N : Int)) (.slice g k c2)
  have hS3 := hS2.put (.int .i64 (N : Int)) (.slice g k c2)
  have hown3 := own_base (own_set (own_set hown (w.heap.size + 1 + 1) 0 (.int .i64 (N : Int)) (Nat.lt_succ_self _)) (w.heap.size + 1 + 1) 1 (.slice g k c2) (Nat.lt_succ_self _)) (show w.heap.size ≤ w.heap.size + 1 + 1 + 1 by omega)
  clear hS hT hB2 hown hz qc hS2 hT2
  go_wp2_with fail
  refine bodyPost_cell2 rfl (w.heap.size + 1 + 1) rfl _ _ hQ3 Tryd.underlying24 rfl (by kernel_rfl) rfl ?_
  exact ⟨g, c2, R, rfl, hown3, hWd, hbt, hS3.1⟩

set_option maxRecDepth 100000 in
set_option maxHeartbeats 2000000 in
theorem orX_any (w : World) (N M : Int) (x : Int) (a b : Option Addr) (n c k d : Nat) (l m : List Int) (ha : SetIn w N a n c l) (hb : SetIn w M b k d m)
    (qc : ∀ W, SetIn W N a n c l → SetIn W M b k d m → Calls Tryd.prog 67 #[.agg #[.int .i64 N, .slice a n c], .agg #[.int .i64 M, .slice b k d], .func (.func 68) #[] #[]] W (SetX W x)) :
    Calls Tryd.prog 30 #[.agg #[.int .i64 N, .slice a n c], .agg #[.int .i64 M, .slice b k d]] w (SetX w x) := by
  unfold SetX
  obtain ⟨hS, hT⟩ := boxes2 w (.int .i64 N) (.slice a n c) (.int .i64 M) (.slice b k d)
  have qc := qc _ (ha.below hS.1) (hb.below hS.1)
  clear ha hb
  go_enter Tryd.func30, Tryd.ntmps30
  go_wp2_with fail
  refine qc.mono ?_
  rintro e w2 ⟨g, c2, rfl, hown, hB2⟩
  have hS2 := hS.step hB2
  have hT2 := hT.step hB2
  have hz : (((w.alloc (.cells #[.int .i64 N, .slice a n c] 24)).alloc (.cells #[.int .i64 M, .slice b k d] 24)).alloc (.cells #[.int .i64 0, .slice none 0 0] 24)).heap.size = w.heap.size + 1 + 1 + 1 := by rw [World.size_alloc, World.size_alloc, World.size_alloc]
  rw [hz] at hown
  have q0 := hT2.c0
  have q1 := hT2.c1
  have q2 := hT2.f0
  have q3 := hT2.f1
  have hQ3 := hT2.range_set (.int .i64 0) (.slice g 0 c2)
  have hS3 := hS2.put (.int .i64 0) (.slice g 0 c2)
  have hown3 := own_base (own_set (own_set hown (w.heap.size + 1 + 1) 0 (.int .i64 0) (Nat.lt_succ_self _)) (w.heap.size + 1 + 1) 1 (.slice g 0 c2) (Nat.lt_succ_self _)) (show w.heap.size ≤ w.heap.size + 1 + 1 + 1 by omega)
  clear hS hT hB2 hown hz qc hS2 hT2
  go_wp2_with fail
  refine bodyPost_cell2 rfl (w.heap.size + 1 + 1) rfl _ _ hQ3 Tryd.underlying24 rfl (by kernel_rfl) rfl ?_
  exact ⟨g, c2, rfl, hown3, hS3.1⟩

set_option maxRecDepth 100000 in
set_option maxHeartbeats 2000000 in
theorem andOk_any (w : World) (N : Nat) (a b : Option Addr) (n c k d : Nat) (l m : List Int) (ha : SetIn w N a n c l) (hb : SetIn w N b k d m) (hra : rightB N l = true) (hrb : rightB N m = true) :
    Calls Tryd.prog 31 #[.agg #[.int .i64 (N : Int), .slice a n c], .agg #[.int .i64 (N : Int), .slice b k d]] w (SetE w N fun j => bt l j && bt m j) := by
  have hkn : k = n := by
    have h1 := (of_rightB hra).2.2.1
    have h2 := (of_rightB hrb).2.2.1
    have h3 := ha.sl.1
    have h4 := hb.sl.1
    omega
  subst hkn
  unfold SetE
  have hWn : (N + 63) / 64 = k := by
    have h1 := (of_rightB hra).2.2.1
    have h3 := ha.sl.1
    omega
  rw [hWn]
  obtain ⟨hS, hT⟩ := boxes2 w (.int .i64 (N : Int)) (.slice a k c) (.int .i64 (N : Int)) (.slice b k d)
  have qc := andC_ok _ (N : Int) a b k c d l m (ha.below hS.1) (hb.below hS.1) hra hrb
  clear ha hb hra hrb hWn
  go_enter Tryd.func31, Tryd.ntmps31
  go_wp2_with fail
  refine qc.mono ?_
  rintro e w2 ⟨g, c2, R, rfl, hown, hWd, hbt, hB2⟩
  have hS2 := hS.step hB2
  have hT2 := hT.step hB2
  have hz : (((w.alloc (.cells #[.int .i64 (N : Int), .slice a k c] 24)).alloc (.cells #[.int .i64 (N : Int), .slice b k d] 24)).alloc (.cells #[.int .i64 0, .slice none 0 0] 24)).heap.size = w.heap.size + 1 + 1 + 1 := by rw [World.size_alloc, World.size_alloc, World.size_alloc]
  rw [hz] at hown
  have q0 := hT2.c0
  have q1 := hT2.c1
  have q2 := hT2.f0
  have q3 := hT2.f1
  have hQ3 := hT2.range_set (.int .i64 (N : Int)) (.slice g k c2)
  have hS3 := hS2.put (.int .i64 (N : Int)) (.slice g k c2)
  have hown3 := own_base (own_set (own_set hown (w.heap.size + 1 + 1) 0 (.int .i64 (N : Int)) (Nat.lt_succ_self _)) (w.heap.size + 1 + 1) 1 (.slice g k c2) (Nat.lt_succ_self _)) (show w.heap.size ≤ w.heap.size + 1 + 1 + 1 by omega)
  clear hS hT hB2 hown hz qc hS2 hT2
  go_wp2_with fail
  refine bodyPost_cell2 rfl (w.heap.size + 1 + 1) rfl _ _ hQ3 Tryd.underlying24 rfl (by kernel_rfl) rfl ?_
  exact ⟨g, c2, R, rfl, hown3, hWd, hbt, hS3.1⟩

set_option maxRecDepth 100000 in
set_option maxHeartbeats 2000000 in
theorem andX_any (w : World) (N M : Int) (x : Int) (a b : Option Addr) (n c k d : Nat) (l m : List Int) (ha : SetIn w N a n c l) (hb : SetIn w M b k d m)
    (qc : ∀ W, SetIn W N a n c l → SetIn W M b k d m → Calls Tryd.prog 67 #[.agg #[.int .i64 N, .slice a n c], .agg #[.int .i64 M, .slice b k d], .func (.func 69) #[] #[]] W (SetX W x)) :
    Calls Tryd.prog 31 #[.agg #[.int .i64 N, .slice a n c], .agg #[.int .i64 M, .slice b k d]] w (SetX w x) := by
  unfold SetX
  obtain ⟨hS, hT⟩ := boxes2 w (.int .i64 N) (.slice a n c) (.int .i64 M) (.slice b k d)
  have qc := qc _ (ha.below hS.1) (hb.below hS.1)
  clear ha hb
  go_enter Tryd.func31, Tryd.ntmps31
  go_wp2_with fail
  refine qc.mono ?_
  rintro e w2 ⟨g, c2, rfl, hown, hB2⟩
  have hS2 := hS.step hB2
  have hT2 := hT.step hB2
  have hz : (((w.alloc (.cells #[.int .i64 N, .slice a n c] 24)).alloc (.cells #[.int .i64 M, .slice b k d] 24)).alloc (.cells #[.int .i64 0, .slice none 0 0] 24)).heap.size = w.heap.size + 1 + 1 + 1 := by rw [World.size_alloc, World.size_alloc, World.size_alloc]
  rw [hz] at hown
  have q0 := hT2.c0
  have q1 := hT2.c1
  have q2 := hT2.f0
  have q3 := hT2.f1
  have hQ3 := hT2.range_set (.int .i64 0) (.slice g 0 c2)
  have hS3 := hS2.put (.int .i64 0) (.slice g 0 c2)
  have hown3 := own_base (own_set (own_set hown (w.heap.size + 1 + 1) 0 (.int .i64 0) (Nat.lt_succ_self _)) (w.heap.size + 1 + 1) 1 (.slice g 0 c2) (Nat.lt_succ_self _)) (show w.heap.size ≤ w.heap.size + 1 + 1 + 1 by omega)
  clear hS hT hB2 hown hz qc hS2 hT2
  go_wp2_with fail
  refine bodyPost_cell2 rfl (w.heap.size + 1 + 1) rfl _ _ hQ3 Tryd.underlying24 rfl (by kernel_rfl) rfl ?_
  exact ⟨g, c2, rfl, hown3, hS3.1⟩

set_option maxRecDepth 100000 in
set_option maxHeartbeats 2000000 in
theorem minusOk_any (w : World) (N : Nat) (a b : Option Addr) (n c k d : Nat) (l m : List Int) (ha : SetIn w N a n c l) (hb : SetIn w N b k d m) (hra : rightB N l = true) (hrb : rightB N m = true) :
    Calls Tryd.prog 32 #[.agg #[.int .i64 (N : Int), .slice a n c], .agg #[.int .i64 (N : Int), .slice b k d]] w (SetE w N fun j => bt l j && !bt m j) := by
  have hkn : k = n := by
    have h1 := (of_rightB hra).2.2.1
    have h2 := (of_rightB hrb).2.2.1
    have h3 := ha.sl.1
    have h4 := hb.sl.1
    omega
  subst hkn
  unfold SetE
  have hWn : (N + 63) / 64 = k := by
    have h1 := (of_rightB hra).2.2.1
    have h3 := ha.sl.1
    omega
  rw [hWn]
  obtain ⟨hS, hT⟩ := boxes2 w (.int .i64 (N : Int)) (.slice a k c) (.int .i64 (N : Int)) (.slice b k d)
  have qc := minusC_ok _ (N : Int) a b k c d l m (ha.below hS.1) (hb.below hS.1) hra hrb
  clear ha hb hra hrb hWn
  go_enter Tryd.func32, Tryd.ntmps32
  go_wp2_with fail
  refine qc.mono ?_
  rintro e w2 ⟨g, c2, R, rfl, hown, hWd, hbt, hB2⟩
  have hS2 := hS.step hB2
  have hT2 := hT.step hB2
  have hz : (((w.alloc (.cells #[.int .i64 (N : Int), .slice a k c] 24)).alloc (.cells #[.int .i64 (N : Int), .slice b k d] 24)).alloc (.cells #[.int .i64 0, .slice none 0 0] 24)).heap.size = w.heap.size + 1 + 1 + 1 := by rw [World.size_alloc, World.size_alloc, World.size_alloc]
  rw [hz] at hown
  have q0 := hT2.c0
  have q1 := hT2.c1
  have q2 := hT2.f0
  have q3 := hT2.f1
  have hQ3 := hT2.range_set (.int .i64 (N : Int)) (.slice g k c2)
  have hS3 := hS2.put (.int .i64 (N : Int)) (.slice g k c2)
  have hown3 := own_base (own_set (own_set hown (w.heap.size + 1 + 1) 0 (.int .i64 (N : Int)) (Nat.lt_succ_self _)) (w.heap.size + 1 + 1) 1 (.slice g k c2) (Nat.lt_succ_self _)) (show w.heap.size ≤ w.heap.size + 1 + 1 + 1 by omega)
  clear hS hT hB2 hown hz qc hS2 hT2
  go_wp2_with fail
  refine bodyPost_cell2 rfl (w.heap.size + 1 + 1) rfl _ _ hQ3 Tryd.underlying24 rfl (by kernel_rfl) rfl ?_
  exact ⟨g, c2, R, rfl, hown3, hWd, hbt, hS3.1⟩

set_option maxRecDepth 100000 in
set_option maxHeartbeats 2000000 in
theorem minusX_any (w : World) (N M : Int) (x : Int) (a b : Option Addr) (n c k d : Nat) (l m : List Int) (ha : SetIn w N a n c l) (hb : SetIn w M b k d m)
    (qc : ∀ W, SetIn W N a n c l → SetIn W M b k d m → Calls Tryd.prog 67 #[.agg #[.int .i64 N, .slice a n c], .agg #[.int .i64 M, .slice b k d], .func (.func 70) #[] #[]] W (SetX W x)) :
    Calls Tryd.prog 32 #[.agg #[.int .i64 N, .slice a n c], .agg #[.int .i64 M, .slice b k d]] w (SetX w x) := by
  unfold SetX
  obtain ⟨hS, hT⟩ := boxes2 w (.int .i64 N) (.slice a n c) (.int .i64 M) (.slice b k d)
  have qc := qc _ (ha.below hS.1) (hb.below hS.1)
  clear ha hb
  go_enter Tryd.func32, Tryd.ntmps32
  go_wp2_with fail
  refine qc.mono ?_
  rintro e w2 ⟨g, c2, rfl, hown, hB2⟩
  have hS2 := hS.step hB2
  have hT2 := hT.step hB2
  have hz : (((w.alloc (.cells #[.int .i64 N, .slice a n c] 24)).alloc (.cells #[.int .i64 M, .slice b k d] 24)).alloc (.cells #[.int .i64 0, .slice none 0 0] 24)).heap.size = w.heap.size + 1 + 1 + 1 := by rw [World.size_alloc, World.size_alloc, World.size_alloc]
  rw [hz] at hown
  have q0 := hT2.c0
  have q1 := hT2.c1
  have q2 := hT2.f0
  have q3 := hT2.f1
  have hQ3 := hT2.range_set (.int .i64 0) (.slice g 0 c2)
  have hS3 := hS2.put (.int .i64 0) (.slice g 0 c2)
  have hown3 := own_base (own_set (own_set hown (w.heap.size + 1 + 1) 0 (.int .i64 0) (Nat.lt_succ_self _)) (w.heap.size + 1 + 1) 1 (.slice g 0 c2) (Nat.lt_succ_self _)) (show w.heap.size ≤ w.heap.size + 1 + 1 + 1 by omega)
  clear hS hT hB2 hown hz qc hS2 hT2
  go_wp2_with fail
  refine bodyPost_cell2 rfl (w.heap.size + 1 + 1) rfl _ _ hQ3 Tryd.underlying24 rfl (by kernel_rfl) rfl ?_
  exact ⟨g, c2, rfl, hown3, hS3.1⟩

/-- Words that are all ones below n. -/
theorem ones_words {R : List Int} {n K : Nat} (hR : R.length = K) (hK : K = (n + 63) / 64) (h : ∀ j, j < K → wd R j = 2 ^ (min (n - 64 * j) 64) - 1) : ∀ i, bt R i = decide (i < n) := fun i => by
  by_cases hi : i / 64 < K
  · have e : bt R i = (wd R (i / 64)).testBit (i % 64) := rfl
    rw [e, h _ hi, Nat.testBit_two_pow_sub_one]
    by_cases h2 : i < n
    · rw [decide_eq_true h2]; simp; omega
    · rw [decide_eq_false h2]; simp; omega
  · rw [bt_out (l := R) (by omega), decide_eq_false (by omega)]

set_option maxRecDepth 100000 in
set_option maxHeartbeats 8000000 in
theorem all_any (w : World) (n : Nat) (hn : n ≤ 65536) : Calls Tryd.prog 57 #[.int .i64 (n : Int)] w fun e w' => ∃ g c R, e = .returned (.agg #[.int .i64 (n : Int), .slice g ((n + 63) / 64) c]) ∧ w'.ownsRow w.heap.size 30 1 (.slice g ((n + 63) / 64) c) ((n + 63) / 64) (R.map (Value.int .u64)) ∧ Wds R ∧ (∀ i, bt R i = decide (i < n)) ∧ Below w.heap.size w w' := by
  obtain ⟨i0, hinf, hz0, hz1, hz2⟩ := info_parts infoU
  have qw := fun W => wordsFor_any n W hn
  obtain ⟨K, hK⟩ : ∃ K : Nat, K = (n + 63) / 64 := ⟨_, rfl⟩
  rw [← hK]
  simp only [← hK] at qw
  have hKl : K ≤ 1024 := by omega
  have HK := Lib.hid hK
  clear hK
  have hB : Below w.heap.size w (w.alloc (.cells #[.int .i64 0, .slice none 0 0] 24)) := (Below.refl _ w).alloc (Nat.le_refl _) _
  have hT : Two (w.alloc (.cells #[.int .i64 0, .slice none 0 0] 24)) w.heap.size 24 (.int .i64 0) (.slice none 0 0) := Two.new w _ _ _
  have hz1w : (w.alloc (.cells #[.int .i64 0, .slice none 0 0] 24)).heap.size = w.heap.size + 1 := World.size_alloc ..
  go_enter Tryd.func57, Tryd.ntmps57
  go_wp2_with fail
  refine (qw _).mono ?_
  rintro e w' ⟨rfl, hE⟩
  rw [hE]
  clear hE qw
  obtain ⟨w1, hw1⟩ : ∃ wz, wz = w.alloc (.cells #[.int .i64 0, .slice none 0 0] 24) := ⟨_, rfl⟩
  rw [← hw1] at hB hT hz1w ⊢
  clear hw1
  go_wp2_with (at_make; refine wpList_make_full _ rfl _ _ 22 rfl (w.heap.size + 1) 30 i0 (.int .u64 0) 1 Tryd.underlying22 hinf hz0 hz1 .i64 .i64 _ _ K rfl rfl rfl rfl (by rw [hz2]; omega) (by unfold maxLen; omega) (by omega) ?_)
  intro w2 hown hgrow
  have hG1 : Below w1.heap.size w1 w2 := (Below.refl w1.heap.size w1).grown hgrow (Nat.le_refl _) (fun _ hk => by cases hk)
  have hBB := bstep hB hG1
  have hT2 := hT.step hG1
  rw [made_zerosU] at hown
  have hl0 : (List.replicate K (0 : Int)).length = K := List.length_replicate
  have hW0 := Wds.zeros K
  obtain ⟨R0, hR0⟩ : ∃ R : List Int, R = List.replicate K 0 := ⟨_, rfl⟩
  rw [← hR0] at hown hl0 hW0
  clear hR0 hgrow hB hT hG1
  go_wp2_with fail
  have hgl : w.heap.size + 1 < w2.heap.size := (World.ownsRow.lt hown _ rfl).2
  have hT3 := Two.new w2 24 (.int .i64 (n : Int)) (.slice (some ⟨w.heap.size + 1, 0, none⟩) K K)
  have hA : Below w2.heap.size w2 (w2.alloc (.cells #[.int .i64 (n : Int), .slice (some ⟨w.heap.size + 1, 0, none⟩) K K] 24)) := (Below.refl _ w2).alloc (Nat.le_refl _) _
  have hown3 := ownsRow_below hown hA
  have hB3 := bstep hBB hA
  have hR3 := hT2.step hA
  obtain ⟨w3, hw3⟩ : ∃ wz, wz = w2.alloc (.cells #[.int .i64 (n : Int), .slice (some ⟨w.heap.size + 1, 0, none⟩) K K] 24) := ⟨_, rfl⟩
  rw [← hw3] at hT3 hown3 hB3 hR3 ⊢
  obtain ⟨sb, hsb⟩ : ∃ b, b = w2.heap.size := ⟨_, rfl⟩
  rw [← hsb] at hT3 hgl ⊢
  obtain ⟨g, hg⟩ : ∃ b, b = w.heap.size + 1 := ⟨_, rfl⟩
  have hgw : w.heap.size < g := by omega
  rw [← hg] at hT3 hown3 hgl ⊢
  have hsbg : sb ≠ g := by omega
  have hrg : w.heap.size ≠ g := by omega
  clear hw3 hsb hg hA hown hBB hT2
  have c1 := hT3.c1
  go_wp2_with fail
  go_loopw [13] (fun I wr => ∃ (k : Nat) (R : List Int), k ≤ K ∧ I = .int .i64 (k : Int) ∧ Wds R ∧ R.length = K ∧ (∀ j, j < k → wd R j = 2 ^ (min (n - 64 * j) 64) - 1) ∧ wr.ownsRow g 30 1 (.slice (some ⟨g, 0, none⟩) K K) K (R.map (Value.int .u64)) ∧ Two wr sb 24 (.int .i64 (n : Int)) (.slice (some ⟨g, 0, none⟩) K K) ∧ Two wr w.heap.size 24 (.int .i64 0) (.slice none 0 0) ∧ Below w.heap.size w wr) (fun I _ => K - (intOf I).toNat)
  case atStart => exact ⟨0, R0, by omega, rfl, hW0, hl0, fun j h => absurd h (Nat.not_lt_zero _), hown3, hT3, hR3, hB3⟩
  case round =>
    obtain ⟨k, R, hk, rfl, hWd, hRl, hall, hownR, hTs, hRs, hBr⟩ := hrel
    have HALL := Lib.hid hall
    have HRL := Lib.hid hRl
    clear hall hRl
    by_cases hlt : k < K
    · obtain ⟨q, hq⟩ : ∃ q : Nat, q = min (n - 64 * k) 64 := ⟨_, rfl⟩
      have hq64 : q ≤ 64 := by omega
      have hKn := HK.out
      have hqk : (q : Int) = min (max ((n : Int) - 64 * (k : Int)) 0) 64 := by omega
      have ql := fun W => lowest_any ((n : Int) - 64 * (k : Int)) q W hqk
      have hVl : 2 ^ q - 1 < 18446744073709551616 := by
        have : 2 ^ q ≤ 2 ^ 64 := Nat.pow_le_pow_right (by omega) hq64
        omega
      obtain ⟨V, hV⟩ : ∃ V, V = 2 ^ q - 1 := ⟨_, rfl⟩
      rw [← hV] at hVl
      simp only [← hV] at ql
      have hfin : ∀ j, j < k + 1 → wd (R.set k (V : Int)) j = 2 ^ (min (n - 64 * j) 64) - 1 := fun j hj => by
        rw [wd_set (by rw [HRL.out]; exact hlt)]
        by_cases h : j = k
        · rw [if_pos h, h, ← hq]; exact hV
        · rw [if_neg h]; exact HALL.out j (by omega)
      have hWd2 : Wds (R.set k (V : Int)) := hWd.set k ⟨by omega, by omega⟩
      have fW := hownR.frozenAt k
      have cW := hownR.cellAt k (by omega)
      rw [List.getElem?_map, List.getElem?_eq_getElem (by rw [HRL.out]; exact hlt)] at cW
      simp only [Option.map_some] at cW
      have hst := (hownR.stored k (.int .u64 (V : Int))).1
      rw [← List.map_set] at hst
      have hT4 := two_set hTs hsbg k (.int .u64 (V : Int))
      have hR4 := two_set hRs hrg k (.int .u64 (V : Int))
      have hB4 := hBr.setCell (p := ⟨g, k, none⟩) (Nat.le_of_lt hgw) (.int .u64 (V : Int))
      have i1 : (k : Int) < (K : Int) := by omega
      have hkb : k ≤ 1024 := by omega
      have ew1 : IntKind.i64.wrap (64 * (k : Int)) = 64 * (k : Int) := by rw [IntKind.wrap_i64]; omega
      have ew2 : IntKind.i64.wrap ((n : Int) - 64 * (k : Int)) = (n : Int) - 64 * (k : Int) := by rw [IntKind.wrap_i64]; omega
      have c1 := hTs.c1
      have HF := Lib.hid (And.intro hfin (And.intro hWd2 (And.intro hst (And.intro hT4 (And.intro hR4 hB4)))))
      clear hfin hWd2 hst hB4 hT4 hR4 hownR hTs hRs hBr hV hq hqk hKn
      go_wp2_with fail
      go_region_with ((go_at_call 64; refine (ql _).mono ?_; rintro e w9 ⟨rfl, hE9⟩; rw [hE9]; clear hE9))
      all_goals
        obtain ⟨hfin, hWd2, hst, hT4, hR4, hB4⟩ := HF.out
        go_wp2_with fail
        go_roundw
        case rel => exact ⟨k + 1, R.set k (V : Int), by omega, by go_num, hWd2, by rw [List.length_set]; exact HRL.out, hfin, hst, two_drew hT4, two_drew hR4, hB4.drew⟩
        case measure => simp [intOf]; omega
    · obtain rfl : k = K := by omega
      have hbt := ones_words HRL.out HK.out HALL.out
      have HF := Lib.hid hbt
      have c0 := hTs.c0
      have c1 := hTs.c1
      have q0 := hRs.c0
      have q1 := hRs.c1
      have q2 := hRs.f0
      have q3 := hRs.f1
      have hQ6 := hRs.range_set (.int .i64 (n : Int)) (.slice (some ⟨g, 0, none⟩) k k)
      have hB6 := (hBr.setCell (p := ⟨w.heap.size, 0, none⟩) (Nat.le_refl _) (.int .i64 (n : Int))).setCell (p := ⟨w.heap.size, 1, none⟩) (Nat.le_refl _) (.slice (some ⟨g, 0, none⟩) k k)
      have hown6 := own_base (own_set (own_set hownR w.heap.size 0 (.int .i64 (n : Int)) hgw) w.heap.size 1 (.slice (some ⟨g, 0, none⟩) k k) hgw) (Nat.le_of_lt hgw)
      clear hbt hTs hRs hownR hBr
      go_wp2_with fail
      refine bodyPost_cell1 rfl w.heap.size rfl _ _ hQ6 Tryd.underlying24 rfl (by kernel_rfl) rfl ?_
      exact ⟨some ⟨g, 0, none⟩, k, R, rfl, hown6, hWd, HF.out, hB6⟩

set_option maxRecDepth 100000 in
set_option maxHeartbeats 2000000 in
theorem notX_any (w : World) (N : Int) (a : Option Addr) (n c : Nat) (l : List Int) (h : SetIn w N a n c l) (hr : rightB N l = false) :
    Calls Tryd.prog 19 #[.agg #[.int .i64 N, .slice a n c]] w (SetX w 50) := by
  unfold SetX
  have qr := fun W (hb : Below w.heap.size w W) => right_any W N a n c l (h.below hb)
  simp only [hr] at qr
  obtain ⟨hS, hT⟩ := boxes w (.int .i64 N) (.slice a n c)
  clear h hr
  go_enter Tryd.func19, Tryd.ntmps19
  go_wp2_with fail
  refine (qr _ hS.1).mono ?_
  rintro e w2 ⟨rfl, hB2⟩
  have hS2 := hS.step hB2
  have hT2 := hT.step hB2
  have q0 := hT2.c0
  have q1 := hT2.c1
  have q2 := hT2.f0
  have q3 := hT2.f1
  have hQ3 := hT2.range_set (.int .i64 0) (.slice none 0 0)
  have hS3 := hS2.put (.int .i64 0) (.slice none 0 0)
  clear hS hT hB2
  go_wp2_with fail
  refine bodyPost_cell2 rfl (w.heap.size + 1) rfl _ _ hQ3 Tryd.underlying24 rfl (by kernel_rfl) rfl ?_
  exact ⟨none, 0, rfl, World.ownsRow_nil _ _ _ _, hS3.1⟩

set_option maxRecDepth 100000 in
set_option maxHeartbeats 4000000 in
theorem notOk_any (w : World) (N : Nat) (a : Option Addr) (n c : Nat) (l : List Int) (h : SetIn w N a n c l) (hr : rightB N l = true) :
    Calls Tryd.prog 19 #[.agg #[.int .i64 (N : Int), .slice a n c]] w (SetE w N fun j => decide (j < N) && !bt l j) := by
  unfold SetE
  have qr := fun W (hb : Below w.heap.size w W) => right_any W (N : Int) a n c l (h.below hb)
  have hNb : N ≤ 65536 := by have := (of_rightB hr).2.1; omega
  simp only [hr] at qr
  obtain ⟨hS, hT⟩ := boxes w (.int .i64 (N : Int)) (.slice a n c)
  go_enter Tryd.func19, Tryd.ntmps19
  go_wp2_with fail
  refine (qr _ hS.1).mono ?_
  rintro e w2 ⟨rfl, hB2⟩
  have hS2 := hS.step hB2
  have hT2 := hT.step hB2
  clear hS hT hB2
  go_wp2_with fail
  refine wp_region_noPanic ?_
  refine wp_region_held_drew (S := fun w' => Below w.heap.size w w' ∧ w'.cell? ⟨w.heap.size, 0, none⟩ = some (.int .i64 (N : Int)) ∧ w'.cell? ⟨w.heap.size, 1, none⟩ = some (.slice a n c)) (by kernel_rfl) (hS2.drew) (fun hHeld => ?_)
  refine wpAnyH_take (i := 0) (oi := { dst := some 8, op := Go.Op.fieldAddr 24 (Go.Operand.tmp 1) 0, type := 0, pos := "bits.go:148", after := #[], guard := none }) (v := ?v0x1) rfl (by kernel_rfl) (by kernel_rfl) (by kernel_rfl) (fun _ _ _ h => h) (Or.inl ⟨by rfl, ?hy0x1⟩) hHeld ?rest0x1
  case hy0x1 =>
    intro w hSw
    try dsimp only at hSw
    go_simp
    try with_reducible rfl
  try simp only [Act.put, List.setIfInBounds_toArray, List.set_cons_zero, List.set_cons_succ]
  refine wpAnyH_take (i := 1) (oi := { dst := some 9, op := Go.Op.load 3 (Go.Operand.tmp 8), type := 3, pos := "bits.go:148", after := #[{ on := 0, ground := Go.Ground.data }], guard := none }) (v := ?v1x2) rfl (by kernel_rfl) (by kernel_rfl) (by kernel_rfl) (fun _ _ _ h => h) (Or.inl ⟨by rfl, ?hy1x2⟩) hHeld ?rest1x2
  case hy1x2 =>
    intro w hSw
    try dsimp only at hSw
    go_simp
    try with_reducible rfl
  try simp only [Act.put, List.setIfInBounds_toArray, List.set_cons_zero, List.set_cons_succ]
  refine wpAnyH_take (i := 3) (oi := { dst := some 11, op := Go.Op.load 24 (Go.Operand.tmp 1), type := 24, pos := "bits.go:148", after := #[], guard := none }) (v := ?v3x3) rfl (by kernel_rfl) (by kernel_rfl) (by kernel_rfl) (fun _ _ _ h => h) (Or.inl ⟨by rfl, ?hy3x3⟩) hHeld ?rest3x3
  case hy3x3 =>
    intro w hSw
    try dsimp only at hSw
    go_simp
    try with_reducible rfl
  try simp only [Act.put, List.setIfInBounds_toArray, List.set_cons_zero, List.set_cons_succ]
  refine wpAnyH_ready (rs := [2]) (by kernel_rfl) (by simp) ?_
  refine AllReadyH.cons (o := { dst := some 10, op := Go.Op.call { callee := Go.Callee.value (Go.Operand.func 57), args := #[Go.Operand.tmp 9], argTypes := #[3] }, type := 24, pos := "bits.go:148", after := #[{ on := 1, ground := Go.Ground.data }], guard := none }) rfl (fun K hK => ?_) AllReadyH.nil
  go_simp
  refine (all_any _ N hNb).mono ?_
  rintro e w3 ⟨g, c3, R, rfl, hown, hWd, hbt, hD⟩
  have hS3 := hS2.drew.step hD
  have hT3 := (two_drew hT2).step hD
  have hRS : rightB (N : Int) R = true := rightB_yes (RightS.of hNb (by have h9 := hown.1; simpa using h9) (fun i hi => by rw [hbt i, decide_eq_false (by omega)]))
  have hin : SetIn w3 (N : Int) g ((N + 63) / 64) c3 R := ⟨own_sl hown, hWd, by omega, by omega, h.tab.step hS3.1⟩
  go_wp2_with fail
  refine hK.out _ _ (hS3) (fun hHeld => ?_)
  clear hK K
  try simp only [Act.put, List.setIfInBounds_toArray, List.set_cons_zero, List.set_cons_succ]
  refine wpAnyH_ready (rs := [4]) (by kernel_rfl) (by simp) ?_
  refine AllReadyH.cons (o := { dst := some 12, op := Go.Op.call { callee := Go.Callee.value (Go.Operand.func 32), args := #[Go.Operand.tmp 10, Go.Operand.tmp 11], argTypes := #[24, 24] }, type := 36, pos := "bits.go:148", after := #[{ on := 2, ground := Go.Ground.data }, { on := 3, ground := Go.Ground.data }, { on := 2, ground := Go.Ground.chain }], guard := none }) rfl (fun K hK => ?_) AllReadyH.nil
  go_simp
  refine (minusOk_any _ N g a ((N + 63) / 64) c3 n c R l hin (h.below hS3.1) hRS hr).mono ?_
  rintro e w4 ⟨g4, c4, R4, rfl, hown4, hWd4, hbt4, hD4⟩
  have hS4 := hS3.step hD4
  have hT4 := hT3.step hD4
  have q0 := hT4.c0
  have q1 := hT4.c1
  have q2 := hT4.f0
  have q3 := hT4.f1
  have hQ5 := hT4.range_set (.int .i64 (N : Int)) (.slice g4 ((N + 63) / 64) c4)
  have hS5 := hS4.put (.int .i64 (N : Int)) (.slice g4 ((N + 63) / 64) c4)
  have hsz2 : w.heap.size + 1 < w3.heap.size := hT3.lt
  have hown5 := own_set (own_set hown4 (w.heap.size + 1) 0 (.int .i64 (N : Int)) hsz2) (w.heap.size + 1) 1 (.slice g4 ((N + 63) / 64) c4) hsz2
  have hown6 := own_base hown5 hS3.1.size
  have hbt5 : ∀ i, bt R4 i = (decide (i < N) && !bt l i) := fun i => (hbt4 i).trans (by show (bt R i && !bt l i) = _; rw [hbt i])
  go_wp2_with fail
  refine hK.out _ _ (hS4) (fun hHeld => ?_)
  clear hK K
  try simp only [Act.put, List.setIfInBounds_toArray, List.set_cons_zero, List.set_cons_succ]
  refine wpAnyH_take (i := 5) (oi := { dst := some 13, op := Go.Op.extract (Go.Operand.tmp 12) 0, type := 24, pos := "bits.go:148", after := #[{ on := 4, ground := Go.Ground.data }], guard := none }) (v := ?v5x6) rfl (by kernel_rfl) (by kernel_rfl) (by kernel_rfl) (fun _ _ _ h => h) (Or.inl ⟨by rfl, ?hy5x6⟩) hHeld ?rest5x6
  case hy5x6 =>
    intro w hSw
    try dsimp only at hSw
    go_simp
    try with_reducible rfl
  try simp only [Act.put, List.setIfInBounds_toArray, List.set_cons_zero, List.set_cons_succ]
  refine wpAnyH_take (i := 6) (oi := { dst := some 14, op := Go.Op.extract (Go.Operand.tmp 12) 1, type := 35, pos := "bits.go:148", after := #[{ on := 4, ground := Go.Ground.data }], guard := none }) (v := ?v6x7) rfl (by kernel_rfl) (by kernel_rfl) (by kernel_rfl) (fun _ _ _ h => h) (Or.inl ⟨by rfl, ?hy6x7⟩) hHeld ?rest6x7
  case hy6x7 =>
    intro w hSw
    try dsimp only at hSw
    go_simp
    try with_reducible rfl
  try simp only [Act.put, List.setIfInBounds_toArray, List.set_cons_zero, List.set_cons_succ]
  refine wpAnyH_ready (rs := [7]) (by kernel_rfl) (by simp) ?_
  refine AllReadyH.cons (o := { dst := none, op := Go.Op.store 24 (Go.Operand.tmp 2) (Go.Operand.tmp 13), type := 0, pos := "bits.go:148", after := #[{ on := 5, ground := Go.Ground.data }, { on := 4, ground := Go.Ground.chain }, { on := 0, ground := Go.Ground.phase }, { on := 1, ground := Go.Ground.phase }, { on := 2, ground := Go.Ground.phase }, { on := 3, ground := Go.Ground.phase }, { on := 4, ground := Go.Ground.phase }, { on := 5, ground := Go.Ground.phase }, { on := 6, ground := Go.Ground.phase }], guard := none }) rfl (fun K hK => ?_) AllReadyH.nil
  go_simp
  refine hK.out _ _ (hS5) (fun hHeld => ?_)
  clear hK K
  try simp only [Act.put, List.setIfInBounds_toArray, List.set_cons_zero, List.set_cons_succ]
  refine wpAnyH_take (i := 8) (oi := { dst := some 3, op := Go.Op.assign (Go.Operand.tmp 14), type := 35, pos := "bits.go:148", after := #[{ on := 6, ground := Go.Ground.data }, { on := 7, ground := Go.Ground.chain }, { on := 0, ground := Go.Ground.phase }, { on := 1, ground := Go.Ground.phase }, { on := 2, ground := Go.Ground.phase }, { on := 3, ground := Go.Ground.phase }, { on := 4, ground := Go.Ground.phase }, { on := 5, ground := Go.Ground.phase }, { on := 6, ground := Go.Ground.phase }, { on := 7, ground := Go.Ground.phase }], guard := none }) (v := ?v8x9) rfl (by kernel_rfl) (by kernel_rfl) (by kernel_rfl) (fun _ _ _ h => h) (Or.inl ⟨by rfl, ?hy8x9⟩) hHeld ?rest8x9
  case hy8x9 =>
    intro w hSw
    try dsimp only at hSw
    go_simp
    try with_reducible rfl
  try simp only [Act.put, List.setIfInBounds_toArray, List.set_cons_zero, List.set_cons_succ]
  refine wpAnyH_done (by kernel_rfl) ?_ _
  refine NoPanic.normal ?_
  go_wp2_with fail
  refine bodyPost_cell2 rfl (w.heap.size + 1) rfl _ _ hQ5 Tryd.underlying24 rfl (by kernel_rfl) rfl ?_
  exact ⟨g4, c4, R4, rfl, hown6, hWd4, hbt5, hS5.1⟩
end Go.Proofs.YtcdjfgkjllonhaaDoor
