/-
  The laws' awake: the examples of the chapter come out as they should.
-/
import Derived.Test.YtcdjfgkjllonhaaDoorBzn
import Derived.Test.YtcdjfgkjllonhaaDoorBkt
import Derived.Test.YtcdjfgkjllonhaaDoorBku
namespace Go.Proofs.YtcdjfgkjllonhaaDoor
open Go.RowKit Go.Shelf

theorem Wds.of_dec {l : List Int} (h : (l.all fun x => decide (0 ≤ x) && decide (x < 18446744073709551616)) = true) : Wds l := fun x hx => by
  have := List.all_eq_true.1 h x hx
  simpa using this
/-- Two words that have just these bits. -/
theorem words_are {R S : List Int} {p : Nat → Bool} (hR : Wds R) (hl : R.length = S.length) (hb : ∀ i, bt R i = p i) (hS : Wds S) (hd : ∀ i, i < 64 * S.length → bt S i = p i) (ho : ∀ i, 64 * S.length ≤ i → p i = false) : R = S :=
  words_ext hl hR hS fun i => by
    rw [hb i]
    by_cases h : i < 64 * S.length
    · exact (hd i h).symm
    · rw [ho i (by omega), bt_out (by omega)]
theorem ex_of : ∀ i, i < 64 * ([10, 3] : List Int).length → bt [10, 3] i = ([1, 64, 65, 3] : List Int).contains (i : Int) := by decide +kernel
theorem ex_less : ∀ i, i < 64 * ([10, 2] : List Int).length → bt [10, 2] i = (bt [10, 3] i && !decide (i = 64)) := by decide +kernel
theorem ex_right : rightB 70 [10, 3] = true := rightB_yes (by decide +kernel)
theorem ex_wrong : rightB 70 [0, 64] = false := rightB_no (by decide +kernel)
theorem ex_all : all [10, 3] = [1, 3, 64, 65] := by decide +kernel
theorem ex_rank : rk [10, 3] 64 = 2 ∧ rk [10, 3] 1000 = 4 := by decide +kernel
theorem ex_runs : runs [10, 3] = [(1, 2), (3, 4), (64, 66)] := by decide +kernel
theorem ex_next : NextS [10, 3] 4 (some 64) := ⟨by decide, by decide +kernel, fun k h1 h2 => by
  have : ∀ k, k < 64 → 4 ≤ k → bt [10, 3] k = false := by decide +kernel
  exact this k h2 (by omega)⟩
theorem ex_before : BefS [10, 3] 64 (some 3) := ⟨by decide, by decide +kernel, fun k h1 h2 => by
  have : ∀ k, k < 64 → 3 < k → bt [10, 3] k = false := by decide +kernel
  exact this k (by omega) h1⟩

/-- Where the example's set lies. -/
structure AwS (w W : World) (sb : Nat) (g : Option Addr) (c : Nat) : Prop where
  bel : Below w.heap.size w W
  set : SetIn W 70 g 2 c [10, 3]
  two : Two W sb 24 (.int .i64 70) (.slice g 2 c)
theorem AwS.step {w W W' : World} {sb : Nat} {g : Option Addr} {c : Nat} (h : AwS w W sb g c) (hb : Below W.heap.size W W') : AwS w W' sb g c :=
  ⟨bstep h.bel hb, h.set.below hb, h.two.step hb⟩

set_option maxRecDepth 100000 in
set_option maxHeartbeats 8000000 in
theorem awake_any (w : World) (hT : Tbz w) : Calls Tryd.prog 13 #[] w fun e w' => e = .returned (.bool true) ∧ Below w.heap.size w w' := by
  have hL1 := (Blk.new .i64 3 w [1, 64, 65, 3]).sl (by decide)
  have hB1 : Below w.heap.size w (w.alloc (.cells (([1, 64, 65, 3] : List Int).map (Value.int .i64)).toArray 3)) := (Below.refl _ w).alloc (Nat.le_refl _) _
  have qo := of_any _ 70 (by omega) _ _ _ _ hL1
  simp only [List.map_cons, List.map_nil, List.length_cons, List.length_nil] at hB1 qo
  go_enter Tryd.func13, Tryd.ntmps13
  go_wp2_with fail
  refine qo.mono ?_
  rintro e w2 ⟨hok, _⟩
  obtain ⟨g, c2, R, rfl, hown, hWd, hbt, hB2⟩ := hok (by decide)
  have hRe : R = [10, 3] := words_are hWd (by have := hown.1; simpa using this) hbt (Wds.of_dec (by decide)) ex_of (fun i hi => by
    have hi : 128 ≤ i := hi
    simp only [List.contains_eq_mem, decide_eq_false_iff_not, List.mem_cons, List.not_mem_nil, or_false]
    omega)
  subst hRe
  clear qo hok hbt
  have hA : Below w2.heap.size w2 (w2.alloc (.cells #[.int .i64 70, .slice g 2 c2] 24)) := (Below.refl _ w2).alloc (Nat.le_refl _) _
  have hS0 : AwS w (w2.alloc (.cells #[.int .i64 70, .slice g 2 c2] 24)) w2.heap.size g c2 :=
    ⟨bstep (bstep hB1 hB2) hA, ⟨(own_sl hown).below hA, hWd, by omega, by omega, hT.step (bstep (bstep hB1 hB2) hA)⟩, Two.new _ _ _ _⟩
  have c0 := hS0.two.c0
  have c1 := hS0.two.c1
  have hL2 := (Blk.new .u64 30 (w2.alloc (.cells #[.int .i64 70, .slice g 2 c2] 24)) [10, 3]).sl (by decide)
  have hS1 := hS0.step ((Below.refl (w2.alloc (.cells #[.int .i64 70, .slice g 2 c2] 24)).heap.size (w2.alloc (.cells #[.int .i64 70, .slice g 2 c2] 24))).alloc (Nat.le_refl _) (.cells (([10, 3] : List Int).map (Value.int .u64)).toArray 30))
  rw [World.size_alloc] at hL2
  simp only [List.map_cons, List.map_nil, List.length_cons, List.length_nil] at hL2 hS1
  have q1 := sameNums_yes _ _ _ _ _ _ _ _ _ hS1.set.sl hL2 rfl
  clear hA hown hB2 hB1 hL1 hT hS0 hL2
  go_wp2_with fail
  refine q1.mono ?_
  rintro e w4 ⟨rfl, hD⟩
  have hS2 := hS1.step hD.below
  obtain ⟨sb, hsb⟩ : ∃ b, b = w2.heap.size := ⟨_, rfl⟩
  rw [← hsb] at hS2 ⊢
  clear hS1 q1 hD c0 c1 hsb
  have c0 := hS2.two.c0
  have c1 := hS2.two.c1
  have q := count_any w4 70 g 2 c2 [10, 3] hS2.set
  rw [ef_yes ex_right, ex_all] at q
  go_wp2_with fail
  refine q.mono ?_
  rintro e w5 ⟨rfl, hD⟩
  have hS3 := hS2.step hD
  clear hS2 q hD c0 c1
  have c0 := hS3.two.c0
  have c1 := hS3.two.c1
  have q := rank_any w5 70 64 g 2 c2 [10, 3] hS3.set (by omega) (by omega)
  rw [ef_yes ex_right, show (64 : Int).toNat = 64 from rfl, ex_rank.1] at q
  go_wp2_with fail
  refine q.mono ?_
  rintro e w6 ⟨rfl, hD⟩
  have hS4 := hS3.step hD
  clear hS3 q hD c0 c1
  have c0 := hS4.two.c0
  have c1 := hS4.two.c1
  have q := rank_any w6 70 1000 g 2 c2 [10, 3] hS4.set (by omega) (by omega)
  rw [ef_yes ex_right, show (1000 : Int).toNat = 1000 from rfl, ex_rank.2] at q
  go_wp2_with fail
  refine q.mono ?_
  rintro e w7 ⟨rfl, hD⟩
  have hS5 := hS4.step hD
  clear hS4 q hD c0 c1
  have c0 := hS5.two.c0
  have c1 := hS5.two.c1
  have q := select_any w7 70 3 g 2 c2 [10, 3] hS5.set (by omega) (by omega)
  rw [ef_yes ex_right, show selF [10, 3] 3 = some 65 by unfold selF; rw [ex_all]; rfl] at q
  simp only [pairV] at q
  go_wp2_with fail
  refine q.mono ?_
  rintro e w8 ⟨rfl, hD⟩
  have hS6 := hS5.step hD
  clear hS5 q hD c0 c1
  have c0 := hS6.two.c0
  have c1 := hS6.two.c1
  have q := next_any w8 70 4 g 2 c2 [10, 3] hS6.set (by omega) (by omega)
  rw [ef_yes ex_right] at q
  go_wp2_with fail
  refine q.mono ?_
  rintro e w9 ⟨⟨r, hr, rfl⟩, hD⟩
  obtain rfl := hr.same ex_next
  have hS7 := hS6.step hD
  clear hS6 q hD c0 c1 hr
  have c0 := hS7.two.c0
  have c1 := hS7.two.c1
  have q := before_any w9 70 64 g 2 c2 [10, 3] hS7.set (by omega) (by omega)
  rw [ef_yes ex_right] at q
  simp only [pairV]
  go_wp2_with fail
  refine q.mono ?_
  rintro e w10 ⟨⟨r, hr, rfl⟩, hD⟩
  obtain rfl := hr.same ex_before
  have hS8 := hS7.step hD
  clear hS7 q hD c0 c1 hr
  have c0 := hS8.two.c0
  have c1 := hS8.two.c1
  have q := runs_any w10 70 g 2 c2 [10, 3] hS8.set
  rw [ef_yes ex_right, ex_runs] at q
  simp only [pairV]
  go_wp2_with fail
  refine q.mono ?_
  rintro e w11 ⟨ga, gc, rfl, hrow, hD⟩
  have hS9 := hS8.step hD
  clear hS8 q hD c0 c1
  have hA : Below w11.heap.size w11 (w11.alloc (.cells #[.int .i64 1, .int .i64 2, .int .i64 3, .int .i64 4, .int .i64 64, .int .i64 66] 50)) := (Below.refl _ w11).alloc (Nat.le_refl _) _
  have hrow2 := ownsRow_below hrow hA
  have hlit := World.ownsRow_lit (base := w11.heap.size) (e := 50) (size := 2) w11 #[.int .i64 1, .int .i64 2, .int .i64 3, .int .i64 4, .int .i64 64, .int .i64 66] 3 (Nat.le_refl _) (by decide) rfl
  have hSA := hS9.step hA
  have q1 := sameRuns_any _ _ _ _ _ _ _ _ _ _ [(1, 2), (3, 4), (64, 66)] hrow2 hlit (by decide)
  rw [eqR_yes rfl] at q1
  clear hrow hrow2 hlit hA hS9
  go_wp2_with fail
  refine q1.mono ?_
  rintro e w12 ⟨rfl, hD⟩
  have hS10 := hSA.step hD.below
  clear hSA q1 hD
  have c0 := hS10.two.c0
  have c1 := hS10.two.c1
  have q := withoutOk_any w12 70 64 g 2 c2 [10, 3] hS10.set ex_right (by omega)
  unfold SetE at q
  go_wp2_with fail
  refine q.mono ?_
  rintro e w13 ⟨g3, c3, R, rfl, hown, hWd, hbt, hD⟩
  have hRe : R = [10, 2] := words_are hWd (by have := hown.1; simpa using this) hbt (Wds.of_dec (by decide)) ex_less (fun i hi => by
    have hi : 128 ≤ i := hi
    rw [bt_out (l := [10, 3]) (by show 128 ≤ i; omega), Bool.false_and])
  subst hRe
  have hS11 := hS10.step hD
  clear hS10 q hD c0 c1 hbt
  have hA : Below w13.heap.size w13 (w13.alloc (.cells #[.int .i64 70, .slice g3 2 c3] 24)) := (Below.refl _ w13).alloc (Nat.le_refl _) _
  have hS12 := hS11.step hA
  have hL := Two.new w13 24 (.int .i64 70) (.slice g3 2 c3)
  have hLS : Sl .u64 _ g3 2 c3 [10, 2] := (own_sl hown).below hA
  have q := newOk_any (w13.alloc (.cells #[.int .i64 70, .slice g3 2 c3] 24)) 71 (by omega)
  unfold SetE at q
  clear hS11 hA hown
  go_wp2_with fail
  refine q.mono ?_
  rintro e w14 ⟨g4, c4, R4, rfl, hown4, hWd4, hbt4, hD⟩
  obtain ⟨sl, hsl⟩ : ∃ b, b = w13.heap.size := ⟨_, rfl⟩
  have hS13 := hS12.step hD
  have hL13 := hL.step hD
  have hLS13 := hLS.below hD
  rw [← hsl] at hL13 ⊢
  clear hS12 hL hLS q hD hsl
  have hA : Below w14.heap.size w14 (w14.alloc (.cells #[.int .i64 71, .slice g4 2 c4] 24)) := (Below.refl _ w14).alloc (Nat.le_refl _) _
  have hS14 := hS13.step hA
  have hL14 := hL13.step hA
  have hLS14 := hLS13.below hA
  have hR14 : SetIn _ 71 g4 2 c4 R4 := ⟨(own_sl hown4).below hA, hWd4, by omega, by omega, hS14.set.tab⟩
  have hrt : rightB 71 R4 = true := rightB_yes (RightS.of (N := 71) (by omega) (by have := hown4.1; simpa using this) (fun i _ => hbt4 i))
  have q := orX_any _ 70 71 51 g g4 2 c2 2 c4 [10, 3] R4 hS14.set hR14 (fun W ha hb => orC_x2 W 70 71 g g4 2 c2 2 c4 [10, 3] R4 ha hb ex_right hrt (by decide))
  unfold SetX at q
  have c0 := hS14.two.c0
  have c1 := hS14.two.c1
  clear hS13 hL13 hLS13 hA hown4 hbt4 hrt hWd4 hR14
  go_wp2_with fail
  refine q.mono ?_
  rintro e w15 ⟨g5, c5, rfl, _, hD⟩
  have hS15 := hS14.step hD
  have hL15 := hL14.step hD
  have hLS15 := hLS14.below hD
  clear hS14 hL14 hLS14 q hD c0 c1
  have hA : Below w15.heap.size w15 (w15.alloc (.cells #[.int .i64 0, .slice g5 0 c5] 24)) := (Below.refl _ w15).alloc (Nat.le_refl _) _
  have hS16 := hS15.step hA
  have hL16 := hL15.step hA
  have hLS16 := hLS15.below hA
  have c0 := hL16.c0
  have c1 := hL16.c1
  clear hS15 hL15 hLS15 hA
  have hA : Below (w15.alloc (.cells #[.int .i64 0, .slice g5 0 c5] 24)).heap.size (w15.alloc (.cells #[.int .i64 0, .slice g5 0 c5] 24)) ((w15.alloc (.cells #[.int .i64 0, .slice g5 0 c5] 24)).alloc (.cells #[.int .u64 10, .int .u64 2] 30)) := (Below.refl _ _).alloc (Nat.le_refl _) _
  have hL2 := (Blk.new .u64 30 (w15.alloc (.cells #[.int .i64 0, .slice g5 0 c5] 24)) [10, 2]).sl (by decide)
  rw [World.size_alloc] at hL2
  simp only [List.map_cons, List.map_nil, List.length_cons, List.length_nil] at hL2
  have hS17 := hS16.step hA
  have q1 := sameNums_yes _ _ _ _ _ _ _ _ _ (hLS16.below hA) hL2 rfl
  clear hS16 hL16 hLS16 hA hL2
  go_wp2_with fail
  refine q1.mono ?_
  rintro e w16 ⟨rfl, hD⟩
  have hS18 := hS17.step hD.below
  clear hS17 q1 hD c0 c1
  have hA : Below w16.heap.size w16 (w16.alloc (.cells #[.int .u64 0, .int .u64 64] 30)) := (Below.refl _ w16).alloc (Nat.le_refl _) _
  have hL2 := (Blk.new .u64 30 w16 [0, 64]).sl (by decide)
  have hS19 := hS18.step hA
  simp only [List.map_cons, List.map_nil, List.length_cons, List.length_nil] at hL2
  have q1 := right_any _ 70 _ 2 2 [0, 64] ⟨hL2, Wds.of_dec (by decide), by omega, by omega, hS19.set.tab⟩
  rw [ex_wrong] at q1
  clear hS18 hL2 hA
  go_wp2_with fail
  refine q1.mono ?_
  rintro e w17 ⟨rfl, hD⟩
  have hS20 := hS19.step hD
  clear hS19 q1 hD
  go_wp2_with fail
  go_ret
  exact ⟨rfl, hS20.bel⟩
end Go.Proofs.YtcdjfgkjllonhaaDoor
