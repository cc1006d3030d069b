/-
  The contracts of bits' together and combine with each of the three closures, and of Or, And and Minus.
-/
import Derived.Test.YtcdjfgkjllonhaaDoorBzl
namespace Go.Proofs.YtcdjfgkjllonhaaDoor
open Go.RowKit Go.Shelf

/-- Words that are put together, bit by bit. -/
theorem put_words {la lb R : List Int} {n : Nat} {F : Nat → Nat → Nat} {f : Bool → Bool → Bool} (hla : la.length = n) (hlb : lb.length = n) (hR : R.length = n) (hF : ∀ x y i, i < 64 → (F x y).testBit i = f (x.testBit i) (y.testBit i)) (hf : f false false = false)
    (h : ∀ j, j < n → wd R j = F (wd la j) (wd lb j)) : ∀ i, bt R i = f (bt la i) (bt lb i) := fun i => by
  by_cases hi : i / 64 < n
  · have e : ∀ l : List Int, bt l i = (wd l (i / 64)).testBit (i % 64) := fun l => rfl
    rw [e, e, e, h _ hi, hF _ _ _ (Nat.mod_lt _ (by omega))]
  · rw [bt_out (l := R) (by omega), bt_out (l := la) (by omega), bt_out (l := lb) (by omega), hf]
theorem wd_set {R : List Int} {j V : Nat} (hj : j < R.length) (k : Nat) : wd (R.set j (V : Int)) k = if k = j then V else wd R k := by
  unfold wd
  by_cases h : k = j
  · subst h; rw [if_pos rfl, List.getElem?_set_self hj]; simp
  · rw [if_neg h, List.getElem?_set_ne (fun e => h e.symm)]
/-- Where two sets lie boxed, and what lay before. -/
def K2 (w0 : World) (x0 x1 y0 y1 : Value) (w' : World) : Prop := Below w0.heap.size w0 w' ∧ (w'.cell? ⟨w0.heap.size, 0, none⟩ = some x0 ∧ w'.cell? ⟨w0.heap.size, 1, none⟩ = some x1) ∧ (w'.cell? ⟨w0.heap.size + 1, 0, none⟩ = some y0 ∧ w'.cell? ⟨w0.heap.size + 1, 1, none⟩ = some y1)
theorem K2.drew {w0 : World} {x0 x1 y0 y1 : Value} {w' : World} (h : K2 w0 x0 x1 y0 y1 w') : K2 w0 x0 x1 y0 y1 w'.drew := ⟨h.1.drew, h.2⟩
theorem cell_keep {w w' : World} {p : Addr} {v : Value} (h : w.cell? p = some v) (hb : Below w.heap.size w w') : w'.cell? p = some v := (hb.cell (World.block_lt_of_cell? _ _ h)).trans h
theorem K2.step {w0 : World} {x0 x1 y0 y1 : Value} {w' w2 : World} (h : K2 w0 x0 x1 y0 y1 w') (hb : Below w'.heap.size w' w2) : K2 w0 x0 x1 y0 y1 w2 :=
  ⟨bstep h.1 hb, ⟨cell_keep h.2.1.1 hb, cell_keep h.2.1.2 hb⟩, ⟨cell_keep h.2.2.1 hb, cell_keep h.2.2.2 hb⟩⟩
theorem cell_far {w : World} {g o b q : Nat} {u v : Value} (h : w.cell? ⟨b, q, none⟩ = some v) (hne : b ≠ g) : (w.setCell ⟨g, o, none⟩ u).cell? ⟨b, q, none⟩ = some v :=
  (World.cell?_setCell_other (w := w) (a := ⟨g, o, none⟩) (b := ⟨b, q, none⟩) (v := u) (fun e => hne (by cases e; rfl))).trans h
theorem K2.put {w0 : World} {x0 x1 y0 y1 : Value} {w' : World} (h : K2 w0 x0 x1 y0 y1 w') (x y : Value) : K2 w0 x0 x1 y0 y1 ((w'.setCell ⟨w0.heap.size + 1 + 1, 0, none⟩ x).setCell ⟨w0.heap.size + 1 + 1, 1, none⟩ y) :=
  ⟨(h.1.setCell (p := ⟨w0.heap.size + 1 + 1, 0, none⟩) (by show w0.heap.size ≤ w0.heap.size + 1 + 1; omega) x).setCell (p := ⟨w0.heap.size + 1 + 1, 1, none⟩) (by show w0.heap.size ≤ w0.heap.size + 1 + 1; omega) y,
   ⟨cell_far (cell_far h.2.1.1 (by omega)) (by omega), cell_far (cell_far h.2.1.2 (by omega)) (by omega)⟩, ⟨cell_far (cell_far h.2.2.1 (by omega)) (by omega), cell_far (cell_far h.2.2.2 (by omega)) (by omega)⟩⟩
theorem boxes2 (w : World) (x0 x1 y0 y1 : Value) : K2 w x0 x1 y0 y1 (((w.alloc (.cells #[x0, x1] 24)).alloc (.cells #[y0, y1] 24)).alloc (.cells #[.int .i64 0, .slice none 0 0] 24)) ∧ Two (((w.alloc (.cells #[x0, x1] 24)).alloc (.cells #[y0, y1] 24)).alloc (.cells #[.int .i64 0, .slice none 0 0] 24)) (w.heap.size + 1 + 1) 24 (.int .i64 0) (.slice none 0 0) := by
  have h1 := ((Two.new w 24 x0 x1).alloc (.cells #[y0, y1] 24)).alloc (.cells #[.int .i64 0, .slice none 0 0] 24)
  have h2 := (Two.new2 w (.cells #[x0, x1] 24) 24 y0 y1).alloc (.cells #[.int .i64 0, .slice none 0 0] 24)
  have h3 := Two.new2 (w.alloc (.cells #[x0, x1] 24)) (.cells #[y0, y1] 24) 24 (.int .i64 0) (.slice none 0 0)
  rw [World.size_alloc] at h3
  exact ⟨⟨(((Below.refl _ w).alloc (Nat.le_refl _) _).alloc (by rw [World.size_alloc]; omega) _).alloc (by rw [World.size_alloc, World.size_alloc]; omega) _, ⟨h1.c0, h1.c1⟩, ⟨h2.c0, h2.c1⟩⟩, h3⟩

theorem orF_any (x y : Nat) (w : World) (hx : x < 18446744073709551616) (hy : y < 18446744073709551616) : Calls Tryd.prog 68 #[.int .u64 (x : Int), .int .u64 (y : Int)] w fun e w' => e = .returned (.int .u64 ((x ||| y : Nat) : Int)) ∧ w' = w := by
  have h := bits_or_nat x y hx hy
  clear hx hy
  go_enter Tryd.func68, Tryd.ntmps68
  go_wp2_with fail
  go_ret
  exact ⟨by first | rfl | exact ret_num h, rfl⟩

set_option maxRecDepth 100000 in
set_option maxHeartbeats 8000000 in
theorem orT_any (w : World) (a b : Option Addr) (n c d : Nat) (la lb : List Int) (ha : Sl .u64 w a n c la) (hb : Sl .u64 w b n d lb) (hwa : Wds la) (hwb : Wds lb) (hn : n ≤ 1024) :
    Calls Tryd.prog 77 #[.slice a n c, .slice b n d, .func (.func 68) #[] #[]] w fun e w' => ∃ g c' R, e = .returned (.slice g n c') ∧ w'.ownsRow w.heap.size 30 1 (.slice g n c') n (R.map (Value.int .u64)) ∧ Wds R ∧ (∀ i, bt R i = (bt la i || bt lb i)) ∧ Below w.heap.size w w' := by
  obtain ⟨i0, hinf, hz0, hz1, hz2⟩ := info_parts infoU
  have hla := ha.1
  have hlb := hb.1
  have hac := ha.2.1
  have hbc := hb.2.1
  have hac2 := ha.2.2.1
  have hbc2 := hb.2.2.1
  have HLA := Lib.hid hla
  have HLB := Lib.hid hlb
  clear hla hlb
  go_enter Tryd.func77, Tryd.ntmps77
  go_wp2_with (at_make; refine wpList_make_full _ rfl _ _ 22 rfl w.heap.size 30 i0 (.int .u64 0) 1 Tryd.underlying22 hinf hz0 hz1 .i64 .i64 _ _ n rfl rfl rfl rfl (by rw [hz2]; omega) (by unfold maxLen; omega) (Nat.le_refl _) ?_)
  intro w1 hown hgrow
  have hB1 : Below w.heap.size w w1 := (Below.refl _ _).grown hgrow (Nat.le_refl _) (fun _ hk => by cases hk)
  rw [made_zerosU] at hown
  have hl0 : (List.replicate n (0 : Int)).length = n := List.length_replicate
  have hW0 := Wds.zeros n
  obtain ⟨R0, hR0⟩ : ∃ R : List Int, R = List.replicate n 0 := ⟨_, rfl⟩
  rw [← hR0] at hown hl0 hW0
  obtain ⟨g, hg⟩ : ∃ g, g = w.heap.size := ⟨_, rfl⟩
  have hgw : w.heap.size ≤ g := by omega
  rw [← hg] at hown ⊢
  rw [hg] at hown
  clear hR0 hgrow
  have hown : w1.ownsRow w.heap.size 30 1 (.slice (some ⟨g, 0, none⟩) n n) n (R0.map (Value.int .u64)) := by rw [hg]; exact hown
  clear hg
  go_wp2_with fail
  go_loopw [14] (fun I wr => ∃ (k : Nat) (R : List Int), k ≤ n ∧ I = .int .i64 (k : Int) ∧ Wds R ∧ R.length = n ∧ (∀ j, j < k → wd R j = (fun x y => x ||| y) (wd la j) (wd lb j)) ∧ wr.ownsRow w.heap.size 30 1 (.slice (some ⟨g, 0, none⟩) n n) n (R.map (Value.int .u64)) ∧ Below w.heap.size w wr) (fun I _ => n - (intOf I).toNat)
  case atStart => exact ⟨0, R0, by omega, rfl, hW0, hl0, fun j h => absurd h (Nat.not_lt_zero _), hown, hB1⟩
  case round =>
    obtain ⟨k, R, hk, rfl, hWd, hRl, hall, hownR, hBr⟩ := hrel
    have HALL := Lib.hid hall
    have HRL := Lib.hid hRl
    clear hall hRl
    by_cases hlt : k < n
    · obtain ⟨ab, ao, rfl, hca⟩ := (ha.below hBr).view (by omega)
      obtain ⟨bb, bo, rfl, hcb⟩ := (hb.below hBr).view (by omega)
      have hxa := hca k hlt
      have hxb := hcb k hlt
      rw [wd_eq hwa k] at hxa
      rw [wd_eq hwb k] at hxb
      have hx := wd_lt hwa k
      have hy := wd_lt hwb k
      obtain ⟨x, hxe⟩ : ∃ x, x = wd la k := ⟨_, rfl⟩
      obtain ⟨y, hye⟩ : ∃ y, y = wd lb k := ⟨_, rfl⟩
      rw [← hxe] at hxa hx
      rw [← hye] at hxb hy
      have qf := fun W => orF_any x y W hx hy
      have hVl : x ||| y < 18446744073709551616 := Nat.or_lt_two_pow (n := 64) hx hy
      obtain ⟨V, hV⟩ : ∃ V, V = x ||| y := ⟨_, rfl⟩
      rw [← hV] at hVl
      simp only [← hV] at qf
      have hfin : ∀ j, j < k + 1 → wd (R.set k (V : Int)) j = (fun x y => x ||| y) (wd la j) (wd lb j) := fun j hj => by
        rw [wd_set (by rw [HRL.out]; exact hlt)]
        by_cases h : j = k
        · rw [if_pos h, h, ← hxe, ← hye]; exact hV
        · rw [if_neg h]; exact HALL.out j (by omega)
      have hWd2 : Wds (R.set k (V : Int)) := hWd.set k ⟨by omega, by omega⟩
      have fW := hownR.frozenAt k
      have cW := hownR.cellAt k (by omega)
      rw [List.getElem?_map, List.getElem?_eq_getElem (by rw [HRL.out]; exact hlt)] at cW
      simp only [Option.map_some] at cW
      have hst := (hownR.stored k (.int .u64 (V : Int))).1
      rw [← List.map_set] at hst
      have hB4 := hBr.setCell (p := ⟨g, k, none⟩) hgw (.int .u64 (V : Int))
      have i1 : (k : Int) < (n : Int) := by omega
      have HF := Lib.hid (And.intro hfin (And.intro hWd2 (And.intro hst hB4)))
      clear hfin hWd2 hst hB4 hownR hBr hV hxe hye hca hcb
      go_wp2_with fail
      go_region_with ((go_at_call 68; refine (qf _).mono ?_; rintro e w9 ⟨rfl, hE9⟩; rw [hE9]; clear hE9))
      all_goals
        obtain ⟨hfin, hWd2, hst, hB4⟩ := HF.out
        go_wp2_with fail
        go_roundw
        case rel => exact ⟨k + 1, R.set k (V : Int), by omega, by go_num, hWd2, by rw [List.length_set]; exact HRL.out, hfin, hst, hB4.drew⟩
        case measure => simp [intOf]; omega
    · obtain rfl : k = n := by omega
      have hbt := put_words (F := fun x y => x ||| y) (f := fun a b => a || b) HLA.out HLB.out HRL.out (fun x y i hi => Nat.testBit_or ..) rfl HALL.out
      have HF := Lib.hid hbt
      clear hbt
      go_wp2_with fail
      go_ret
      exact ⟨_, k, rfl, R, hownR, hWd, HF.out, hBr⟩

set_option maxRecDepth 100000 in
set_option maxHeartbeats 4000000 in
theorem orC_ok (w : World) (N : Int) (a b : Option Addr) (n c d : Nat) (la lb : List Int) (ha : SetIn w N a n c la) (hb : SetIn w N b n d lb) (hra : rightB N la = true) (hrb : rightB N lb = true) :
    Calls Tryd.prog 67 #[.agg #[.int .i64 N, .slice a n c], .agg #[.int .i64 N, .slice b n d], .func (.func 68) #[] #[]] w fun e w' => ∃ g c' R, e = .returned (.tuple #[.agg #[.int .i64 N, .slice g n c'], .int .i64 0]) ∧ w'.ownsRow w.heap.size 30 1 (.slice g n c') n (R.map (Value.int .u64)) ∧ Wds R ∧ (∀ i, bt R i = (bt la i || bt lb i)) ∧ Below w.heap.size w w' := by
  have hnb : n ≤ 1024 := by
    have h1 := (of_rightB hra).2.1
    have h2 := (of_rightB hra).2.2.1
    have h3 := ha.sl.1
    omega
  have qa := fun W (hw : Below w.heap.size w W) => right_any W N a n c la (ha.below hw)
  have qb := fun W (hw : Below w.heap.size w W) => right_any W N b n d lb (hb.below hw)
  have qt := fun W (hw : Below w.heap.size w W) => orT_any W a b n c d la lb (ha.sl.below hw) (hb.sl.below hw) ha.wds hb.wds hnb
  simp only [hra] at qa
  simp only [hrb] at qb
  obtain ⟨hS, hT⟩ := boxes2 w (.int .i64 N) (.slice a n c) (.int .i64 N) (.slice b n d)
  have hne : (N != N) = false := by simp
  clear ha hb hra hrb hnb
  go_enter Tryd.func67, Tryd.ntmps67
  go_wp2_with fail
  refine (qa _ hS.1).mono ?_
  rintro e w2 ⟨rfl, hB2⟩
  have hS2 := hS.step hB2
  have hT2 := hT.step hB2
  have k0 := hS2.2.2.1
  have k1 := hS2.2.2.2
  clear hS hT hB2
  go_wp2_with fail
  refine (qb _ hS2.1).mono ?_
  rintro e w3 ⟨rfl, hB3⟩
  have hS3 := hS2.step hB3
  have hT3 := hT2.step hB3
  have k0 := hS3.2.2.1
  have j0 := hS3.2.1.1
  clear hS2 hT2 hB3
  go_wp2_with fail
  refine wp_region_noPanic ?_
  refine wp_region_held_drew (S := fun w' => Below w.heap.size w w' ∧ (w'.cell? ⟨w.heap.size, 0, none⟩ = some (.int .i64 N) ∧ w'.cell? ⟨w.heap.size, 1, none⟩ = some (.slice a n c)) ∧ (w'.cell? ⟨w.heap.size + 1, 0, none⟩ = some (.int .i64 N) ∧ w'.cell? ⟨w.heap.size + 1, 1, none⟩ = some (.slice b n d))) (by kernel_rfl) (hS3.drew) (fun hHeld => ?_)
  refine wpAnyH_take (i := 0) (oi := { dst := some 25, op := Go.Op.fieldAddr 24 (Go.Operand.tmp 3) 0, type := 0, pos := "bits.go:236", after := #[], guard := none }) (v := ?v0or) rfl (by kernel_rfl) (by kernel_rfl) (by kernel_rfl) (fun _ _ _ h => h) (Or.inl ⟨by rfl, ?hy0or⟩) hHeld ?rest0or
  case hy0or =>
    intro w hSw
    try dsimp only at hSw
    go_simp
    try with_reducible rfl
  try simp only [Act.put, List.setIfInBounds_toArray, List.set_cons_zero, List.set_cons_succ]
  refine wpAnyH_take (i := 1) (oi := { dst := some 26, op := Go.Op.load 3 (Go.Operand.tmp 25), type := 3, pos := "bits.go:236", after := #[{ on := 0, ground := Go.Ground.data }], guard := none }) (v := ?v1or) rfl (by kernel_rfl) (by kernel_rfl) (by kernel_rfl) (fun _ _ _ h => h) (Or.inl ⟨by rfl, ?hy1or⟩) hHeld ?rest1or
  case hy1or =>
    intro w hSw
    try dsimp only at hSw
    go_simp
    try with_reducible rfl
  try simp only [Act.put, List.setIfInBounds_toArray, List.set_cons_zero, List.set_cons_succ]
  refine wpAnyH_take (i := 2) (oi := { dst := some 27, op := Go.Op.fieldAddr 24 (Go.Operand.tmp 3) 1, type := 0, pos := "bits.go:236", after := #[], guard := none }) (v := ?v2or) rfl (by kernel_rfl) (by kernel_rfl) (by kernel_rfl) (fun _ _ _ h => h) (Or.inl ⟨by rfl, ?hy2or⟩) hHeld ?rest2or
  case hy2or =>
    intro w hSw
    try dsimp only at hSw
    go_simp
    try with_reducible rfl
  try simp only [Act.put, List.setIfInBounds_toArray, List.set_cons_zero, List.set_cons_succ]
  refine wpAnyH_take (i := 3) (oi := { dst := some 28, op := Go.Op.load 22 (Go.Operand.tmp 27), type := 22, pos := "bits.go:236", after := #[{ on := 2, ground := Go.Ground.data }], guard := none }) (v := ?v3or) rfl (by kernel_rfl) (by kernel_rfl) (by kernel_rfl) (fun _ _ _ h => h) (Or.inl ⟨by rfl, ?hy3or⟩) hHeld ?rest3or
  case hy3or =>
    intro w hSw
    try dsimp only at hSw
    go_simp
    try with_reducible rfl
  try simp only [Act.put, List.setIfInBounds_toArray, List.set_cons_zero, List.set_cons_succ]
  refine wpAnyH_take (i := 4) (oi := { dst := some 29, op := Go.Op.fieldAddr 24 (Go.Operand.tmp 4) 1, type := 0, pos := "bits.go:236", after := #[], guard := none }) (v := ?v4or) rfl (by kernel_rfl) (by kernel_rfl) (by kernel_rfl) (fun _ _ _ h => h) (Or.inl ⟨by rfl, ?hy4or⟩) hHeld ?rest4or
  case hy4or =>
    intro w hSw
    try dsimp only at hSw
    go_simp
    try with_reducible rfl
  try simp only [Act.put, List.setIfInBounds_toArray, List.set_cons_zero, List.set_cons_succ]
  refine wpAnyH_take (i := 5) (oi := { dst := some 30, op := Go.Op.load 22 (Go.Operand.tmp 29), type := 22, pos := "bits.go:236", after := #[{ on := 4, ground := Go.Ground.data }], guard := none }) (v := ?v5or) rfl (by kernel_rfl) (by kernel_rfl) (by kernel_rfl) (fun _ _ _ h => h) (Or.inl ⟨by rfl, ?hy5or⟩) hHeld ?rest5or
  case hy5or =>
    intro w hSw
    try dsimp only at hSw
    go_simp
    try with_reducible rfl
  try simp only [Act.put, List.setIfInBounds_toArray, List.set_cons_zero, List.set_cons_succ]
  refine wpAnyH_take (i := 6) (oi := { dst := some 31, op := Go.Op.move (Go.Operand.tmp 2), type := 88, pos := "bits.go:236", after := #[], guard := none }) (v := ?v6or) rfl (by kernel_rfl) (by kernel_rfl) (by kernel_rfl) (fun _ _ _ h => h) (Or.inl ⟨by rfl, ?hy6or⟩) hHeld ?rest6or
  case hy6or =>
    intro w hSw
    try dsimp only at hSw
    go_simp
    try with_reducible rfl
  try simp only [Act.put, List.setIfInBounds_toArray, List.set_cons_zero, List.set_cons_succ]
  refine wpAnyH_ready (rs := [7]) (by kernel_rfl) (by simp) ?_
  refine AllReadyH.cons (o := { dst := some 32, op := Go.Op.call { callee := Go.Callee.value (Go.Operand.func 77), args := #[Go.Operand.tmp 28, Go.Operand.tmp 30, Go.Operand.tmp 31], argTypes := #[22, 22, 88] }, type := 22, pos := "bits.go:236", after := #[{ on := 3, ground := Go.Ground.data }, { on := 5, ground := Go.Ground.data }, { on := 6, ground := Go.Ground.data }], guard := none }) rfl (fun K hK => ?_) AllReadyH.nil
  go_simp
  refine (qt _ hS3.drew.1).mono ?_
  rintro e w4 ⟨g, c4, R, rfl, hown, hWd, hbt, hD⟩
  have hS4 := hS3.drew.step hD
  have hT4 := (two_drew hT3).step hD
  have q0 := hT4.c0
  have q1 := hT4.c1
  have q2 := hT4.f0
  have q3 := hT4.f1
  have hQ5 := hT4.range_set (.int .i64 N) (.slice g n c4)
  have hS5 := hS4.put (.int .i64 N) (.slice g n c4)
  have hsz2 : w.heap.size + 1 + 1 < w3.drew.heap.size := hT3.lt
  have hown5 := own_set (own_set hown (w.heap.size + 1 + 1) 0 (.int .i64 N) hsz2) (w.heap.size + 1 + 1) 1 (.slice g n c4) hsz2
  have hown6 := own_base hown5 hS3.1.size
  go_wp2_with fail
  refine hK.out _ _ (hS4) (fun hHeld => ?_)
  clear hK K
  try simp only [Act.put, List.setIfInBounds_toArray, List.set_cons_zero, List.set_cons_succ]
  refine wpAnyH_take (i := 8) (oi := { dst := some 33, op := Go.Op.build 24 #[(0, Go.Operand.tmp 26), (1, Go.Operand.tmp 32)], type := 24, pos := "bits.go:236", after := #[{ on := 1, ground := Go.Ground.data }, { on := 7, ground := Go.Ground.data }], guard := none }) (v := ?v8or) rfl (by kernel_rfl) (by kernel_rfl) (by kernel_rfl) (fun _ _ _ h => h) (Or.inl ⟨by rfl, ?hy8or⟩) hHeld ?rest8or
  case hy8or =>
    intro w hSw
    try dsimp only at hSw
    go_simp
    try with_reducible rfl
  try simp only [Act.put, List.setIfInBounds_toArray, List.set_cons_zero, List.set_cons_succ]
  refine wpAnyH_ready (rs := [9]) (by kernel_rfl) (by simp) ?_
  refine AllReadyH.cons (o := { dst := none, op := Go.Op.store 24 (Go.Operand.tmp 6) (Go.Operand.tmp 33), type := 0, pos := "bits.go:236", after := #[{ on := 8, ground := Go.Ground.data }, { on := 7, ground := Go.Ground.chain }, { on := 0, ground := Go.Ground.phase }, { on := 1, ground := Go.Ground.phase }, { on := 2, ground := Go.Ground.phase }, { on := 3, ground := Go.Ground.phase }, { on := 4, ground := Go.Ground.phase }, { on := 5, ground := Go.Ground.phase }, { on := 6, ground := Go.Ground.phase }, { on := 7, ground := Go.Ground.phase }, { on := 8, ground := Go.Ground.phase }], guard := none }) rfl (fun K hK => ?_) AllReadyH.nil
  go_simp
  refine hK.out _ _ (hS5) (fun hHeld => ?_)
  clear hK K
  try simp only [Act.put, List.setIfInBounds_toArray, List.set_cons_zero, List.set_cons_succ]
  refine wpAnyH_take (i := 10) (oi := { dst := some 7, op := Go.Op.assign (Go.Operand.const (Go.Value.int Go.IntKind.i64 0)), type := 35, pos := "bits.go:236", after := #[{ on := 9, ground := Go.Ground.chain }, { on := 0, ground := Go.Ground.phase }, { on := 1, ground := Go.Ground.phase }, { on := 2, ground := Go.Ground.phase }, { on := 3, ground := Go.Ground.phase }, { on := 4, ground := Go.Ground.phase }, { on := 5, ground := Go.Ground.phase }, { on := 6, ground := Go.Ground.phase }, { on := 7, ground := Go.Ground.phase }, { on := 8, ground := Go.Ground.phase }, { on := 9, ground := Go.Ground.phase }], guard := none }) (v := ?v10or) rfl (by kernel_rfl) (by kernel_rfl) (by kernel_rfl) (fun _ _ _ h => h) (Or.inl ⟨by rfl, ?hy10or⟩) hHeld ?rest10or
  case hy10or =>
    intro w hSw
    try dsimp only at hSw
    go_simp
    try with_reducible rfl
  try simp only [Act.put, List.setIfInBounds_toArray, List.set_cons_zero, List.set_cons_succ]
  refine wpAnyH_done (by kernel_rfl) ?_ _
  refine NoPanic.normal ?_
  go_wp2_with fail
  refine bodyPost_cell2 rfl (w.heap.size + 1 + 1) rfl _ _ hQ5 Tryd.underlying24 rfl (by kernel_rfl) rfl ?_
  exact ⟨g, c4, R, rfl, hown6, hWd, hbt, hS5.1⟩

set_option maxRecDepth 100000 in
set_option maxHeartbeats 2000000 in
theorem orC_x1 (w : World) (N M : Int) (a b : Option Addr) (n c k d : Nat) (la lb : List Int) (ha : SetIn w N a n c la) (hb : SetIn w M b k d lb) (hr : rightB N la = false ∨ rightB M lb = false) :
    Calls Tryd.prog 67 #[.agg #[.int .i64 N, .slice a n c], .agg #[.int .i64 M, .slice b k d], .func (.func 68) #[] #[]] w (SetX w 50) := by
  unfold SetX
  have qa := fun W (hw : Below w.heap.size w W) => right_any W N a n c la (ha.below hw)
  have qb := fun W (hw : Below w.heap.size w W) => right_any W M b k d lb (hb.below hw)
  obtain ⟨hS, hT⟩ := boxes2 w (.int .i64 N) (.slice a n c) (.int .i64 M) (.slice b k d)
  clear ha hb
  cases hra : rightB N la with
  | false =>
    simp only [hra] at qa
    clear hr hra qb
    go_enter Tryd.func67, Tryd.ntmps67
    go_wp2_with fail
    refine (qa _ hS.1).mono ?_
    rintro e w2 ⟨rfl, hB2⟩
    have hS2 := hS.step hB2
    have hT2 := hT.step hB2
    have q0 := hT2.c0
    have q1 := hT2.c1
    have q2 := hT2.f0
    have q3 := hT2.f1
    have hQ3 := hT2.range_set (.int .i64 0) (.slice none 0 0)
    have hS3 := hS2.put (.int .i64 0) (.slice none 0 0)
    clear hS hT hB2
    go_wp2_with fail
    refine bodyPost_cell2 rfl (w.heap.size + 1 + 1) rfl _ _ hQ3 Tryd.underlying24 rfl (by kernel_rfl) rfl ?_
    exact ⟨none, 0, rfl, World.ownsRow_nil _ _ _ _, hS3.1⟩
  | true =>
    have hrb : rightB M lb = false := by
      rcases hr with h | h
      · rw [hra] at h; cases h
      · exact h
    simp only [hra] at qa
    simp only [hrb] at qb
    clear hr hra hrb
    go_enter Tryd.func67, Tryd.ntmps67
    go_wp2_with fail
    refine (qa _ hS.1).mono ?_
    rintro e w2 ⟨rfl, hB2⟩
    have hS2 := hS.step hB2
    have hT2 := hT.step hB2
    have k0 := hS2.2.2.1
    have k1 := hS2.2.2.2
    clear hS hT hB2
    go_wp2_with fail
    refine (qb _ hS2.1).mono ?_
    rintro e w3 ⟨rfl, hB3⟩
    have hS3 := hS2.step hB3
    have hT3 := hT2.step hB3
    have q0 := hT3.c0
    have q1 := hT3.c1
    have q2 := hT3.f0
    have q3 := hT3.f1
    have hQ4 := hT3.range_set (.int .i64 0) (.slice none 0 0)
    have hS4 := hS3.put (.int .i64 0) (.slice none 0 0)
    clear hS2 hT2 hB3
    go_wp2_with fail
    refine bodyPost_cell2 rfl (w.heap.size + 1 + 1) rfl _ _ hQ4 Tryd.underlying24 rfl (by kernel_rfl) rfl ?_
    exact ⟨none, 0, rfl, World.ownsRow_nil _ _ _ _, hS4.1⟩

set_option maxRecDepth 100000 in
set_option maxHeartbeats 2000000 in
theorem orC_x2 (w : World) (N M : Int) (a b : Option Addr) (n c k d : Nat) (la lb : List Int) (ha : SetIn w N a n c la) (hb : SetIn w M b k d lb) (hra : rightB N la = true) (hrb : rightB M lb = true) (hNM : N ≠ M) :
    Calls Tryd.prog 67 #[.agg #[.int .i64 N, .slice a n c], .agg #[.int .i64 M, .slice b k d], .func (.func 68) #[] #[]] w (SetX w 51) := by
  unfold SetX
  have qa := fun W (hw : Below w.heap.size w W) => right_any W N a n c la (ha.below hw)
  have qb := fun W (hw : Below w.heap.size w W) => right_any W M b k d lb (hb.below hw)
  obtain ⟨hS, hT⟩ := boxes2 w (.int .i64 N) (.slice a n c) (.int .i64 M) (.slice b k d)
  have hne : (N != M) = true := by simpa using hNM
  simp only [hra] at qa
  simp only [hrb] at qb
  clear ha hb hra hrb hNM
  go_enter Tryd.func67, Tryd.ntmps67
  go_wp2_with fail
  refine (qa _ hS.1).mono ?_
  rintro e w2 ⟨rfl, hB2⟩
  have hS2 := hS.step hB2
  have hT2 := hT.step hB2
  have k0 := hS2.2.2.1
  have k1 := hS2.2.2.2
  clear hS hT hB2
  go_wp2_with fail
  refine (qb _ hS2.1).mono ?_
  rintro e w3 ⟨rfl, hB3⟩
  have hS3 := hS2.step hB3
  have hT3 := hT2.step hB3
  have j0 := hS3.2.1.1
  have k0 := hS3.2.2.1
  have q0 := hT3.c0
  have q1 := hT3.c1
  have q2 := hT3.f0
  have q3 := hT3.f1
  have hQ4 := hT3.range_set (.int .i64 0) (.slice none 0 0)
  have hS4 := hS3.put (.int .i64 0) (.slice none 0 0)
  clear hS2 hT2 hB3
  go_wp2_with fail
  refine bodyPost_cell2 rfl (w.heap.size + 1 + 1) rfl _ _ hQ4 Tryd.underlying24 rfl (by kernel_rfl) rfl ?_
  exact ⟨none, 0, rfl, World.ownsRow_nil _ _ _ _, hS4.1⟩

theorem andF_any (x y : Nat) (w : World) (hx : x < 18446744073709551616) (hy : y < 18446744073709551616) : Calls Tryd.prog 69 #[.int .u64 (x : Int), .int .u64 (y : Int)] w fun e w' => e = .returned (.int .u64 ((x &&& y : Nat) : Int)) ∧ w' = w := by
  have h := bits_and_u64_nat x y hx hy
  clear hx hy
  go_enter Tryd.func69, Tryd.ntmps69
  go_wp2_with fail
  go_ret
  exact ⟨by first | rfl | exact ret_num h, rfl⟩

set_option maxRecDepth 100000 in
set_option maxHeartbeats 8000000 in
theorem andT_any (w : World) (a b : Option Addr) (n c d : Nat) (la lb : List Int) (ha : Sl .u64 w a n c la) (hb : Sl .u64 w b n d lb) (hwa : Wds la) (hwb : Wds lb) (hn : n ≤ 1024) :
    Calls Tryd.prog 77 #[.slice a n c, .slice b n d, .func (.func 69) #[] #[]] w fun e w' => ∃ g c' R, e = .returned (.slice g n c') ∧ w'.ownsRow w.heap.size 30 1 (.slice g n c') n (R.map (Value.int .u64)) ∧ Wds R ∧ (∀ i, bt R i = (bt la i && bt lb i)) ∧ Below w.heap.size w w' := by
  obtain ⟨i0, hinf, hz0, hz1, hz2⟩ := info_parts infoU
  have hla := ha.1
  have hlb := hb.1
  have hac := ha.2.1
  have hbc := hb.2.1
  have hac2 := ha.2.2.1
  have hbc2 := hb.2.2.1
  have HLA := Lib.hid hla
  have HLB := Lib.hid hlb
  clear hla hlb
  go_enter Tryd.func77, Tryd.ntmps77
  go_wp2_with (at_make; refine wpList_make_full _ rfl _ _ 22 rfl w.heap.size 30 i0 (.int .u64 0) 1 Tryd.underlying22 hinf hz0 hz1 .i64 .i64 _ _ n rfl rfl rfl rfl (by rw [hz2]; omega) (by unfold maxLen; omega) (Nat.le_refl _) ?_)
  intro w1 hown hgrow
  have hB1 : Below w.heap.size w w1 := (Below.refl _ _).grown hgrow (Nat.le_refl _) (fun _ hk => by cases hk)
  rw [made_zerosU] at hown
  have hl0 : (List.replicate n (0 : Int)).length = n := List.length_replicate
  have hW0 := Wds.zeros n
  obtain ⟨R0, hR0⟩ : ∃ R : List Int, R = List.replicate n 0 := ⟨_, rfl⟩
  rw [← hR0] at hown hl0 hW0
  obtain ⟨g, hg⟩ : ∃ g, g = w.heap.size := ⟨_, rfl⟩
  have hgw : w.heap.size ≤ g := by omega
  rw [← hg] at hown ⊢
  rw [hg] at hown
  clear hR0 hgrow
  have hown : w1.ownsRow w.heap.size 30 1 (.slice (some ⟨g, 0, none⟩) n n) n (R0.map (Value.int .u64)) := by rw [hg]; exact hown
  clear hg
  go_wp2_with fail
  go_loopw [14] (fun I wr => ∃ (k : Nat) (R : List Int), k ≤ n ∧ I = .int .i64 (k : Int) ∧ Wds R ∧ R.length = n ∧ (∀ j, j < k → wd R j = (fun x y => x &&& y) (wd la j) (wd lb j)) ∧ wr.ownsRow w.heap.size 30 1 (.slice (some ⟨g, 0, none⟩) n n) n (R.map (Value.int .u64)) ∧ Below w.heap.size w wr) (fun I _ => n - (intOf I).toNat)
  case atStart => exact ⟨0, R0, by omega, rfl, hW0, hl0, fun j h => absurd h (Nat.not_lt_zero _), hown, hB1⟩
  case round =>
    obtain ⟨k, R, hk, rfl, hWd, hRl, hall, hownR, hBr⟩ := hrel
    have HALL := Lib.hid hall
    have HRL := Lib.hid hRl
    clear hall hRl
    by_cases hlt : k < n
    · obtain ⟨ab, ao, rfl, hca⟩ := (ha.below hBr).view (by omega)
      obtain ⟨bb, bo, rfl, hcb⟩ := (hb.below hBr).view (by omega)
      have hxa := hca k hlt
      have hxb := hcb k hlt
      rw [wd_eq hwa k] at hxa
      rw [wd_eq hwb k] at hxb
      have hx := wd_lt hwa k
      have hy := wd_lt hwb k
      obtain ⟨x, hxe⟩ : ∃ x, x = wd la k := ⟨_, rfl⟩
      obtain ⟨y, hye⟩ : ∃ y, y = wd lb k := ⟨_, rfl⟩
      rw [← hxe] at hxa hx
      rw [← hye] at hxb hy
      have qf := fun W => andF_any x y W hx hy
      have hVl : x &&& y < 18446744073709551616 := and_lt64 y hx
      obtain ⟨V, hV⟩ : ∃ V, V = x &&& y := ⟨_, rfl⟩
      rw [← hV] at hVl
      simp only [← hV] at qf
      have hfin : ∀ j, j < k + 1 → wd (R.set k (V : Int)) j = (fun x y => x &&& y) (wd la j) (wd lb j) := fun j hj => by
        rw [wd_set (by rw [HRL.out]; exact hlt)]
        by_cases h : j = k
        · rw [if_pos h, h, ← hxe, ← hye]; exact hV
        · rw [if_neg h]; exact HALL.out j (by omega)
      have hWd2 : Wds (R.set k (V : Int)) := hWd.set k ⟨by omega, by omega⟩
      have fW := hownR.frozenAt k
      have cW := hownR.cellAt k (by omega)
      rw [List.getElem?_map, List.getElem?_eq_getElem (by rw [HRL.out]; exact hlt)] at cW
      simp only [Option.map_some] at cW
      have hst := (hownR.stored k (.int .u64 (V : Int))).1
      rw [← List.map_set] at hst
      have hB4 := hBr.setCell (p := ⟨g, k, none⟩) hgw (.int .u64 (V : Int))
      have i1 : (k : Int) < (n : Int) := by omega
      have HF := Lib.hid (And.intro hfin (And.intro hWd2 (And.intro hst hB4)))
      clear hfin hWd2 hst hB4 hownR hBr hV hxe hye hca hcb
      go_wp2_with fail
      go_region_with ((go_at_call 69; refine (qf _).mono ?_; rintro e w9 ⟨rfl, hE9⟩; rw [hE9]; clear hE9))
      all_goals
        obtain ⟨hfin, hWd2, hst, hB4⟩ := HF.out
        go_wp2_with fail
        go_roundw
        case rel => exact ⟨k + 1, R.set k (V : Int), by omega, by go_num, hWd2, by rw [List.length_set]; exact HRL.out, hfin, hst, hB4.drew⟩
        case measure => simp [intOf]; omega
    · obtain rfl : k = n := by omega
      have hbt := put_words (F := fun x y => x &&& y) (f := fun a b => a && b) HLA.out HLB.out HRL.out (fun x y i hi => Nat.testBit_and ..) rfl HALL.out
      have HF := Lib.hid hbt
      clear hbt
      go_wp2_with fail
      go_ret
      exact ⟨_, k, rfl, R, hownR, hWd, HF.out, hBr⟩

set_option maxRecDepth 100000 in
set_option maxHeartbeats 4000000 in
theorem andC_ok (w : World) (N : Int) (a b : Option Addr) (n c d : Nat) (la lb : List Int) (ha : SetIn w N a n c la) (hb : SetIn w N b n d lb) (hra : rightB N la = true) (hrb : rightB N lb = true) :
    Calls Tryd.prog 67 #[.agg #[.int .i64 N, .slice a n c], .agg #[.int .i64 N, .slice b n d], .func (.func 69) #[] #[]] w fun e w' => ∃ g c' R, e = .returned (.tuple #[.agg #[.int .i64 N, .slice g n c'], .int .i64 0]) ∧ w'.ownsRow w.heap.size 30 1 (.slice g n c') n (R.map (Value.int .u64)) ∧ Wds R ∧ (∀ i, bt R i = (bt la i && bt lb i)) ∧ Below w.heap.size w w' := by
  have hnb : n ≤ 1024 := by
    have h1 := (of_rightB hra).2.1
    have h2 := (of_rightB hra).2.2.1
    have h3 := ha.sl.1
    omega
  have qa := fun W (hw : Below w.heap.size w W) => right_any W N a n c la (ha.below hw)
  have qb := fun W (hw : Below w.heap.size w W) => right_any W N b n d lb (hb.below hw)
  have qt := fun W (hw : Below w.heap.size w W) => andT_any W a b n c d la lb (ha.sl.below hw) (hb.sl.below hw) ha.wds hb.wds hnb
  simp only [hra] at qa
  simp only [hrb] at qb
  obtain ⟨hS, hT⟩ := boxes2 w (.int .i64 N) (.slice a n c) (.int .i64 N) (.slice b n d)
  have hne : (N != N) = false := by simp
  clear ha hb hra hrb hnb
  go_enter Tryd.func67, Tryd.ntmps67
  go_wp2_with fail
  refine (qa _ hS.1).mono ?_
  rintro e w2 ⟨rfl, hB2⟩
  have hS2 := hS.step hB2
  have hT2 := hT.step hB2
  have k0 := hS2.2.2.1
  have k1 := hS2.2.2.2
  clear hS hT hB2
  go_wp2_with fail
  refine (qb _ hS2.1).mono ?_
  rintro e w3 ⟨rfl, hB3⟩
  have hS3 := hS2.step hB3
  have hT3 := hT2.step hB3
  have k0 := hS3.2.2.1
  have j0 := hS3.2.1.1
  clear hS2 hT2 hB3
  go_wp2_with fail
  refine wp_region_noPanic ?_
  refine wp_region_held_drew (S := fun w' => Below w.heap.size w w' ∧ (w'.cell? ⟨w.heap.size, 0, none⟩ = some (.int .i64 N) ∧ w'.cell? ⟨w.heap.size, 1, none⟩ = some (.slice a n c)) ∧ (w'.cell? ⟨w.heap.size + 1, 0, none⟩ = some (.int .i64 N) ∧ w'.cell? ⟨w.heap.size + 1, 1, none⟩ = some (.slice b n d))) (by kernel_rfl) (hS3.drew) (fun hHeld => ?_)
  refine wpAnyH_take (i := 0) (oi := { dst := some 25, op := Go.Op.fieldAddr 24 (Go.Operand.tmp 3) 0, type := 0, pos := "bits.go:236", after := #[], guard := none }) (v := ?v0and) rfl (by kernel_rfl) (by kernel_rfl) (by kernel_rfl) (fun _ _ _ h => h) (Or.inl ⟨by rfl, ?hy0and⟩) hHeld ?rest0and
  case hy0and =>
    intro w hSw
    try dsimp only at hSw
    go_simp
    try with_reducible rfl
  try simp only [Act.put, List.setIfInBounds_toArray, List.set_cons_zero, List.set_cons_succ]
  refine wpAnyH_take (i := 1) (oi := { dst := some 26, op := Go.Op.load 3 (Go.Operand.tmp 25), type := 3, pos := "bits.go:236", after := #[{ on := 0, ground := Go.Ground.data }], guard := none }) (v := ?v1and) rfl (by kernel_rfl) (by kernel_rfl) (by kernel_rfl) (fun _ _ _ h => h) (Or.inl ⟨by rfl, ?hy1and⟩) hHeld ?rest1and
  case hy1and =>
    intro w hSw
    try dsimp only at hSw
    go_simp
    try with_reducible rfl
  try simp only [Act.put, List.setIfInBounds_toArray, List.set_cons_zero, List.set_cons_succ]
  refine wpAnyH_take (i := 2) (oi := { dst := some 27, op := Go.Op.fieldAddr 24 (Go.Operand.tmp 3) 1, type := 0, pos := "bits.go:236", after := #[], guard := none }) (v := ?v2and) rfl (by kernel_rfl) (by kernel_rfl) (by kernel_rfl) (fun _ _ _ h => h) (Or.inl ⟨by rfl, ?hy2and⟩) hHeld ?rest2and
  case hy2and =>
    intro w hSw
    try dsimp only at hSw
    go_simp
    try with_reducible rfl
  try simp only [Act.put, List.setIfInBounds_toArray, List.set_cons_zero, List.set_cons_succ]
  refine wpAnyH_take (i := 3) (oi := { dst := some 28, op := Go.Op.load 22 (Go.Operand.tmp 27), type := 22, pos := "bits.go:236", after := #[{ on := 2, ground := Go.Ground.data }], guard := none }) (v := ?v3and) rfl (by kernel_rfl) (by kernel_rfl) (by kernel_rfl) (fun _ _ _ h => h) (Or.inl ⟨by rfl, ?hy3and⟩) hHeld ?rest3and
  case hy3and =>
    intro w hSw
    try dsimp only at hSw
    go_simp
    try with_reducible rfl
  try simp only [Act.put, List.setIfInBounds_toArray, List.set_cons_zero, List.set_cons_succ]
  refine wpAnyH_take (i := 4) (oi := { dst := some 29, op := Go.Op.fieldAddr 24 (Go.Operand.tmp 4) 1, type := 0, pos := "bits.go:236", after := #[], guard := none }) (v := ?v4and) rfl (by kernel_rfl) (by kernel_rfl) (by kernel_rfl) (fun _ _ _ h => h) (Or.inl ⟨by rfl, ?hy4and⟩) hHeld ?rest4and
  case hy4and =>
    intro w hSw
    try dsimp only at hSw
    go_simp
    try with_reducible rfl
  try simp only [Act.put, List.setIfInBounds_toArray, List.set_cons_zero, List.set_cons_succ]
  refine wpAnyH_take (i := 5) (oi := { dst := some 30, op := Go.Op.load 22 (Go.Operand.tmp 29), type := 22, pos := "bits.go:236", after := #[{ on := 4, ground := Go.Ground.data }], guard := none }) (v := ?v5and) rfl (by kernel_rfl) (by kernel_rfl) (by kernel_rfl) (fun _ _ _ h => h) (Or.inl ⟨by rfl, ?hy5and⟩) hHeld ?rest5and
  case hy5and =>
    intro w hSw
    try dsimp only at hSw
    go_simp
    try with_reducible rfl
  try simp only [Act.put, List.setIfInBounds_toArray, List.set_cons_zero, List.set_cons_succ]
  refine wpAnyH_take (i := 6) (oi := { dst := some 31, op := Go.Op.move (Go.Operand.tmp 2), type := 88, pos := "bits.go:236", after := #[], guard := none }) (v := ?v6and) rfl (by kernel_rfl) (by kernel_rfl) (by kernel_rfl) (fun _ _ _ h => h) (Or.inl ⟨by rfl, ?hy6and⟩) hHeld ?rest6and
  case hy6and =>
    intro w hSw
    try dsimp only at hSw
    go_simp
    try with_reducible rfl
  try simp only [Act.put, List.setIfInBounds_toArray, List.set_cons_zero, List.set_cons_succ]
  refine wpAnyH_ready (rs := [7]) (by kernel_rfl) (by simp) ?_
  refine AllReadyH.cons (o := { dst := some 32, op := Go.Op.call { callee := Go.Callee.value (Go.Operand.func 77), args := #[Go.Operand.tmp 28, Go.Operand.tmp 30, Go.Operand.tmp 31], argTypes := #[22, 22, 88] }, type := 22, pos := "bits.go:236", after := #[{ on := 3, ground := Go.Ground.data }, { on := 5, ground := Go.Ground.data }, { on := 6, ground := Go.Ground.data }], guard := none }) rfl (fun K hK => ?_) AllReadyH.nil
  go_simp
  refine (qt _ hS3.drew.1).mono ?_
  rintro e w4 ⟨g, c4, R, rfl, hown, hWd, hbt, hD⟩
  have hS4 := hS3.drew.step hD
  have hT4 := (two_drew hT3).step hD
  have q0 := hT4.c0
  have q1 := hT4.c1
  have q2 := hT4.f0
  have q3 := hT4.f1
  have hQ5 := hT4.range_set (.int .i64 N) (.slice g n c4)
  have hS5 := hS4.put (.int .i64 N) (.slice g n c4)
  have hsz2 : w.heap.size + 1 + 1 < w3.drew.heap.size := hT3.lt
  have hown5 := own_set (own_set hown (w.heap.size + 1 + 1) 0 (.int .i64 N) hsz2) (w.heap.size + 1 + 1) 1 (.slice g n c4) hsz2
  have hown6 := own_base hown5 hS3.1.size
  go_wp2_with fail
  refine hK.out _ _ (hS4) (fun hHeld => ?_)
  clear hK K
  try simp only [Act.put, List.setIfInBounds_toArray, List.set_cons_zero, List.set_cons_succ]
  refine wpAnyH_take (i := 8) (oi := { dst := some 33, op := Go.Op.build 24 #[(0, Go.Operand.tmp 26), (1, Go.Operand.tmp 32)], type := 24, pos := "bits.go:236", after := #[{ on := 1, ground := Go.Ground.data }, { on := 7, ground := Go.Ground.data }], guard := none }) (v := ?v8and) rfl (by kernel_rfl) (by kernel_rfl) (by kernel_rfl) (fun _ _ _ h => h) (Or.inl ⟨by rfl, ?hy8and⟩) hHeld ?rest8and
  case hy8and =>
    intro w hSw
    try dsimp only at hSw
    go_simp
    try with_reducible rfl
  try simp only [Act.put, List.setIfInBounds_toArray, List.set_cons_zero, List.set_cons_succ]
  refine wpAnyH_ready (rs := [9]) (by kernel_rfl) (by simp) ?_
  refine AllReadyH.cons (o := { dst := none, op := Go.Op.store 24 (Go.Operand.tmp 6) (Go.Operand.tmp 33), type := 0, pos := "bits.go:236", after := #[{ on := 8, ground := Go.Ground.data }, { on := 7, ground := Go.Ground.chain }, { on := 0, ground := Go.Ground.phase }, { on := 1, ground := Go.Ground.phase }, { on := 2, ground := Go.Ground.phase }, { on := 3, ground := Go.Ground.phase }, { on := 4, ground := Go.Ground.phase }, { on := 5, ground := Go.Ground.phase }, { on := 6, ground := Go.Ground.phase }, { on := 7, ground := Go.Ground.phase }, { on := 8, ground := Go.Ground.phase }], guard := none }) rfl (fun K hK => ?_) AllReadyH.nil
  go_simp
  refine hK.out _ _ (hS5) (fun hHeld => ?_)
  clear hK K
  try simp only [Act.put, List.setIfInBounds_toArray, List.set_cons_zero, List.set_cons_succ]
  refine wpAnyH_take (i := 10) (oi := { dst := some 7, op := Go.Op.assign (Go.Operand.const (Go.Value.int Go.IntKind.i64 0)), type := 35, pos := "bits.go:236", after := #[{ on := 9, ground := Go.Ground.chain }, { on := 0, ground := Go.Ground.phase }, { on := 1, ground := Go.Ground.phase }, { on := 2, ground := Go.Ground.phase }, { on := 3, ground := Go.Ground.phase }, { on := 4, ground := Go.Ground.phase }, { on := 5, ground := Go.Ground.phase }, { on := 6, ground := Go.Ground.phase }, { on := 7, ground := Go.Ground.phase }, { on := 8, ground := Go.Ground.phase }, { on := 9, ground := Go.Ground.phase }], guard := none }) (v := ?v10and) rfl (by kernel_rfl) (by kernel_rfl) (by kernel_rfl) (fun _ _ _ h => h) (Or.inl ⟨by rfl, ?hy10and⟩) hHeld ?rest10and
  case hy10and =>
    intro w hSw
    try dsimp only at hSw
    go_simp
    try with_reducible rfl
  try simp only [Act.put, List.setIfInBounds_toArray, List.set_cons_zero, List.set_cons_succ]
  refine wpAnyH_done (by kernel_rfl) ?_ _
  refine NoPanic.normal ?_
  go_wp2_with fail
  refine bodyPost_cell2 rfl (w.heap.size + 1 + 1) rfl _ _ hQ5 Tryd.underlying24 rfl (by kernel_rfl) rfl ?_
  exact ⟨g, c4, R, rfl, hown6, hWd, hbt, hS5.1⟩

set_option maxRecDepth 100000 in
set_option maxHeartbeats 2000000 in
theorem andC_x1 (w : World) (N M : Int) (a b : Option Addr) (n c k d : Nat) (la lb : List Int) (ha : SetIn w N a n c la) (hb : SetIn w M b k d lb) (hr : rightB N la = false ∨ rightB M lb = false) :
    Calls Tryd.prog 67 #[.agg #[.int .i64 N, .slice a n c], .agg #[.int .i64 M, .slice b k d], .func (.func 69) #[] #[]] w (SetX w 50) := by
  unfold SetX
  have qa := fun W (hw : Below w.heap.size w W) => right_any W N a n c la (ha.below hw)
  have qb := fun W (hw : Below w.heap.size w W) => right_any W M b k d lb (hb.below hw)
  obtain ⟨hS, hT⟩ := boxes2 w (.int .i64 N) (.slice a n c) (.int .i64 M) (.slice b k d)
  clear ha hb
  cases hra : rightB N la with
  | false =>
    simp only [hra] at qa
    clear hr hra qb
    go_enter Tryd.func67, Tryd.ntmps67
    go_wp2_with fail
    refine (qa _ hS.1).mono ?_
    rintro e w2 ⟨rfl, hB2⟩
    have hS2 := hS.step hB2
    have hT2 := hT.step hB2
    have q0 := hT2.c0
    have q1 := hT2.c1
    have q2 := hT2.f0
    have q3 := hT2.f1
    have hQ3 := hT2.range_set (.int .i64 0) (.slice none 0 0)
    have hS3 := hS2.put (.int .i64 0) (.slice none 0 0)
    clear hS hT hB2
    go_wp2_with fail
    refine bodyPost_cell2 rfl (w.heap.size + 1 + 1) rfl _ _ hQ3 Tryd.underlying24 rfl (by kernel_rfl) rfl ?_
    exact ⟨none, 0, rfl, World.ownsRow_nil _ _ _ _, hS3.1⟩
  | true =>
    have hrb : rightB M lb = false := by
      rcases hr with h | h
      · rw [hra] at h; cases h
      · exact h
    simp only [hra] at qa
    simp only [hrb] at qb
    clear hr hra hrb
    go_enter Tryd.func67, Tryd.ntmps67
    go_wp2_with fail
    refine (qa _ hS.1).mono ?_
    rintro e w2 ⟨rfl, hB2⟩
    have hS2 := hS.step hB2
    have hT2 := hT.step hB2
    have k0 := hS2.2.2.1
    have k1 := hS2.2.2.2
    clear hS hT hB2
    go_wp2_with fail
    refine (qb _ hS2.1).mono ?_
    rintro e w3 ⟨rfl, hB3⟩
    have hS3 := hS2.step hB3
    have hT3 := hT2.step hB3
    have q0 := hT3.c0
    have q1 := hT3.c1
    have q2 := hT3.f0
    have q3 := hT3.f1
    have hQ4 := hT3.range_set (.int .i64 0) (.slice none 0 0)
    have hS4 := hS3.put (.int .i64 0) (.slice none 0 0)
    clear hS2 hT2 hB3
    go_wp2_with fail
    refine bodyPost_cell2 rfl (w.heap.size + 1 + 1) rfl _ _ hQ4 Tryd.underlying24 rfl (by kernel_rfl) rfl ?_
    exact ⟨none, 0, rfl, World.ownsRow_nil _ _ _ _, hS4.1⟩

set_option maxRecDepth 100000 in
set_option maxHeartbeats 2000000 in
theorem andC_x2 (w : World) (N M : Int) (a b : Option Addr) (n c k d : Nat) (la lb : List Int) (ha : SetIn w N a n c la) (hb : SetIn w M b k d lb) (hra : rightB N la = true) (hrb : rightB M lb = true) (hNM : N ≠ M) :
    Calls Tryd.prog 67 #[.agg #[.int .i64 N, .slice a n c], .agg #[.int .i64 M, .slice b k d], .func (.func 69) #[] #[]] w (SetX w 51) := by
  unfold SetX
  have qa := fun W (hw : Below w.heap.size w W) => right_any W N a n c la (ha.below hw)
  have qb := fun W (hw : Below w.heap.size w W) => right_any W M b k d lb (hb.below hw)
  obtain ⟨hS, hT⟩ := boxes2 w (.int .i64 N) (.slice a n c) (.int .i64 M) (.slice b k d)
  have hne : (N != M) = true := by simpa using hNM
  simp only [hra] at qa
  simp only [hrb] at qb
  clear ha hb hra hrb hNM
  go_enter Tryd.func67, Tryd.ntmps67
  go_wp2_with fail
  refine (qa _ hS.1).mono ?_
  rintro e w2 ⟨rfl, hB2⟩
  have hS2 := hS.step hB2
  have hT2 := hT.step hB2
  have k0 := hS2.2.2.1
  have k1 := hS2.2.2.2
  clear hS hT hB2
  go_wp2_with fail
  refine (qb _ hS2.1).mono ?_
  rintro e w3 ⟨rfl, hB3⟩
  have hS3 := hS2.step hB3
  have hT3 := hT2.step hB3
  have j0 := hS3.2.1.1
  have k0 := hS3.2.2.1
  have q0 := hT3.c0
  have q1 := hT3.c1
  have q2 := hT3.f0
  have q3 := hT3.f1
  have hQ4 := hT3.range_set (.int .i64 0) (.slice none 0 0)
  have hS4 := hS3.put (.int .i64 0) (.slice none 0 0)
  clear hS2 hT2 hB3
  go_wp2_with fail
  refine bodyPost_cell2 rfl (w.heap.size + 1 + 1) rfl _ _ hQ4 Tryd.underlying24 rfl (by kernel_rfl) rfl ?_
  exact ⟨none, 0, rfl, World.ownsRow_nil _ _ _ _, hS4.1⟩

theorem minusF_any (x y : Nat) (w : World) (hx : x < 18446744073709551616) (hy : y < 18446744073709551616) : Calls Tryd.prog 70 #[.int .u64 (x : Int), .int .u64 (y : Int)] w fun e w' => e = .returned (.int .u64 ((an x y : Nat) : Int)) ∧ w' = w := by
  have h := (fun (_ : x < 18446744073709551616) (_ : y < 18446744073709551616) => bits_an x y) hx hy
  clear hx hy
  go_enter Tryd.func70, Tryd.ntmps70
  go_wp2_with fail
  go_ret
  exact ⟨by first | rfl | exact ret_num h, rfl⟩

set_option maxRecDepth 100000 in
set_option maxHeartbeats 8000000 in
theorem minusT_any (w : World) (a b : Option Addr) (n c d : Nat) (la lb : List Int) (ha : Sl .u64 w a n c la) (hb : Sl .u64 w b n d lb) (hwa : Wds la) (hwb : Wds lb) (hn : n ≤ 1024) :
    Calls Tryd.prog 77 #[.slice a n c, .slice b n d, .func (.func 70) #[] #[]] w fun e w' => ∃ g c' R, e = .returned (.slice g n c') ∧ w'.ownsRow w.heap.size 30 1 (.slice g n c') n (R.map (Value.int .u64)) ∧ Wds R ∧ (∀ i, bt R i = (bt la i && !bt lb i)) ∧ Below w.heap.size w w' := by
  obtain ⟨i0, hinf, hz0, hz1, hz2⟩ := info_parts infoU
  have hla := ha.1
  have hlb := hb.1
  have hac := ha.2.1
  have hbc := hb.2.1
  have hac2 := ha.2.2.1
  have hbc2 := hb.2.2.1
  have HLA := Lib.hid hla
  have HLB := Lib.hid hlb
  clear hla hlb
  go_enter Tryd.func77, Tryd.ntmps77
  go_wp2_with (at_make; refine wpList_make_full _ rfl _ _ 22 rfl w.heap.size 30 i0 (.int .u64 0) 1 Tryd.underlying22 hinf hz0 hz1 .i64 .i64 _ _ n rfl rfl rfl rfl (by rw [hz2]; omega) (by unfold maxLen; omega) (Nat.le_refl _) ?_)
  intro w1 hown hgrow
  have hB1 : Below w.heap.size w w1 := (Below.refl _ _).grown hgrow (Nat.le_refl _) (fun _ hk => by cases hk)
  rw [made_zerosU] at hown
  have hl0 : (List.replicate n (0 : Int)).length = n := List.length_replicate
  have hW0 := Wds.zeros n
  obtain ⟨R0, hR0⟩ : ∃ R : List Int, R = List.replicate n 0 := ⟨_, rfl⟩
  rw [← hR0] at hown hl0 hW0
  obtain ⟨g, hg⟩ : ∃ g, g = w.heap.size := ⟨_, rfl⟩
  have hgw : w.heap.size ≤ g := by omega
  rw [← hg] at hown ⊢
  rw [hg] at hown
  clear hR0 hgrow
  have hown : w1.ownsRow w.heap.size 30 1 (.slice (some ⟨g, 0, none⟩) n n) n (R0.map (Value.int .u64)) := by rw [hg]; exact hown
  clear hg
  go_wp2_with fail
  go_loopw [14] (fun I wr => ∃ (k : Nat) (R : List Int), k ≤ n ∧ I = .int .i64 (k : Int) ∧ Wds R ∧ R.length = n ∧ (∀ j, j < k → wd R j = (fun x y => an x y) (wd la j) (wd lb j)) ∧ wr.ownsRow w.heap.size 30 1 (.slice (some ⟨g, 0, none⟩) n n) n (R.map (Value.int .u64)) ∧ Below w.heap.size w wr) (fun I _ => n - (intOf I).toNat)
  case atStart => exact ⟨0, R0, by omega, rfl, hW0, hl0, fun j h => absurd h (Nat.not_lt_zero _), hown, hB1⟩
  case round =>
    obtain ⟨k, R, hk, rfl, hWd, hRl, hall, hownR, hBr⟩ := hrel
    have HALL := Lib.hid hall
    have HRL := Lib.hid hRl
    clear hall hRl
    by_cases hlt : k < n
    · obtain ⟨ab, ao, rfl, hca⟩ := (ha.below hBr).view (by omega)
      obtain ⟨bb, bo, rfl, hcb⟩ := (hb.below hBr).view (by omega)
      have hxa := hca k hlt
      have hxb := hcb k hlt
      rw [wd_eq hwa k] at hxa
      rw [wd_eq hwb k] at hxb
      have hx := wd_lt hwa k
      have hy := wd_lt hwb k
      obtain ⟨x, hxe⟩ : ∃ x, x = wd la k := ⟨_, rfl⟩
      obtain ⟨y, hye⟩ : ∃ y, y = wd lb k := ⟨_, rfl⟩
      rw [← hxe] at hxa hx
      rw [← hye] at hxb hy
      have qf := fun W => minusF_any x y W hx hy
      have hVl : an x y < 18446744073709551616 := an_lt x y
      obtain ⟨V, hV⟩ : ∃ V, V = an x y := ⟨_, rfl⟩
      rw [← hV] at hVl
      simp only [← hV] at qf
      have hfin : ∀ j, j < k + 1 → wd (R.set k (V : Int)) j = (fun x y => an x y) (wd la j) (wd lb j) := fun j hj => by
        rw [wd_set (by rw [HRL.out]; exact hlt)]
        by_cases h : j = k
        · rw [if_pos h, h, ← hxe, ← hye]; exact hV
        · rw [if_neg h]; exact HALL.out j (by omega)
      have hWd2 : Wds (R.set k (V : Int)) := hWd.set k ⟨by omega, by omega⟩
      have fW := hownR.frozenAt k
      have cW := hownR.cellAt k (by omega)
      rw [List.getElem?_map, List.getElem?_eq_getElem (by rw [HRL.out]; exact hlt)] at cW
      simp only [Option.map_some] at cW
      have hst := (hownR.stored k (.int .u64 (V : Int))).1
      rw [← List.map_set] at hst
      have hB4 := hBr.setCell (p := ⟨g, k, none⟩) hgw (.int .u64 (V : Int))
      have i1 : (k : Int) < (n : Int) := by omega
      have HF := Lib.hid (And.intro hfin (And.intro hWd2 (And.intro hst hB4)))
      clear hfin hWd2 hst hB4 hownR hBr hV hxe hye hca hcb
      go_wp2_with fail
      go_region_with ((go_at_call 70; refine (qf _).mono ?_; rintro e w9 ⟨rfl, hE9⟩; rw [hE9]; clear hE9))
      all_goals
        obtain ⟨hfin, hWd2, hst, hB4⟩ := HF.out
        go_wp2_with fail
        go_roundw
        case rel => exact ⟨k + 1, R.set k (V : Int), by omega, by go_num, hWd2, by rw [List.length_set]; exact HRL.out, hfin, hst, hB4.drew⟩
        case measure => simp [intOf]; omega
    · obtain rfl : k = n := by omega
      have hbt := put_words (F := fun x y => an x y) (f := fun a b => a && !b) HLA.out HLB.out HRL.out (fun x y i hi => an_test hi) rfl HALL.out
      have HF := Lib.hid hbt
      clear hbt
      go_wp2_with fail
      go_ret
      exact ⟨_, k, rfl, R, hownR, hWd, HF.out, hBr⟩

set_option maxRecDepth 100000 in
set_option maxHeartbeats 4000000 in
theorem minusC_ok (w : World) (N : Int) (a b : Option Addr) (n c d : Nat) (la lb : List Int) (ha : SetIn w N a n c la) (hb : SetIn w N b n d lb) (hra : rightB N la = true) (hrb : rightB N lb = true) :
    Calls Tryd.prog 67 #[.agg #[.int .i64 N, .slice a n c], .agg #[.int .i64 N, .slice b n d], .func (.func 70) #[] #[]] w fun e w' => ∃ g c' R, e = .returned (.tuple #[.agg #[.int .i64 N, .slice g n c'], .int .i64 0]) ∧ w'.ownsRow w.heap.size 30 1 (.slice g n c') n (R.map (Value.int .u64)) ∧ Wds R ∧ (∀ i, bt R i = (bt la i && !bt lb i)) ∧ Below w.heap.size w w' := by
  have hnb : n ≤ 1024 := by
    have h1 := (of_rightB hra).2.1
    have h2 := (of_rightB hra).2.2.1
    have h3 := ha.sl.1
    omega
  have qa := fun W (hw : Below w.heap.size w W) => right_any W N a n c la (ha.below hw)
  have qb := fun W (hw : Below w.heap.size w W) => right_any W N b n d lb (hb.below hw)
  have qt := fun W (hw : Below w.heap.size w W) => minusT_any W a b n c d la lb (ha.sl.below hw) (hb.sl.below hw) ha.wds hb.wds hnb
  simp only [hra] at qa
  simp only [hrb] at qb
  obtain ⟨hS, hT⟩ := boxes2 w (.int .i64 N) (.slice a n c) (.int .i64 N) (.slice b n d)
  have hne : (N != N) = false := by simp
  clear ha hb hra hrb hnb
  go_enter Tryd.func67, Tryd.ntmps67
  go_wp2_with fail
  refine (qa _ hS.1).mono ?_
  rintro e w2 ⟨rfl, hB2⟩
  have hS2 := hS.step hB2
  have hT2 := hT.step hB2
  have k0 := hS2.2.2.1
  have k1 := hS2.2.2.2
  clear hS hT hB2
  go_wp2_with fail
  refine (qb _ hS2.1).mono ?_
  rintro e w3 ⟨rfl, hB3⟩
  have hS3 := hS2.step hB3
  have hT3 := hT2.step hB3
  have k0 := hS3.2.2.1
  have j0 := hS3.2.1.1
  clear hS2 hT2 hB3
  go_wp2_with fail
  refine wp_region_noPanic ?_
  refine wp_region_held_drew (S := fun w' => Below w.heap.size w w' ∧ (w'.cell? ⟨w.heap.size, 0, none⟩ = some (.int .i64 N) ∧ w'.cell? ⟨w.heap.size, 1, none⟩ = some (.slice a n c)) ∧ (w'.cell? ⟨w.heap.size + 1, 0, none⟩ = some (.int .i64 N) ∧ w'.cell? ⟨w.heap.size + 1, 1, none⟩ = some (.slice b n d))) (by kernel_rfl) (hS3.drew) (fun hHeld => ?_)
  refine wpAnyH_take (i := 0) (oi := { dst := some 25, op := Go.Op.fieldAddr 24 (Go.Operand.tmp 3) 0, type := 0, pos := "bits.go:236", after := #[], guard := none }) (v := ?v0minus) rfl (by kernel_rfl) (by kernel_rfl) (by kernel_rfl) (fun _ _ _ h => h) (Or.inl ⟨by rfl, ?hy0minus⟩) hHeld ?rest0minus
  case hy0minus =>
    intro w hSw
    try dsimp only at hSw
    go_simp
    try with_reducible rfl
  try simp only [Act.put, List.setIfInBounds_toArray, List.set_cons_zero, List.set_cons_succ]
  refine wpAnyH_take (i := 1) (oi := { dst := some 26, op := Go.Op.load 3 (Go.Operand.tmp 25), type := 3, pos := "bits.go:236", after := #[{ on := 0, ground := Go.Ground.data }], guard := none }) (v := ?v1minus) rfl (by kernel_rfl) (by kernel_rfl) (by kernel_rfl) (fun _ _ _ h => h) (Or.inl ⟨by rfl, ?hy1minus⟩) hHeld ?rest1minus
  case hy1minus =>
    intro w hSw
    try dsimp only at hSw
    go_simp
    try with_reducible rfl
  try simp only [Act.put, List.setIfInBounds_toArray, List.set_cons_zero, List.set_cons_succ]
  refine wpAnyH_take (i := 2) (oi := { dst := some 27, op := Go.Op.fieldAddr 24 (Go.Operand.tmp 3) 1, type := 0, pos := "bits.go:236", after := #[], guard := none }) (v := ?v2minus) rfl (by kernel_rfl) (by kernel_rfl) (by kernel_rfl) (fun _ _ _ h => h) (Or.inl ⟨by rfl, ?hy2minus⟩) hHeld ?rest2minus
  case hy2minus =>
    intro w hSw
    try dsimp only at hSw
    go_simp
    try with_reducible rfl
  try simp only [Act.put, List.setIfInBounds_toArray, List.set_cons_zero, List.set_cons_succ]
  refine wpAnyH_take (i := 3) (oi := { dst := some 28, op := Go.Op.load 22 (Go.Operand.tmp 27), type := 22, pos := "bits.go:236", after := #[{ on := 2, ground := Go.Ground.data }], guard := none }) (v := ?v3minus) rfl (by kernel_rfl) (by kernel_rfl) (by kernel_rfl) (fun _ _ _ h => h) (Or.inl ⟨by rfl, ?hy3minus⟩) hHeld ?rest3minus
  case hy3minus =>
    intro w hSw
    try dsimp only at hSw
    go_simp
    try with_reducible rfl
  try simp only [Act.put, List.setIfInBounds_toArray, List.set_cons_zero, List.set_cons_succ]
  refine wpAnyH_take (i := 4) (oi := { dst := some 29, op := Go.Op.fieldAddr 24 (Go.Operand.tmp 4) 1, type := 0, pos := "bits.go:236", after := #[], guard := none }) (v := ?v4minus) rfl (by kernel_rfl) (by kernel_rfl) (by kernel_rfl) (fun _ _ _ h => h) (Or.inl ⟨by rfl, ?hy4minus⟩) hHeld ?rest4minus
  case hy4minus =>
    intro w hSw
    try dsimp only at hSw
    go_simp
    try with_reducible rfl
  try simp only [Act.put, List.setIfInBounds_toArray, List.set_cons_zero, List.set_cons_succ]
  refine wpAnyH_take (i := 5) (oi := { dst := some 30, op := Go.Op.load 22 (Go.Operand.tmp 29), type := 22, pos := "bits.go:236", after := #[{ on := 4, ground := Go.Ground.data }], guard := none }) (v := ?v5minus) rfl (by kernel_rfl) (by kernel_rfl) (by kernel_rfl) (fun _ _ _ h => h) (Or.inl ⟨by rfl, ?hy5minus⟩) hHeld ?rest5minus
  case hy5minus =>
    intro w hSw
    try dsimp only at hSw
    go_simp
    try with_reducible rfl
  try simp only [Act.put, List.setIfInBounds_toArray, List.set_cons_zero, List.set_cons_succ]
  refine wpAnyH_take (i := 6) (oi := { dst := some 31, op := Go.Op.move (Go.Operand.tmp 2), type := 88, pos := "bits.go:236", after := #[], guard := none }) (v := ?v6minus) rfl (by kernel_rfl) (by kernel_rfl) (by kernel_rfl) (fun _ _ _ h => h) (Or.inl ⟨by rfl, ?hy6minus⟩) hHeld ?rest6minus
  case hy6minus =>
    intro w hSw
    try dsimp only at hSw
    go_simp
    try with_reducible rfl
  try simp only [Act.put, List.setIfInBounds_toArray, List.set_cons_zero, List.set_cons_succ]
  refine wpAnyH_ready (rs := [7]) (by kernel_rfl) (by simp) ?_
  refine AllReadyH.cons (o := { dst := some 32, op := Go.Op.call { callee := Go.Callee.value (Go.Operand.func 77), args := #[Go.Operand.tmp 28, Go.Operand.tmp 30, Go.Operand.tmp 31], argTypes := #[22, 22, 88] }, type := 22, pos := "bits.go:236", after := #[{ on := 3, ground := Go.Ground.data }, { on := 5, ground := Go.Ground.data }, { on := 6, ground := Go.Ground.data }], guard := none }) rfl (fun K hK => ?_) AllReadyH.nil
  go_simp
  refine (qt _ hS3.drew.1).mono ?_
  rintro e w4 ⟨g, c4, R, rfl, hown, hWd, hbt, hD⟩
  have hS4 := hS3.drew.step hD
  have hT4 := (two_drew hT3).step hD
  have q0 := hT4.c0
  have q1 := hT4.c1
  have q2 := hT4.f0
  have q3 := hT4.f1
  have hQ5 := hT4.range_set (.int .i64 N) (.slice g n c4)
  have hS5 := hS4.put (.int .i64 N) (.slice g n c4)
  have hsz2 : w.heap.size + 1 + 1 < w3.drew.heap.size := hT3.lt
  have hown5 := own_set (own_set hown (w.heap.size + 1 + 1) 0 (.int .i64 N) hsz2) (w.heap.size + 1 + 1) 1 (.slice g n c4) hsz2
  have hown6 := own_base hown5 hS3.1.size
  go_wp2_with fail
  refine hK.out _ _ (hS4) (fun hHeld => ?_)
  clear hK K
  try simp only [Act.put, List.setIfInBounds_toArray, List.set_cons_zero, List.set_cons_succ]
  refine wpAnyH_take (i := 8) (oi := { dst := some 33, op := Go.Op.build 24 #[(0, Go.Operand.tmp 26), (1, Go.Operand.tmp 32)], type := 24, pos := "bits.go:236", after := #[{ on := 1, ground := Go.Ground.data }, { on := 7, ground := Go.Ground.data }], guard := none }) (v := ?v8minus) rfl (by kernel_rfl) (by kernel_rfl) (by kernel_rfl) (fun _ _ _ h => h) (Or.inl ⟨by rfl, ?hy8minus⟩) hHeld ?rest8minus
  case hy8minus =>
    intro w hSw
    try dsimp only at hSw
    go_simp
    try with_reducible rfl
  try simp only [Act.put, List.setIfInBounds_toArray, List.set_cons_zero, List.set_cons_succ]
  refine wpAnyH_ready (rs := [9]) (by kernel_rfl) (by simp) ?_
  refine AllReadyH.cons (o := { dst := none, op := Go.Op.store 24 (Go.Operand.tmp 6) (Go.Operand.tmp 33), type := 0, pos := "bits.go:236", after := #[{ on := 8, ground := Go.Ground.data }, { on := 7, ground := Go.Ground.chain }, { on := 0, ground := Go.Ground.phase }, { on := 1, ground := Go.Ground.phase }, { on := 2, ground := Go.Ground.phase }, { on := 3, ground := Go.Ground.phase }, { on := 4, ground := Go.Ground.phase }, { on := 5, ground := Go.Ground.phase }, { on := 6, ground := Go.Ground.phase }, { on := 7, ground := Go.Ground.phase }, { on := 8, ground := Go.Ground.phase }], guard := none }) rfl (fun K hK => ?_) AllReadyH.nil
  go_simp
  refine hK.out _ _ (hS5) (fun hHeld => ?_)
  clear hK K
  try simp only [Act.put, List.setIfInBounds_toArray, List.set_cons_zero, List.set_cons_succ]
  refine wpAnyH_take (i := 10) (oi := { dst := some 7, op := Go.Op.assign (Go.Operand.const (Go.Value.int Go.IntKind.i64 0)), type := 35, pos := "bits.go:236", after := #[{ on := 9, ground := Go.Ground.chain }, { on := 0, ground := Go.Ground.phase }, { on := 1, ground := Go.Ground.phase }, { on := 2, ground := Go.Ground.phase }, { on := 3, ground := Go.Ground.phase }, { on := 4, ground := Go.Ground.phase }, { on := 5, ground := Go.Ground.phase }, { on := 6, ground := Go.Ground.phase }, { on := 7, ground := Go.Ground.phase }, { on := 8, ground := Go.Ground.phase }, { on := 9, ground := Go.Ground.phase }], guard := none }) (v := ?v10minus) rfl (by kernel_rfl) (by kernel_rfl) (by kernel_rfl) (fun _ _ _ h => h) (Or.inl ⟨by rfl, ?hy10minus⟩) hHeld ?rest10minus
  case hy10minus =>
    intro w hSw
    try dsimp only at hSw
    go_simp
    try with_reducible rfl
  try simp only [Act.put, List.setIfInBounds_toArray, List.set_cons_zero, List.set_cons_succ]
  refine wpAnyH_done (by kernel_rfl) ?_ _
  refine NoPanic.normal ?_
  go_wp2_with fail
  refine bodyPost_cell2 rfl (w.heap.size + 1 + 1) rfl _ _ hQ5 Tryd.underlying24 rfl (by kernel_rfl) rfl ?_
  exact ⟨g, c4, R, rfl, hown6, hWd, hbt, hS5.1⟩

set_option maxRecDepth 100000 in
set_option maxHeartbeats 2000000 in
theorem minusC_x1 (w : World) (N M : Int) (a b : Option Addr) (n c k d : Nat) (la lb : List Int) (ha : SetIn w N a n c la) (hb : SetIn w M b k d lb) (hr : rightB N la = false ∨ rightB M lb = false) :
    Calls Tryd.prog 67 #[.agg #[.int .i64 N, .slice a n c], .agg #[.int .i64 M, .slice b k d], .func (.func 70) #[] #[]] w (SetX w 50) := by
  unfold SetX
  have qa := fun W (hw : Below w.heap.size w W) => right_any W N a n c la (ha.below hw)
  have qb := fun W (hw : Below w.heap.size w W) => right_any W M b k d lb (hb.below hw)
  obtain ⟨hS, hT⟩ := boxes2 w (.int .i64 N) (.slice a n c) (.int .i64 M) (.slice b k d)
  clear ha hb
  cases hra : rightB N la with
  | false =>
    simp only [hra] at qa
    clear hr hra qb
    go_enter Tryd.func67, Tryd.ntmps67
    go_wp2_with fail
    refine (qa _ hS.1).mono ?_
    rintro e w2 ⟨rfl, hB2⟩
    have hS2 := hS.step hB2
    have hT2 := hT.step hB2
    have q0 := hT2.c0
    have q1 := hT2.c1
    have q2 := hT2.f0
    have q3 := hT2.f1
    have hQ3 := hT2.range_set (.int .i64 0) (.slice none 0 0)
    have hS3 := hS2.put (.int .i64 0) (.slice none 0 0)
    clear hS hT hB2
    go_wp2_with fail
    refine bodyPost_cell2 rfl (w.heap.size + 1 + 1) rfl _ _ hQ3 Tryd.underlying24 rfl (by kernel_rfl) rfl ?_
    exact ⟨none, 0, rfl, World.ownsRow_nil _ _ _ _, hS3.1⟩
  | true =>
    have hrb : rightB M lb = false := by
      rcases hr with h | h
      · rw [hra] at h; cases h
      · exact h
    simp only [hra] at qa
    simp only [hrb] at qb
    clear hr hra hrb
    go_enter Tryd.func67, Tryd.ntmps67
    go_wp2_with fail
    refine (qa _ hS.1).mono ?_
    rintro e w2 ⟨rfl, hB2⟩
    have hS2 := hS.step hB2
    have hT2 := hT.step hB2
    have k0 := hS2.2.2.1
    have k1 := hS2.2.2.2
    clear hS hT hB2
    go_wp2_with fail
    refine (qb _ hS2.1).mono ?_
    rintro e w3 ⟨rfl, hB3⟩
    have hS3 := hS2.step hB3
    have hT3 := hT2.step hB3
    have q0 := hT3.c0
    have q1 := hT3.c1
    have q2 := hT3.f0
    have q3 := hT3.f1
    have hQ4 := hT3.range_set (.int .i64 0) (.slice none 0 0)
    have hS4 := hS3.put (.int .i64 0) (.slice none 0 0)
    clear hS2 hT2 hB3
    go_wp2_with fail
    refine bodyPost_cell2 rfl (w.heap.size + 1 + 1) rfl _ _ hQ4 Tryd.underlying24 rfl (by kernel_rfl) rfl ?_
    exact ⟨none, 0, rfl, World.ownsRow_nil _ _ _ _, hS4.1⟩

set_option maxRecDepth 100000 in
set_option maxHeartbeats 2000000 in
theorem minusC_x2 (w : World) (N M : Int) (a b : Option Addr) (n c k d : Nat) (la lb : List Int) (ha : SetIn w N a n c la) (hb : SetIn w M b k d lb) (hra : rightB N la = true) (hrb : rightB M lb = true) (hNM : N ≠ M) :
    Calls Tryd.prog 67 #[.agg #[.int .i64 N, .slice a n c], .agg #[.int .i64 M, .slice b k d], .func (.func 70) #[] #[]] w (SetX w 51) := by
  unfold SetX
  have qa := fun W (hw : Below w.heap.size w W) => right_any W N a n c la (ha.below hw)
  have qb := fun W (hw : Below w.heap.size w W) => right_any W M b k d lb (hb.below hw)
  obtain ⟨hS, hT⟩ := boxes2 w (.int .i64 N) (.slice a n c) (.int .i64 M) (.slice b k d)
  have hne : (N != M) = true := by simpa using hNM
  simp only [hra] at qa
  simp only [hrb] at qb
  clear ha hb hra hrb hNM
  go_enter Tryd.func67, Tryd.ntmps67
  go_wp2_with fail
  refine (qa _ hS.1).mono ?_
  rintro e w2 ⟨rfl, hB2⟩
  have hS2 := hS.step hB2
  have hT2 := hT.step hB2
  have k0 := hS2.2.2.1
  have k1 := hS2.2.2.2
  clear hS hT hB2
  go_wp2_with fail
  refine (qb _ hS2.1).mono ?_
  rintro e w3 ⟨rfl, hB3⟩
  have hS3 := hS2.step hB3
  have hT3 := hT2.step hB3
  have j0 := hS3.2.1.1
  have k0 := hS3.2.2.1
  have q0 := hT3.c0
  have q1 := hT3.c1
  have q2 := hT3.f0
  have q3 := hT3.f1
  have hQ4 := hT3.range_set (.int .i64 0) (.slice none 0 0)
  have hS4 := hS3.put (.int .i64 0) (.slice none 0 0)
  clear hS2 hT2 hB3
  go_wp2_with fail
  refine bodyPost_cell2 rfl (w.heap.size + 1 + 1) rfl _ _ hQ4 Tryd.underlying24 rfl (by kernel_rfl) rfl ?_
  exact ⟨none, 0, rfl, World.ownsRow_nil _ _ _ _, hS4.1⟩
end Go.Proofs.YtcdjfgkjllonhaaDoor
