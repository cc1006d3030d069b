/-
  The walk of joins, for any two sets; BitsJoins.
-/
import Derived.Test.YtcdjfgkjllonhaaDoorBjs
import Derived.Deep.CutBlock
namespace Go.Proofs.YtcdjfgkjllonhaaDoor
open Go.RowKit Go.Shelf

theorem boxes2j (w : World) (x0 x1 y0 y1 : Value) : Below w.heap.size w ((w.alloc (.cells #[x0, x1] 24)).alloc (.cells #[y0, y1] 24)) ∧ Two ((w.alloc (.cells #[x0, x1] 24)).alloc (.cells #[y0, y1] 24)) w.heap.size 24 x0 x1 ∧ Two ((w.alloc (.cells #[x0, x1] 24)).alloc (.cells #[y0, y1] 24)) (w.heap.size + 1) 24 y0 y1 :=
  ⟨((Below.refl _ w).alloc (Nat.le_refl _) _).alloc (by simp) _, (Two.new w _ _ _).alloc _, Two.new2 w _ _ _ _⟩

/-- Why a join of two sets is refused. -/
def XJ (x N M : Int) (l m : List Int) : Prop := (x = 50 ∧ (rightB N l = false ∨ rightB M m = false)) ∨ (x = 51 ∧ rightB N l = true ∧ rightB M m = true ∧ N ≠ M)
theorem orX' (w : World) (N M x : Int) (a b : Option Addr) (n c k d : Nat) (l m : List Int) (ha : SetIn w N a n c l) (hb : SetIn w M b k d m) (h : XJ x N M l m) :
    Calls Tryd.prog 30 #[.agg #[.int .i64 N, .slice a n c], .agg #[.int .i64 M, .slice b k d]] w (SetX w x) := by
  rcases h with ⟨rfl, h⟩ | ⟨rfl, h1, h2, h3⟩
  · exact orX_any w N M _ a b n c k d l m ha hb fun W h1 h2 => orC_x1 W N M a b n c k d l m h1 h2 h
  · exact orX_any w N M _ a b n c k d l m ha hb fun W h4 h5 => orC_x2 W N M a b n c k d l m h4 h5 h1 h2 h3
theorem andX' (w : World) (N M x : Int) (a b : Option Addr) (n c k d : Nat) (l m : List Int) (ha : SetIn w N a n c l) (hb : SetIn w M b k d m) (h : XJ x N M l m) :
    Calls Tryd.prog 31 #[.agg #[.int .i64 N, .slice a n c], .agg #[.int .i64 M, .slice b k d]] w (SetX w x) := by
  rcases h with ⟨rfl, h⟩ | ⟨rfl, h1, h2, h3⟩
  · exact andX_any w N M _ a b n c k d l m ha hb fun W h1 h2 => andC_x1 W N M a b n c k d l m h1 h2 h
  · exact andX_any w N M _ a b n c k d l m ha hb fun W h4 h5 => andC_x2 W N M a b n c k d l m h4 h5 h1 h2 h3
theorem minusX' (w : World) (N M x : Int) (a b : Option Addr) (n c k d : Nat) (l m : List Int) (ha : SetIn w N a n c l) (hb : SetIn w M b k d m) (h : XJ x N M l m) :
    Calls Tryd.prog 32 #[.agg #[.int .i64 N, .slice a n c], .agg #[.int .i64 M, .slice b k d]] w (SetX w x) := by
  rcases h with ⟨rfl, h⟩ | ⟨rfl, h1, h2, h3⟩
  · exact minusX_any w N M _ a b n c k d l m ha hb fun W h1 h2 => minusC_x1 W N M a b n c k d l m h1 h2 h
  · exact minusX_any w N M _ a b n c k d l m ha hb fun W h4 h5 => minusC_x2 W N M a b n c k d l m h4 h5 h1 h2 h3

theorem is_yes {W : World} {N : Int} {g g2 : Option Addr} {n c c2 : Nat} {R R2 : List Int} (h : Sl .u64 W g n c R) (h2 : Sl .u64 W g2 n c2 R2) (he : R = R2) :
    Calls Tryd.prog 51 #[.agg #[.int .i64 N, .slice g n c], .agg #[.int .i64 N, .slice g2 n c2]] W fun e w' => e = .returned (.bool true) ∧ Below W.heap.size W w' :=
  (is_any W N N g g2 n c n c2 R R2 h h2).mono fun e w' ⟨h1, h3⟩ => ⟨by rw [h1, eqB_yes he]; simp, h3⟩
theorem bits_j {N : Nat} {l l2 : List Int} (h : rightB (N : Int) l = true) (h2 : rightB (N : Int) l2 = true) (i : Nat) :
    ((bt l i || bt l2 i) = (decide (i < N) && jn false true true true (bt l i) (bt l2 i))) ∧ ((bt l i && bt l2 i) = (decide (i < N) && jn false false false true (bt l i) (bt l2 i))) ∧ ((bt l i && !bt l2 i) = (decide (i < N) && jn false true false false (bt l i) (bt l2 i))) := by
  by_cases hi : i < N
  · rw [decide_eq_true hi]
    cases bt l i <;> cases bt l2 i <;> simp [jn]
  · rw [decide_eq_false hi, (of_rightB h).out (by omega), (of_rightB h2).out (by omega)]
    simp
theorem same_r {R R2 : List Int} {n : Nat} (h1 : R.length = n) (h2 : R2.length = n) (hw : Wds R) (hw2 : Wds R2) (h : ∀ i, bt R i = bt R2 i) : R = R2 := words_ext (by rw [h1, h2]) hw hw2 h
theorem joinQ {W : World} {N K : Nat} {a a2 : Option Addr} {n c n2 c2 : Nat} {l l2 : List Int} (z o t u : Bool) (h : Sl .u64 W a n c l) (h2 : Sl .u64 W a2 n2 c2 l2) (hw : Wds l) (hw2 : Wds l2) (hN : N ≤ 65536) (hK : K = (N + 63) / 64) :
    Calls Tryd.prog 17 #[.int .i64 (N : Int), .slice a n c, .slice a2 n2 c2, .bool z, .bool o, .bool t, .bool u] W (SetQ W N K fun i => decide (i < N) && jn z o t u (bt l i) (bt l2 i)) :=
  (rjoin_any W N a a2 n c n2 c2 l l2 z o t u h h2 hw hw2 hN).mono fun _ _ h => SetR.q h hK

/-- What is lent twice: the two variables, their rows, and where these lie. -/
def Lnt2 (w W : World) (N M : Int) (xb yb : Nat) (g g2 : Option Addr) (n c n2 c2 : Nat) (l l2 : List Int) : Prop :=
  Below w.heap.size w W ∧ Two W xb 24 (.int .i64 N) (.slice g n c) ∧ Two W yb 24 (.int .i64 M) (.slice g2 n2 c2) ∧
    W.ownsRow w.heap.size 30 1 (.slice g (n + 12) c) (n + 12) ((l ++ marksF markN 12).map (Value.int .u64)) ∧ W.ownsRow w.heap.size 30 1 (.slice g2 (n2 + 12) c2) (n2 + 12) ((l2 ++ marksF markN 12).map (Value.int .u64)) ∧
    ∃ m1, w.heap.size ≤ m1 ∧ m1 ≤ W.heap.size ∧ Rng g w.heap.size m1 ∧ Rng g2 m1 W.heap.size

set_option maxRecDepth 100000 in
set_option maxHeartbeats 8000000 in
theorem joins_any (w : World) (hT : Tbz w) (N M : Int) (a a2 : Option Addr) (n n2 c c2 : Nat) (l l2 : List Int) (s1 : SetIn w N a n c l) (s2 : SetIn w M a2 n2 c2 l2) :
    Calls Tryd.prog 15 #[.agg #[.int .i64 N, .slice a n c], .agg #[.int .i64 M, .slice a2 n2 c2]] w fun e w' => e = .returned (.bool true) ∧ Below w.heap.size w w' := by
  obtain ⟨hB0, hTa, hTb⟩ := boxes2j w (.int .i64 N) (.slice a n c) (.int .i64 M) (.slice a2 n2 c2)
  have a0 := hTa.c0
  have a1 := hTa.c1
  have b0 := hTb.c0
  have b1 := hTb.c1
  have hn0 := s1.sl.2.2.1
  have hn1 := s2.sl.2.2.1
  go_enter Tryd.func15, Tryd.ntmps15
  by_cases hlt : 20 < n
  · have d1 : decide ((20 : Int) < (n : Int)) = true := decide_eq_true (by omega)
    go_wp2_with fail
    go_ret
    exact ⟨rfl, hB0⟩
  have d1 : decide ((20 : Int) < (n : Int)) = false := decide_eq_false (by omega)
  by_cases hlt2 : 20 < n2
  · have d2 : decide ((20 : Int) < (n2 : Int)) = true := decide_eq_true (by omega)
    go_wp2_with fail
    go_ret
    exact ⟨rfl, hB0⟩
  have d2 : decide ((20 : Int) < (n2 : Int)) = false := decide_eq_false (by omega)
  go_upto_region 3 with fail
  clear a0 a1 b0 b1 d1 d2
  obtain ⟨V0, hV0⟩ : ∃ V, V = ((w.alloc (.cells #[.int .i64 N, .slice a n c] 24)).alloc (.cells #[.int .i64 M, .slice a2 n2 c2] 24)) := ⟨_, rfl⟩
  rw [← hV0] at hB0 hTa hTb ⊢
  clear hV0
  go_cut [5, 6] from 24 to 36 (fun P Q wx => ∃ (xb yb : Nat) (g g2 : Option Addr) (c3 c4 : Nat), P = .pointer (some ⟨xb, 0, none⟩) ∧ Q = .pointer (some ⟨yb, 0, none⟩) ∧ Lnt2 w wx N M xb yb g g2 n c3 n2 c4 l l2 ∧ Two wx w.heap.size 24 (.int .i64 N) (.slice a n c) ∧ Two wx (w.heap.size + 1) 24 (.int .i64 M) (.slice a2 n2 c2))
  case first =>
    refine wp_region_noPanic ?_
    refine wp_region_held_drew (S := fun W => Below w.heap.size w W ∧ W.cell? ⟨w.heap.size, 0, none⟩ = some (.int .i64 N) ∧ W.cell? ⟨w.heap.size, 1, none⟩ = some (.slice a n c) ∧ W.cell? ⟨w.heap.size + 1, 0, none⟩ = some (.int .i64 M) ∧ W.cell? ⟨w.heap.size + 1, 1, none⟩ = some (.slice a2 n2 c2)) (by kernel_rfl) (⟨hB0.drew, (two_drew hTa).c0, (two_drew hTa).c1, (two_drew hTb).c0, (two_drew hTb).c1⟩) (fun hHeld => ?_)
    obtain ⟨x0, hx00⟩ : ∃ wz, wz = V0.drew := ⟨_, rfl⟩
    have hzx0 : V0.heap.size ≤ x0.heap.size := by rw [hx00]; exact Nat.le_refl _
    have hbx0 : Below w.heap.size w x0 := by rw [hx00]; exact hB0.drew
    have hTax0 : Two x0 w.heap.size 24 (.int .i64 N) (.slice a n c) := by rw [hx00]; exact two_drew hTa
    have hTbx0 : Two x0 (w.heap.size + 1) 24 (.int .i64 M) (.slice a2 n2 c2) := by rw [hx00]; exact two_drew hTb
    have hv1 := hTb.lt
    have hw0 := hbx0.size
    rw [← hx00] at hHeld ⊢
    clear hx00 hB0 hTa hTb
    refine wpAnyH_take (i := 0) (oi := { dst := some 24, op := Go.Op.fieldAddr 24 (Go.Operand.tmp 2) 0, type := 0, pos := "law.go:128", after := #[], guard := none }) (v := ?v0x1) rfl (by kernel_rfl) (by kernel_rfl) (by kernel_rfl) (fun _ _ _ h => h) (Or.inl ⟨by rfl, ?hy0x1⟩) hHeld ?rest0x1
    case hy0x1 =>
      intro w hSw
      try dsimp only at hSw
      go_simp
      try with_reducible rfl
    try simp only [Act.put, List.setIfInBounds_toArray, List.set_cons_zero, List.set_cons_succ]
    refine wpAnyH_take (i := 1) (oi := { dst := some 25, op := Go.Op.load 3 (Go.Operand.tmp 24), type := 3, pos := "law.go:128", after := #[{ on := 0, ground := Go.Ground.data }], guard := none }) (v := ?v1x2) rfl (by kernel_rfl) (by kernel_rfl) (by kernel_rfl) (fun _ _ _ h => h) (Or.inl ⟨by rfl, ?hy1x2⟩) hHeld ?rest1x2
    case hy1x2 =>
      intro w hSw
      try dsimp only at hSw
      go_simp
      try with_reducible rfl
    try simp only [Act.put, List.setIfInBounds_toArray, List.set_cons_zero, List.set_cons_succ]
    refine wpAnyH_take (i := 2) (oi := { dst := some 26, op := Go.Op.fieldAddr 24 (Go.Operand.tmp 2) 1, type := 0, pos := "law.go:128", after := #[], guard := none }) (v := ?v2x3) rfl (by kernel_rfl) (by kernel_rfl) (by kernel_rfl) (fun _ _ _ h => h) (Or.inl ⟨by rfl, ?hy2x3⟩) hHeld ?rest2x3
    case hy2x3 =>
      intro w hSw
      try dsimp only at hSw
      go_simp
      try with_reducible rfl
    try simp only [Act.put, List.setIfInBounds_toArray, List.set_cons_zero, List.set_cons_succ]
    refine wpAnyH_take (i := 3) (oi := { dst := some 27, op := Go.Op.load 22 (Go.Operand.tmp 26), type := 22, pos := "law.go:128", after := #[{ on := 2, ground := Go.Ground.data }], guard := none }) (v := ?v3x4) rfl (by kernel_rfl) (by kernel_rfl) (by kernel_rfl) (fun _ _ _ h => h) (Or.inl ⟨by rfl, ?hy3x4⟩) hHeld ?rest3x4
    case hy3x4 =>
      intro w hSw
      try dsimp only at hSw
      go_simp
      try with_reducible rfl
    try simp only [Act.put, List.setIfInBounds_toArray, List.set_cons_zero, List.set_cons_succ]
    refine wpAnyH_take (i := 6) (oi := { dst := some 30, op := Go.Op.fieldAddr 24 (Go.Operand.tmp 3) 0, type := 0, pos := "law.go:128", after := #[{ on := 14, ground := Go.Ground.gcOnly Go.Departure.lateStores }], guard := none }) (v := ?v6x5) rfl (by kernel_rfl) (by kernel_rfl) (by kernel_rfl) (fun _ _ _ h => h) (Or.inl ⟨by rfl, ?hy6x5⟩) hHeld ?rest6x5
    case hy6x5 =>
      intro w hSw
      try dsimp only at hSw
      go_simp
      try with_reducible rfl
    try simp only [Act.put, List.setIfInBounds_toArray, List.set_cons_zero, List.set_cons_succ]
    refine wpAnyH_take (i := 7) (oi := { dst := some 31, op := Go.Op.load 3 (Go.Operand.tmp 30), type := 3, pos := "law.go:128", after := #[{ on := 6, ground := Go.Ground.data }, { on := 14, ground := Go.Ground.gcOnly Go.Departure.lateStores }], guard := none }) (v := ?v7x6) rfl (by kernel_rfl) (by kernel_rfl) (by kernel_rfl) (fun _ _ _ h => h) (Or.inl ⟨by rfl, ?hy7x6⟩) hHeld ?rest7x6
    case hy7x6 =>
      intro w hSw
      try dsimp only at hSw
      go_simp
      try with_reducible rfl
    try simp only [Act.put, List.setIfInBounds_toArray, List.set_cons_zero, List.set_cons_succ]
    refine wpAnyH_take (i := 8) (oi := { dst := some 32, op := Go.Op.fieldAddr 24 (Go.Operand.tmp 3) 1, type := 0, pos := "law.go:128", after := #[], guard := none }) (v := ?v8x7) rfl (by kernel_rfl) (by kernel_rfl) (by kernel_rfl) (fun _ _ _ h => h) (Or.inl ⟨by rfl, ?hy8x7⟩) hHeld ?rest8x7
    case hy8x7 =>
      intro w hSw
      try dsimp only at hSw
      go_simp
      try with_reducible rfl
    try simp only [Act.put, List.setIfInBounds_toArray, List.set_cons_zero, List.set_cons_succ]
    refine wpAnyH_take (i := 9) (oi := { dst := some 33, op := Go.Op.load 22 (Go.Operand.tmp 32), type := 22, pos := "law.go:128", after := #[{ on := 8, ground := Go.Ground.data }], guard := none }) (v := ?v9x8) rfl (by kernel_rfl) (by kernel_rfl) (by kernel_rfl) (fun _ _ _ h => h) (Or.inl ⟨by rfl, ?hy9x8⟩) hHeld ?rest9x8
    case hy9x8 =>
      intro w hSw
      try dsimp only at hSw
      go_simp
      try with_reducible rfl
    try simp only [Act.put, List.setIfInBounds_toArray, List.set_cons_zero, List.set_cons_succ]
    refine wpAnyH_ready (rs := [4, 12, 13]) (by kernel_rfl) (by simp) ?_
    refine AllReadyH.cons (o := { dst := some 28, op := Go.Op.call { callee := Go.Callee.value (Go.Operand.func 38), args := #[Go.Operand.tmp 27], argTypes := #[22] }, type := 22, pos := "law.go:128", after := #[{ on := 3, ground := Go.Ground.data }], guard := none }) rfl (fun K hK => ?_) (AllReadyH.cons (o := { dst := some 5, op := Go.Op.alloc 24, type := 0, pos := "law.go:128", after := #[], guard := none }) rfl (fun K hK => ?_) (AllReadyH.cons (o := { dst := some 6, op := Go.Op.alloc 24, type := 0, pos := "law.go:128", after := #[], guard := none }) rfl (fun K hK => ?_) AllReadyH.nil))
    · go_simp
      refine (lentN_any x0 a n c l (s1.sl.below hbx0) (by omega)).mono ?_
      unfold LentN
      rintro e x1 ⟨g4, c4, rfl, ho4x1, hDx1⟩
      have hbx1 := bstep hbx0 hDx1
      have hzx1 := hDx1.size
      have hTax1 := hTax0.step hDx1
      have hTbx1 := hTbx0.step hDx1
      have hq4 := fun q e => own_blk ho4x1 (k := q) e
      have hR4 := Rng.own ho4x1
      go_wp2_with fail
      refine hK.out _ _ (⟨hbx1, hTax1.c0, hTax1.c1, hTbx1.c0, hTbx1.c1⟩) (fun hHeld => ?_)
      clear hK K
      try simp only [Act.put, List.setIfInBounds_toArray, List.set_cons_zero, List.set_cons_succ]
      refine wpAnyH_take (i := 5) (oi := { dst := some 29, op := Go.Op.build 24 #[(0, Go.Operand.tmp 25), (1, Go.Operand.tmp 28)], type := 24, pos := "law.go:128", after := #[{ on := 1, ground := Go.Ground.data }, { on := 4, ground := Go.Ground.data }], guard := none }) (v := ?v5x10) rfl (by kernel_rfl) (by kernel_rfl) (by kernel_rfl) (fun _ _ _ h => h) (Or.inl ⟨by rfl, ?hy5x10⟩) hHeld ?rest5x10
      case hy5x10 =>
        intro w hSw
        try dsimp only at hSw
        go_simp
        try with_reducible rfl
      try simp only [Act.put, List.setIfInBounds_toArray, List.set_cons_zero, List.set_cons_succ]
      refine wpAnyH_ready (rs := [10, 12, 13]) (by kernel_rfl) (by simp) ?_
      refine AllReadyH.cons (o := { dst := some 34, op := Go.Op.call { callee := Go.Callee.value (Go.Operand.func 38), args := #[Go.Operand.tmp 33], argTypes := #[22] }, type := 22, pos := "law.go:128", after := #[{ on := 9, ground := Go.Ground.data }, { on := 4, ground := Go.Ground.chain }], guard := none }) rfl (fun K hK => ?_) (AllReadyH.cons (o := { dst := some 5, op := Go.Op.alloc 24, type := 0, pos := "law.go:128", after := #[], guard := none }) rfl (fun K hK => ?_) (AllReadyH.cons (o := { dst := some 6, op := Go.Op.alloc 24, type := 0, pos := "law.go:128", after := #[], guard := none }) rfl (fun K hK => ?_) AllReadyH.nil))
      · go_simp
        refine (lentN_any x1 a2 n2 c2 l2 (s2.sl.below hbx1) (by omega)).mono ?_
        unfold LentN
        rintro e x2 ⟨g10, c10, rfl, ho10x2, hDx2⟩
        have hbx2 := bstep hbx1 hDx2
        have hzx2 := hDx2.size
        have hTax2 := hTax1.step hDx2
        have hTbx2 := hTbx1.step hDx2
        have ho4x2 := ownsRow_below ho4x1 hDx2
        have hq10 := fun q e => own_blk ho10x2 (k := q) e
        have hR10 := Rng.own ho10x2
        go_wp2_with fail
        refine hK.out _ _ (⟨hbx2, hTax2.c0, hTax2.c1, hTbx2.c0, hTbx2.c1⟩) (fun hHeld => ?_)
        clear hK K
        try simp only [Act.put, List.setIfInBounds_toArray, List.set_cons_zero, List.set_cons_succ]
        refine wpAnyH_take (i := 11) (oi := { dst := some 35, op := Go.Op.build 24 #[(0, Go.Operand.tmp 31), (1, Go.Operand.tmp 34)], type := 24, pos := "law.go:128", after := #[{ on := 7, ground := Go.Ground.data }, { on := 10, ground := Go.Ground.data }, { on := 14, ground := Go.Ground.gcOnly Go.Departure.lateStores }], guard := none }) (v := ?v11x12) rfl (by kernel_rfl) (by kernel_rfl) (by kernel_rfl) (fun _ _ _ h => h) (Or.inl ⟨by rfl, ?hy11x12⟩) hHeld ?rest11x12
        case hy11x12 =>
          intro w hSw
          try dsimp only at hSw
          go_simp
          try with_reducible rfl
        try simp only [Act.put, List.setIfInBounds_toArray, List.set_cons_zero, List.set_cons_succ]
        refine wpAnyH_ready (rs := [12, 13]) (by kernel_rfl) (by simp) ?_
        refine AllReadyH.cons (o := { dst := some 5, op := Go.Op.alloc 24, type := 0, pos := "law.go:128", after := #[], guard := none }) rfl (fun K hK => ?_) (AllReadyH.cons (o := { dst := some 6, op := Go.Op.alloc 24, type := 0, pos := "law.go:128", after := #[], guard := none }) rfl (fun K hK => ?_) AllReadyH.nil)
        · obtain ⟨x3, hwx3⟩ : ∃ wz, wz = x2.alloc (.cells #[.int .i64 0, .slice none 0 0] 24) := ⟨_, rfl⟩
          have hDx3 : Below x2.heap.size x2 x3 := by rw [hwx3]; exact (Below.refl _ _).alloc (Nat.le_refl _) _
          have ht12x3 : Two x3 x2.heap.size 24 (.int .i64 0) (.slice none 0 0) := by rw [hwx3]; exact Two.new _ _ _ _
          have hbx3 := bstep hbx2 hDx3
          have hzx3 := hDx3.size
          have hTax3 := hTax2.step hDx3
          have hTbx3 := hTbx2.step hDx3
          have ho4x3 := ownsRow_below ho4x2 hDx3
          have ho10x3 := ownsRow_below ho10x2 hDx3
          have hk12 := ht12x3.lt
          have hg12 : V0.heap.size ≤ x2.heap.size := by omega
          go_simp
          rw [← hwx3]
          clear hwx3
          refine hK.out _ _ (⟨hbx3, hTax3.c0, hTax3.c1, hTbx3.c0, hTbx3.c1⟩) (fun hHeld => ?_)
          clear hK K
          try simp only [Act.put, List.setIfInBounds_toArray, List.set_cons_zero, List.set_cons_succ]
          refine wpAnyH_ready (rs := [13]) (by kernel_rfl) (by simp) ?_
          refine AllReadyH.cons (o := { dst := some 6, op := Go.Op.alloc 24, type := 0, pos := "law.go:128", after := #[], guard := none }) rfl (fun K hK => ?_) AllReadyH.nil
          · obtain ⟨x4, hwx4⟩ : ∃ wz, wz = x3.alloc (.cells #[.int .i64 0, .slice none 0 0] 24) := ⟨_, rfl⟩
            have hDx4 : Below x3.heap.size x3 x4 := by rw [hwx4]; exact (Below.refl _ _).alloc (Nat.le_refl _) _
            have ht13x4 : Two x4 x3.heap.size 24 (.int .i64 0) (.slice none 0 0) := by rw [hwx4]; exact Two.new _ _ _ _
            have hbx4 := bstep hbx3 hDx4
            have hzx4 := hDx4.size
            have hTax4 := hTax3.step hDx4
            have hTbx4 := hTbx3.step hDx4
            have ho4x4 := ownsRow_below ho4x3 hDx4
            have ho10x4 := ownsRow_below ho10x3 hDx4
            have ht12x4 := ht12x3.step hDx4
            have hk13 := ht13x4.lt
            have hg13 : V0.heap.size ≤ x3.heap.size := by omega
            go_simp
            rw [← hwx4]
            clear hwx4
            refine hK.out _ _ (⟨hbx4, hTax4.c0, hTax4.c1, hTbx4.c0, hTbx4.c1⟩) (fun hHeld => ?_)
            clear hK K
            try simp only [Act.put, List.setIfInBounds_toArray, List.set_cons_zero, List.set_cons_succ]
            refine wpAnyH_ready (rs := [14]) (by kernel_rfl) (by simp) ?_
            refine AllReadyH.cons (o := { dst := none, op := Go.Op.store 24 (Go.Operand.tmp 5) (Go.Operand.tmp 29), type := 0, pos := "law.go:128", after := #[{ on := 12, ground := Go.Ground.data }, { on := 5, ground := Go.Ground.data }, { on := 10, ground := Go.Ground.chain }, { on := 0, ground := Go.Ground.phase }, { on := 1, ground := Go.Ground.phase }, { on := 2, ground := Go.Ground.phase }, { on := 3, ground := Go.Ground.phase }, { on := 4, ground := Go.Ground.phase }, { on := 5, ground := Go.Ground.phase }, { on := 6, ground := Go.Ground.textOnly Go.Departure.lateStores }, { on := 7, ground := Go.Ground.textOnly Go.Departure.lateStores }, { on := 8, ground := Go.Ground.textOnly Go.Departure.lateStores }, { on := 9, ground := Go.Ground.textOnly Go.Departure.lateStores }, { on := 10, ground := Go.Ground.textOnly Go.Departure.lateStoresUnsure }, { on := 11, ground := Go.Ground.textOnly Go.Departure.lateStores }, { on := 12, ground := Go.Ground.phase }, { on := 13, ground := Go.Ground.phase }], guard := none }) rfl (fun K hK => ?_) AllReadyH.nil
            · have q0 := ht12x4.c0
              have q1 := ht12x4.c1
              have q2 := ht12x4.f0
              have q3 := ht12x4.f1
              obtain ⟨x5, hwx5⟩ : ∃ wz, wz = ((x4.setCell ⟨x2.heap.size, 0, none⟩ (.int .i64 N)).setCell ⟨x2.heap.size, 1, none⟩ (.slice g4 n c4)) := ⟨_, rfl⟩
              have hbx5 : Below w.heap.size w x5 := by rw [hwx5]; exact (hbx4.setCell (p := ⟨x2.heap.size, 0, none⟩) (by show w.heap.size ≤ x2.heap.size; omega) _).setCell (p := ⟨x2.heap.size, 1, none⟩) (by show w.heap.size ≤ x2.heap.size; omega) _
              have hzx5 : x4.heap.size ≤ x5.heap.size := by rw [hwx5]; simp
              have ht12x5 : Two x5 x2.heap.size 24 (.int .i64 N) (.slice g4 n c4) := by rw [hwx5]; exact put1 (put0 ht12x4 _) _
              have ht13x5 : Two x5 x3.heap.size 24 (.int .i64 0) (.slice none 0 0) := by rw [hwx5]; exact two_set (two_set ht13x4 (by omega) _ _) (by omega) _ _
              have hTax5 : Two x5 w.heap.size 24 (.int .i64 N) (.slice a n c) := by rw [hwx5]; exact two_set (two_set hTax4 (by omega) _ _) (by omega) _ _
              have hTbx5 : Two x5 (w.heap.size + 1) 24 (.int .i64 M) (.slice a2 n2 c2) := by rw [hwx5]; exact two_set (two_set hTbx4 (by omega) _ _) (by omega) _ _
              have ho4x5 : x5.ownsRow x0.heap.size 30 1 (.slice g4 (n + 12) c4) (n + 12) ((l ++ marksF markN 12).map (Value.int .u64)) := by rw [hwx5]; exact own_nej (own_nej ho4x4 (fun q e => by have := hq4 q e; omega) _ _) (fun q e => by have := hq4 q e; omega) _ _
              have ho10x5 : x5.ownsRow x1.heap.size 30 1 (.slice g10 (n2 + 12) c10) (n2 + 12) ((l2 ++ marksF markN 12).map (Value.int .u64)) := by rw [hwx5]; exact own_nej (own_nej ho10x4 (fun q e => by have := hq10 q e; omega) _ _) (fun q e => by have := hq10 q e; omega) _ _
              go_simp
              rw [← hwx5]
              clear hwx5 q0 q1 q2 q3
              refine hK.out _ _ (⟨hbx5, hTax5.c0, hTax5.c1, hTbx5.c0, hTbx5.c1⟩) (fun hHeld => ?_)
              clear hK K
              try simp only [Act.put, List.setIfInBounds_toArray, List.set_cons_zero, List.set_cons_succ]
              refine wpAnyH_ready (rs := [15]) (by kernel_rfl) (by simp) ?_
              refine AllReadyH.cons (o := { dst := none, op := Go.Op.store 24 (Go.Operand.tmp 6) (Go.Operand.tmp 35), type := 0, pos := "law.go:128", after := #[{ on := 13, ground := Go.Ground.data }, { on := 11, ground := Go.Ground.data }, { on := 14, ground := Go.Ground.chain }, { on := 0, ground := Go.Ground.phase }, { on := 1, ground := Go.Ground.phase }, { on := 2, ground := Go.Ground.phase }, { on := 3, ground := Go.Ground.phase }, { on := 4, ground := Go.Ground.phase }, { on := 5, ground := Go.Ground.phase }, { on := 6, ground := Go.Ground.phase }, { on := 7, ground := Go.Ground.phase }, { on := 8, ground := Go.Ground.phase }, { on := 9, ground := Go.Ground.phase }, { on := 10, ground := Go.Ground.phase }, { on := 11, ground := Go.Ground.phase }, { on := 12, ground := Go.Ground.phase }, { on := 13, ground := Go.Ground.phase }, { on := 14, ground := Go.Ground.phase }], guard := none }) rfl (fun K hK => ?_) AllReadyH.nil
              · have q0 := ht13x5.c0
                have q1 := ht13x5.c1
                have q2 := ht13x5.f0
                have q3 := ht13x5.f1
                obtain ⟨x6, hwx6⟩ : ∃ wz, wz = ((x5.setCell ⟨x3.heap.size, 0, none⟩ (.int .i64 M)).setCell ⟨x3.heap.size, 1, none⟩ (.slice g10 n2 c10)) := ⟨_, rfl⟩
                have hbx6 : Below w.heap.size w x6 := by rw [hwx6]; exact (hbx5.setCell (p := ⟨x3.heap.size, 0, none⟩) (by show w.heap.size ≤ x3.heap.size; omega) _).setCell (p := ⟨x3.heap.size, 1, none⟩) (by show w.heap.size ≤ x3.heap.size; omega) _
                have hzx6 : x5.heap.size ≤ x6.heap.size := by rw [hwx6]; simp
                have ht13x6 : Two x6 x3.heap.size 24 (.int .i64 M) (.slice g10 n2 c10) := by rw [hwx6]; exact put1 (put0 ht13x5 _) _
                have ht12x6 : Two x6 x2.heap.size 24 (.int .i64 N) (.slice g4 n c4) := by rw [hwx6]; exact two_set (two_set ht12x5 (by omega) _ _) (by omega) _ _
                have hTax6 : Two x6 w.heap.size 24 (.int .i64 N) (.slice a n c) := by rw [hwx6]; exact two_set (two_set hTax5 (by omega) _ _) (by omega) _ _
                have hTbx6 : Two x6 (w.heap.size + 1) 24 (.int .i64 M) (.slice a2 n2 c2) := by rw [hwx6]; exact two_set (two_set hTbx5 (by omega) _ _) (by omega) _ _
                have ho4x6 : x6.ownsRow x0.heap.size 30 1 (.slice g4 (n + 12) c4) (n + 12) ((l ++ marksF markN 12).map (Value.int .u64)) := by rw [hwx6]; exact own_nej (own_nej ho4x5 (fun q e => by have := hq4 q e; omega) _ _) (fun q e => by have := hq4 q e; omega) _ _
                have ho10x6 : x6.ownsRow x1.heap.size 30 1 (.slice g10 (n2 + 12) c10) (n2 + 12) ((l2 ++ marksF markN 12).map (Value.int .u64)) := by rw [hwx6]; exact own_nej (own_nej ho10x5 (fun q e => by have := hq10 q e; omega) _ _) (fun q e => by have := hq10 q e; omega) _ _
                go_simp
                rw [← hwx6]
                clear hwx6 q0 q1 q2 q3
                refine hK.out _ _ (⟨hbx6, hTax6.c0, hTax6.c1, hTbx6.c0, hTbx6.c1⟩) (fun hHeld => ?_)
                clear hK K
                try simp only [Act.put, List.setIfInBounds_toArray, List.set_cons_zero, List.set_cons_succ]
                refine wpAnyH_done (by kernel_rfl) ?_ _
                refine NoPanic.normal ?_
                go_wp2_with fail
                go_meet
                case rel => exact ⟨_, _, g4, g10, c4, c10, rfl, rfl, ⟨hbx6, ht12x6, ht13x6, own_base ho4x6 (by omega), own_base ho10x6 (by omega), x1.heap.size, by omega, by omega, (fun q e => by have := hR4 q e; omega), (fun q e => by have := hR10 q e; omega)⟩, hTax6, hTbx6⟩
        · obtain ⟨x7, hwx7⟩ : ∃ wz, wz = x2.alloc (.cells #[.int .i64 0, .slice none 0 0] 24) := ⟨_, rfl⟩
          have hDx7 : Below x2.heap.size x2 x7 := by rw [hwx7]; exact (Below.refl _ _).alloc (Nat.le_refl _) _
          have ht13x7 : Two x7 x2.heap.size 24 (.int .i64 0) (.slice none 0 0) := by rw [hwx7]; exact Two.new _ _ _ _
          have hbx7 := bstep hbx2 hDx7
          have hzx7 := hDx7.size
          have hTax7 := hTax2.step hDx7
          have hTbx7 := hTbx2.step hDx7
          have ho4x7 := ownsRow_below ho4x2 hDx7
          have ho10x7 := ownsRow_below ho10x2 hDx7
          have hk13 := ht13x7.lt
          have hg13 : V0.heap.size ≤ x2.heap.size := by omega
          go_simp
          rw [← hwx7]
          clear hwx7
          refine hK.out _ _ (⟨hbx7, hTax7.c0, hTax7.c1, hTbx7.c0, hTbx7.c1⟩) (fun hHeld => ?_)
          clear hK K
          try simp only [Act.put, List.setIfInBounds_toArray, List.set_cons_zero, List.set_cons_succ]
          refine wpAnyH_ready (rs := [12]) (by kernel_rfl) (by simp) ?_
          refine AllReadyH.cons (o := { dst := some 5, op := Go.Op.alloc 24, type := 0, pos := "law.go:128", after := #[], guard := none }) rfl (fun K hK => ?_) AllReadyH.nil
          · obtain ⟨x8, hwx8⟩ : ∃ wz, wz = x7.alloc (.cells #[.int .i64 0, .slice none 0 0] 24) := ⟨_, rfl⟩
            have hDx8 : Below x7.heap.size x7 x8 := by rw [hwx8]; exact (Below.refl _ _).alloc (Nat.le_refl _) _
            have ht12x8 : Two x8 x7.heap.size 24 (.int .i64 0) (.slice none 0 0) := by rw [hwx8]; exact Two.new _ _ _ _
            have hbx8 := bstep hbx7 hDx8
            have hzx8 := hDx8.size
            have hTax8 := hTax7.step hDx8
            have hTbx8 := hTbx7.step hDx8
            have ho4x8 := ownsRow_below ho4x7 hDx8
            have ho10x8 := ownsRow_below ho10x7 hDx8
            have ht13x8 := ht13x7.step hDx8
            have hk12 := ht12x8.lt
            have hg12 : V0.heap.size ≤ x7.heap.size := by omega
            go_simp
            rw [← hwx8]
            clear hwx8
            refine hK.out _ _ (⟨hbx8, hTax8.c0, hTax8.c1, hTbx8.c0, hTbx8.c1⟩) (fun hHeld => ?_)
            clear hK K
            try simp only [Act.put, List.setIfInBounds_toArray, List.set_cons_zero, List.set_cons_succ]
            refine wpAnyH_ready (rs := [14]) (by kernel_rfl) (by simp) ?_
            refine AllReadyH.cons (o := { dst := none, op := Go.Op.store 24 (Go.Operand.tmp 5) (Go.Operand.tmp 29), type := 0, pos := "law.go:128", after := #[{ on := 12, ground := Go.Ground.data }, { on := 5, ground := Go.Ground.data }, { on := 10, ground := Go.Ground.chain }, { on := 0, ground := Go.Ground.phase }, { on := 1, ground := Go.Ground.phase }, { on := 2, ground := Go.Ground.phase }, { on := 3, ground := Go.Ground.phase }, { on := 4, ground := Go.Ground.phase }, { on := 5, ground := Go.Ground.phase }, { on := 6, ground := Go.Ground.textOnly Go.Departure.lateStores }, { on := 7, ground := Go.Ground.textOnly Go.Departure.lateStores }, { on := 8, ground := Go.Ground.textOnly Go.Departure.lateStores }, { on := 9, ground := Go.Ground.textOnly Go.Departure.lateStores }, { on := 10, ground := Go.Ground.textOnly Go.Departure.lateStoresUnsure }, { on := 11, ground := Go.Ground.textOnly Go.Departure.lateStores }, { on := 12, ground := Go.Ground.phase }, { on := 13, ground := Go.Ground.phase }], guard := none }) rfl (fun K hK => ?_) AllReadyH.nil
            · have q0 := ht12x8.c0
              have q1 := ht12x8.c1
              have q2 := ht12x8.f0
              have q3 := ht12x8.f1
              obtain ⟨x9, hwx9⟩ : ∃ wz, wz = ((x8.setCell ⟨x7.heap.size, 0, none⟩ (.int .i64 N)).setCell ⟨x7.heap.size, 1, none⟩ (.slice g4 n c4)) := ⟨_, rfl⟩
              have hbx9 : Below w.heap.size w x9 := by rw [hwx9]; exact (hbx8.setCell (p := ⟨x7.heap.size, 0, none⟩) (by show w.heap.size ≤ x7.heap.size; omega) _).setCell (p := ⟨x7.heap.size, 1, none⟩) (by show w.heap.size ≤ x7.heap.size; omega) _
              have hzx9 : x8.heap.size ≤ x9.heap.size := by rw [hwx9]; simp
              have ht12x9 : Two x9 x7.heap.size 24 (.int .i64 N) (.slice g4 n c4) := by rw [hwx9]; exact put1 (put0 ht12x8 _) _
              have ht13x9 : Two x9 x2.heap.size 24 (.int .i64 0) (.slice none 0 0) := by rw [hwx9]; exact two_set (two_set ht13x8 (by omega) _ _) (by omega) _ _
              have hTax9 : Two x9 w.heap.size 24 (.int .i64 N) (.slice a n c) := by rw [hwx9]; exact two_set (two_set hTax8 (by omega) _ _) (by omega) _ _
              have hTbx9 : Two x9 (w.heap.size + 1) 24 (.int .i64 M) (.slice a2 n2 c2) := by rw [hwx9]; exact two_set (two_set hTbx8 (by omega) _ _) (by omega) _ _
              have ho4x9 : x9.ownsRow x0.heap.size 30 1 (.slice g4 (n + 12) c4) (n + 12) ((l ++ marksF markN 12).map (Value.int .u64)) := by rw [hwx9]; exact own_nej (own_nej ho4x8 (fun q e => by have := hq4 q e; omega) _ _) (fun q e => by have := hq4 q e; omega) _ _
              have ho10x9 : x9.ownsRow x1.heap.size 30 1 (.slice g10 (n2 + 12) c10) (n2 + 12) ((l2 ++ marksF markN 12).map (Value.int .u64)) := by rw [hwx9]; exact own_nej (own_nej ho10x8 (fun q e => by have := hq10 q e; omega) _ _) (fun q e => by have := hq10 q e; omega) _ _
              go_simp
              rw [← hwx9]
              clear hwx9 q0 q1 q2 q3
              refine hK.out _ _ (⟨hbx9, hTax9.c0, hTax9.c1, hTbx9.c0, hTbx9.c1⟩) (fun hHeld => ?_)
              clear hK K
              try simp only [Act.put, List.setIfInBounds_toArray, List.set_cons_zero, List.set_cons_succ]
              refine wpAnyH_ready (rs := [15]) (by kernel_rfl) (by simp) ?_
              refine AllReadyH.cons (o := { dst := none, op := Go.Op.store 24 (Go.Operand.tmp 6) (Go.Operand.tmp 35), type := 0, pos := "law.go:128", after := #[{ on := 13, ground := Go.Ground.data }, { on := 11, ground := Go.Ground.data }, { on := 14, ground := Go.Ground.chain }, { on := 0, ground := Go.Ground.phase }, { on := 1, ground := Go.Ground.phase }, { on := 2, ground := Go.Ground.phase }, { on := 3, ground := Go.Ground.phase }, { on := 4, ground := Go.Ground.phase }, { on := 5, ground := Go.Ground.phase }, { on := 6, ground := Go.Ground.phase }, { on := 7, ground := Go.Ground.phase }, { on := 8, ground := Go.Ground.phase }, { on := 9, ground := Go.Ground.phase }, { on := 10, ground := Go.Ground.phase }, { on := 11, ground := Go.Ground.phase }, { on := 12, ground := Go.Ground.phase }, { on := 13, ground := Go.Ground.phase }, { on := 14, ground := Go.Ground.phase }], guard := none }) rfl (fun K hK => ?_) AllReadyH.nil
              · have q0 := ht13x9.c0
                have q1 := ht13x9.c1
                have q2 := ht13x9.f0
                have q3 := ht13x9.f1
                obtain ⟨x10, hwx10⟩ : ∃ wz, wz = ((x9.setCell ⟨x2.heap.size, 0, none⟩ (.int .i64 M)).setCell ⟨x2.heap.size, 1, none⟩ (.slice g10 n2 c10)) := ⟨_, rfl⟩
                have hbx10 : Below w.heap.size w x10 := by rw [hwx10]; exact (hbx9.setCell (p := ⟨x2.heap.size, 0, none⟩) (by show w.heap.size ≤ x2.heap.size; omega) _).setCell (p := ⟨x2.heap.size, 1, none⟩) (by show w.heap.size ≤ x2.heap.size; omega) _
                have hzx10 : x9.heap.size ≤ x10.heap.size := by rw [hwx10]; simp
                have ht13x10 : Two x10 x2.heap.size 24 (.int .i64 M) (.slice g10 n2 c10) := by rw [hwx10]; exact put1 (put0 ht13x9 _) _
                have ht12x10 : Two x10 x7.heap.size 24 (.int .i64 N) (.slice g4 n c4) := by rw [hwx10]; exact two_set (two_set ht12x9 (by omega) _ _) (by omega) _ _
                have hTax10 : Two x10 w.heap.size 24 (.int .i64 N) (.slice a n c) := by rw [hwx10]; exact two_set (two_set hTax9 (by omega) _ _) (by omega) _ _
                have hTbx10 : Two x10 (w.heap.size + 1) 24 (.int .i64 M) (.slice a2 n2 c2) := by rw [hwx10]; exact two_set (two_set hTbx9 (by omega) _ _) (by omega) _ _
                have ho4x10 : x10.ownsRow x0.heap.size 30 1 (.slice g4 (n + 12) c4) (n + 12) ((l ++ marksF markN 12).map (Value.int .u64)) := by rw [hwx10]; exact own_nej (own_nej ho4x9 (fun q e => by have := hq4 q e; omega) _ _) (fun q e => by have := hq4 q e; omega) _ _
                have ho10x10 : x10.ownsRow x1.heap.size 30 1 (.slice g10 (n2 + 12) c10) (n2 + 12) ((l2 ++ marksF markN 12).map (Value.int .u64)) := by rw [hwx10]; exact own_nej (own_nej ho10x9 (fun q e => by have := hq10 q e; omega) _ _) (fun q e => by have := hq10 q e; omega) _ _
                go_simp
                rw [← hwx10]
                clear hwx10 q0 q1 q2 q3
                refine hK.out _ _ (⟨hbx10, hTax10.c0, hTax10.c1, hTbx10.c0, hTbx10.c1⟩) (fun hHeld => ?_)
                clear hK K
                try simp only [Act.put, List.setIfInBounds_toArray, List.set_cons_zero, List.set_cons_succ]
                refine wpAnyH_done (by kernel_rfl) ?_ _
                refine NoPanic.normal ?_
                go_wp2_with fail
                go_meet
                case rel => exact ⟨_, _, g4, g10, c4, c10, rfl, rfl, ⟨hbx10, ht12x10, ht13x10, own_base ho4x10 (by omega), own_base ho10x10 (by omega), x1.heap.size, by omega, by omega, (fun q e => by have := hR4 q e; omega), (fun q e => by have := hR10 q e; omega)⟩, hTax10, hTbx10⟩
      · obtain ⟨x11, hwx11⟩ : ∃ wz, wz = x1.alloc (.cells #[.int .i64 0, .slice none 0 0] 24) := ⟨_, rfl⟩
        have hDx11 : Below x1.heap.size x1 x11 := by rw [hwx11]; exact (Below.refl _ _).alloc (Nat.le_refl _) _
        have ht12x11 : Two x11 x1.heap.size 24 (.int .i64 0) (.slice none 0 0) := by rw [hwx11]; exact Two.new _ _ _ _
        have hbx11 := bstep hbx1 hDx11
        have hzx11 := hDx11.size
        have hTax11 := hTax1.step hDx11
        have hTbx11 := hTbx1.step hDx11
        have ho4x11 := ownsRow_below ho4x1 hDx11
        have hk12 := ht12x11.lt
        have hg12 : V0.heap.size ≤ x1.heap.size := by omega
        go_simp
        rw [← hwx11]
        clear hwx11
        refine hK.out _ _ (⟨hbx11, hTax11.c0, hTax11.c1, hTbx11.c0, hTbx11.c1⟩) (fun hHeld => ?_)
        clear hK K
        try simp only [Act.put, List.setIfInBounds_toArray, List.set_cons_zero, List.set_cons_succ]
        refine wpAnyH_ready (rs := [10, 13]) (by kernel_rfl) (by simp) ?_
        refine AllReadyH.cons (o := { dst := some 34, op := Go.Op.call { callee := Go.Callee.value (Go.Operand.func 38), args := #[Go.Operand.tmp 33], argTypes := #[22] }, type := 22, pos := "law.go:128", after := #[{ on := 9, ground := Go.Ground.data }, { on := 4, ground := Go.Ground.chain }], guard := none }) rfl (fun K hK => ?_) (AllReadyH.cons (o := { dst := some 6, op := Go.Op.alloc 24, type := 0, pos := "law.go:128", after := #[], guard := none }) rfl (fun K hK => ?_) AllReadyH.nil)
        · go_simp
          refine (lentN_any x11 a2 n2 c2 l2 (s2.sl.below hbx11) (by omega)).mono ?_
          unfold LentN
          rintro e x12 ⟨g10, c10, rfl, ho10x12, hDx12⟩
          have hbx12 := bstep hbx11 hDx12
          have hzx12 := hDx12.size
          have hTax12 := hTax11.step hDx12
          have hTbx12 := hTbx11.step hDx12
          have ho4x12 := ownsRow_below ho4x11 hDx12
          have ht12x12 := ht12x11.step hDx12
          have hq10 := fun q e => own_blk ho10x12 (k := q) e
          have hR10 := Rng.own ho10x12
          go_wp2_with fail
          refine hK.out _ _ (⟨hbx12, hTax12.c0, hTax12.c1, hTbx12.c0, hTbx12.c1⟩) (fun hHeld => ?_)
          clear hK K
          try simp only [Act.put, List.setIfInBounds_toArray, List.set_cons_zero, List.set_cons_succ]
          refine wpAnyH_take (i := 11) (oi := { dst := some 35, op := Go.Op.build 24 #[(0, Go.Operand.tmp 31), (1, Go.Operand.tmp 34)], type := 24, pos := "law.go:128", after := #[{ on := 7, ground := Go.Ground.data }, { on := 10, ground := Go.Ground.data }, { on := 14, ground := Go.Ground.gcOnly Go.Departure.lateStores }], guard := none }) (v := ?v11x23) rfl (by kernel_rfl) (by kernel_rfl) (by kernel_rfl) (fun _ _ _ h => h) (Or.inl ⟨by rfl, ?hy11x23⟩) hHeld ?rest11x23
          case hy11x23 =>
            intro w hSw
            try dsimp only at hSw
            go_simp
            try with_reducible rfl
          try simp only [Act.put, List.setIfInBounds_toArray, List.set_cons_zero, List.set_cons_succ]
          refine wpAnyH_ready (rs := [13]) (by kernel_rfl) (by simp) ?_
          refine AllReadyH.cons (o := { dst := some 6, op := Go.Op.alloc 24, type := 0, pos := "law.go:128", after := #[], guard := none }) rfl (fun K hK => ?_) AllReadyH.nil
          · obtain ⟨x13, hwx13⟩ : ∃ wz, wz = x12.alloc (.cells #[.int .i64 0, .slice none 0 0] 24) := ⟨_, rfl⟩
            have hDx13 : Below x12.heap.size x12 x13 := by rw [hwx13]; exact (Below.refl _ _).alloc (Nat.le_refl _) _
            have ht13x13 : Two x13 x12.heap.size 24 (.int .i64 0) (.slice none 0 0) := by rw [hwx13]; exact Two.new _ _ _ _
            have hbx13 := bstep hbx12 hDx13
            have hzx13 := hDx13.size
            have hTax13 := hTax12.step hDx13
            have hTbx13 := hTbx12.step hDx13
            have ho4x13 := ownsRow_below ho4x12 hDx13
            have ho10x13 := ownsRow_below ho10x12 hDx13
            have ht12x13 := ht12x12.step hDx13
            have hk13 := ht13x13.lt
            have hg13 : V0.heap.size ≤ x12.heap.size := by omega
            go_simp
            rw [← hwx13]
            clear hwx13
            refine hK.out _ _ (⟨hbx13, hTax13.c0, hTax13.c1, hTbx13.c0, hTbx13.c1⟩) (fun hHeld => ?_)
            clear hK K
            try simp only [Act.put, List.setIfInBounds_toArray, List.set_cons_zero, List.set_cons_succ]
            refine wpAnyH_ready (rs := [14]) (by kernel_rfl) (by simp) ?_
            refine AllReadyH.cons (o := { dst := none, op := Go.Op.store 24 (Go.Operand.tmp 5) (Go.Operand.tmp 29), type := 0, pos := "law.go:128", after := #[{ on := 12, ground := Go.Ground.data }, { on := 5, ground := Go.Ground.data }, { on := 10, ground := Go.Ground.chain }, { on := 0, ground := Go.Ground.phase }, { on := 1, ground := Go.Ground.phase }, { on := 2, ground := Go.Ground.phase }, { on := 3, ground := Go.Ground.phase }, { on := 4, ground := Go.Ground.phase }, { on := 5, ground := Go.Ground.phase }, { on := 6, ground := Go.Ground.textOnly Go.Departure.lateStores }, { on := 7, ground := Go.Ground.textOnly Go.Departure.lateStores }, { on := 8, ground := Go.Ground.textOnly Go.Departure.lateStores }, { on := 9, ground := Go.Ground.textOnly Go.Departure.lateStores }, { on := 10, ground := Go.Ground.textOnly Go.Departure.lateStoresUnsure }, { on := 11, ground := Go.Ground.textOnly Go.Departure.lateStores }, { on := 12, ground := Go.Ground.phase }, { on := 13, ground := Go.Ground.phase }], guard := none }) rfl (fun K hK => ?_) AllReadyH.nil
            · have q0 := ht12x13.c0
              have q1 := ht12x13.c1
              have q2 := ht12x13.f0
              have q3 := ht12x13.f1
              obtain ⟨x14, hwx14⟩ : ∃ wz, wz = ((x13.setCell ⟨x1.heap.size, 0, none⟩ (.int .i64 N)).setCell ⟨x1.heap.size, 1, none⟩ (.slice g4 n c4)) := ⟨_, rfl⟩
              have hbx14 : Below w.heap.size w x14 := by rw [hwx14]; exact (hbx13.setCell (p := ⟨x1.heap.size, 0, none⟩) (by show w.heap.size ≤ x1.heap.size; omega) _).setCell (p := ⟨x1.heap.size, 1, none⟩) (by show w.heap.size ≤ x1.heap.size; omega) _
              have hzx14 : x13.heap.size ≤ x14.heap.size := by rw [hwx14]; simp
              have ht12x14 : Two x14 x1.heap.size 24 (.int .i64 N) (.slice g4 n c4) := by rw [hwx14]; exact put1 (put0 ht12x13 _) _
              have ht13x14 : Two x14 x12.heap.size 24 (.int .i64 0) (.slice none 0 0) := by rw [hwx14]; exact two_set (two_set ht13x13 (by omega) _ _) (by omega) _ _
              have hTax14 : Two x14 w.heap.size 24 (.int .i64 N) (.slice a n c) := by rw [hwx14]; exact two_set (two_set hTax13 (by omega) _ _) (by omega) _ _
              have hTbx14 : Two x14 (w.heap.size + 1) 24 (.int .i64 M) (.slice a2 n2 c2) := by rw [hwx14]; exact two_set (two_set hTbx13 (by omega) _ _) (by omega) _ _
              have ho4x14 : x14.ownsRow x0.heap.size 30 1 (.slice g4 (n + 12) c4) (n + 12) ((l ++ marksF markN 12).map (Value.int .u64)) := by rw [hwx14]; exact own_nej (own_nej ho4x13 (fun q e => by have := hq4 q e; omega) _ _) (fun q e => by have := hq4 q e; omega) _ _
              have ho10x14 : x14.ownsRow x11.heap.size 30 1 (.slice g10 (n2 + 12) c10) (n2 + 12) ((l2 ++ marksF markN 12).map (Value.int .u64)) := by rw [hwx14]; exact own_nej (own_nej ho10x13 (fun q e => by have := hq10 q e; omega) _ _) (fun q e => by have := hq10 q e; omega) _ _
              go_simp
              rw [← hwx14]
              clear hwx14 q0 q1 q2 q3
              refine hK.out _ _ (⟨hbx14, hTax14.c0, hTax14.c1, hTbx14.c0, hTbx14.c1⟩) (fun hHeld => ?_)
              clear hK K
              try simp only [Act.put, List.setIfInBounds_toArray, List.set_cons_zero, List.set_cons_succ]
              refine wpAnyH_ready (rs := [15]) (by kernel_rfl) (by simp) ?_
              refine AllReadyH.cons (o := { dst := none, op := Go.Op.store 24 (Go.Operand.tmp 6) (Go.Operand.tmp 35), type := 0, pos := "law.go:128", after := #[{ on := 13, ground := Go.Ground.data }, { on := 11, ground := Go.Ground.data }, { on := 14, ground := Go.Ground.chain }, { on := 0, ground := Go.Ground.phase }, { on := 1, ground := Go.Ground.phase }, { on := 2, ground := Go.Ground.phase }, { on := 3, ground := Go.Ground.phase }, { on := 4, ground := Go.Ground.phase }, { on := 5, ground := Go.Ground.phase }, { on := 6, ground := Go.Ground.phase }, { on := 7, ground := Go.Ground.phase }, { on := 8, ground := Go.Ground.phase }, { on := 9, ground := Go.Ground.phase }, { on := 10, ground := Go.Ground.phase }, { on := 11, ground := Go.Ground.phase }, { on := 12, ground := Go.Ground.phase }, { on := 13, ground := Go.Ground.phase }, { on := 14, ground := Go.Ground.phase }], guard := none }) rfl (fun K hK => ?_) AllReadyH.nil
              · have q0 := ht13x14.c0
                have q1 := ht13x14.c1
                have q2 := ht13x14.f0
                have q3 := ht13x14.f1
                obtain ⟨x15, hwx15⟩ : ∃ wz, wz = ((x14.setCell ⟨x12.heap.size, 0, none⟩ (.int .i64 M)).setCell ⟨x12.heap.size, 1, none⟩ (.slice g10 n2 c10)) := ⟨_, rfl⟩
                have hbx15 : Below w.heap.size w x15 := by rw [hwx15]; exact (hbx14.setCell (p := ⟨x12.heap.size, 0, none⟩) (by show w.heap.size ≤ x12.heap.size; omega) _).setCell (p := ⟨x12.heap.size, 1, none⟩) (by show w.heap.size ≤ x12.heap.size; omega) _
                have hzx15 : x14.heap.size ≤ x15.heap.size := by rw [hwx15]; simp
                have ht13x15 : Two x15 x12.heap.size 24 (.int .i64 M) (.slice g10 n2 c10) := by rw [hwx15]; exact put1 (put0 ht13x14 _) _
                have ht12x15 : Two x15 x1.heap.size 24 (.int .i64 N) (.slice g4 n c4) := by rw [hwx15]; exact two_set (two_set ht12x14 (by omega) _ _) (by omega) _ _
                have hTax15 : Two x15 w.heap.size 24 (.int .i64 N) (.slice a n c) := by rw [hwx15]; exact two_set (two_set hTax14 (by omega) _ _) (by omega) _ _
                have hTbx15 : Two x15 (w.heap.size + 1) 24 (.int .i64 M) (.slice a2 n2 c2) := by rw [hwx15]; exact two_set (two_set hTbx14 (by omega) _ _) (by omega) _ _
                have ho4x15 : x15.ownsRow x0.heap.size 30 1 (.slice g4 (n + 12) c4) (n + 12) ((l ++ marksF markN 12).map (Value.int .u64)) := by rw [hwx15]; exact own_nej (own_nej ho4x14 (fun q e => by have := hq4 q e; omega) _ _) (fun q e => by have := hq4 q e; omega) _ _
                have ho10x15 : x15.ownsRow x11.heap.size 30 1 (.slice g10 (n2 + 12) c10) (n2 + 12) ((l2 ++ marksF markN 12).map (Value.int .u64)) := by rw [hwx15]; exact own_nej (own_nej ho10x14 (fun q e => by have := hq10 q e; omega) _ _) (fun q e => by have := hq10 q e; omega) _ _
                go_simp
                rw [← hwx15]
                clear hwx15 q0 q1 q2 q3
                refine hK.out _ _ (⟨hbx15, hTax15.c0, hTax15.c1, hTbx15.c0, hTbx15.c1⟩) (fun hHeld => ?_)
                clear hK K
                try simp only [Act.put, List.setIfInBounds_toArray, List.set_cons_zero, List.set_cons_succ]
                refine wpAnyH_done (by kernel_rfl) ?_ _
                refine NoPanic.normal ?_
                go_wp2_with fail
                go_meet
                case rel => exact ⟨_, _, g4, g10, c4, c10, rfl, rfl, ⟨hbx15, ht12x15, ht13x15, own_base ho4x15 (by omega), own_base ho10x15 (by omega), x1.heap.size, by omega, by omega, (fun q e => by have := hR4 q e; omega), (fun q e => by have := hR10 q e; omega)⟩, hTax15, hTbx15⟩
        · obtain ⟨x16, hwx16⟩ : ∃ wz, wz = x11.alloc (.cells #[.int .i64 0, .slice none 0 0] 24) := ⟨_, rfl⟩
          have hDx16 : Below x11.heap.size x11 x16 := by rw [hwx16]; exact (Below.refl _ _).alloc (Nat.le_refl _) _
          have ht13x16 : Two x16 x11.heap.size 24 (.int .i64 0) (.slice none 0 0) := by rw [hwx16]; exact Two.new _ _ _ _
          have hbx16 := bstep hbx11 hDx16
          have hzx16 := hDx16.size
          have hTax16 := hTax11.step hDx16
          have hTbx16 := hTbx11.step hDx16
          have ho4x16 := ownsRow_below ho4x11 hDx16
          have ht12x16 := ht12x11.step hDx16
          have hk13 := ht13x16.lt
          have hg13 : V0.heap.size ≤ x11.heap.size := by omega
          go_simp
          rw [← hwx16]
          clear hwx16
          refine hK.out _ _ (⟨hbx16, hTax16.c0, hTax16.c1, hTbx16.c0, hTbx16.c1⟩) (fun hHeld => ?_)
          clear hK K
          try simp only [Act.put, List.setIfInBounds_toArray, List.set_cons_zero, List.set_cons_succ]
          refine wpAnyH_ready (rs := [10]) (by kernel_rfl) (by simp) ?_
          refine AllReadyH.cons (o := { dst := some 34, op := Go.Op.call { callee := Go.Callee.value (Go.Operand.func 38), args := #[Go.Operand.tmp 33], argTypes := #[22] }, type := 22, pos := "law.go:128", after := #[{ on := 9, ground := Go.Ground.data }, { on := 4, ground := Go.Ground.chain }], guard := none }) rfl (fun K hK => ?_) AllReadyH.nil
          · go_simp
            refine (lentN_any x16 a2 n2 c2 l2 (s2.sl.below hbx16) (by omega)).mono ?_
            unfold LentN
            rintro e x17 ⟨g10, c10, rfl, ho10x17, hDx17⟩
            have hbx17 := bstep hbx16 hDx17
            have hzx17 := hDx17.size
            have hTax17 := hTax16.step hDx17
            have hTbx17 := hTbx16.step hDx17
            have ho4x17 := ownsRow_below ho4x16 hDx17
            have ht12x17 := ht12x16.step hDx17
            have ht13x17 := ht13x16.step hDx17
            have hq10 := fun q e => own_blk ho10x17 (k := q) e
            have hR10 := Rng.own ho10x17
            go_wp2_with fail
            refine hK.out _ _ (⟨hbx17, hTax17.c0, hTax17.c1, hTbx17.c0, hTbx17.c1⟩) (fun hHeld => ?_)
            clear hK K
            try simp only [Act.put, List.setIfInBounds_toArray, List.set_cons_zero, List.set_cons_succ]
            refine wpAnyH_take (i := 11) (oi := { dst := some 35, op := Go.Op.build 24 #[(0, Go.Operand.tmp 31), (1, Go.Operand.tmp 34)], type := 24, pos := "law.go:128", after := #[{ on := 7, ground := Go.Ground.data }, { on := 10, ground := Go.Ground.data }, { on := 14, ground := Go.Ground.gcOnly Go.Departure.lateStores }], guard := none }) (v := ?v11x29) rfl (by kernel_rfl) (by kernel_rfl) (by kernel_rfl) (fun _ _ _ h => h) (Or.inl ⟨by rfl, ?hy11x29⟩) hHeld ?rest11x29
            case hy11x29 =>
              intro w hSw
              try dsimp only at hSw
              go_simp
              try with_reducible rfl
            try simp only [Act.put, List.setIfInBounds_toArray, List.set_cons_zero, List.set_cons_succ]
            refine wpAnyH_ready (rs := [14]) (by kernel_rfl) (by simp) ?_
            refine AllReadyH.cons (o := { dst := none, op := Go.Op.store 24 (Go.Operand.tmp 5) (Go.Operand.tmp 29), type := 0, pos := "law.go:128", after := #[{ on := 12, ground := Go.Ground.data }, { on := 5, ground := Go.Ground.data }, { on := 10, ground := Go.Ground.chain }, { on := 0, ground := Go.Ground.phase }, { on := 1, ground := Go.Ground.phase }, { on := 2, ground := Go.Ground.phase }, { on := 3, ground := Go.Ground.phase }, { on := 4, ground := Go.Ground.phase }, { on := 5, ground := Go.Ground.phase }, { on := 6, ground := Go.Ground.textOnly Go.Departure.lateStores }, { on := 7, ground := Go.Ground.textOnly Go.Departure.lateStores }, { on := 8, ground := Go.Ground.textOnly Go.Departure.lateStores }, { on := 9, ground := Go.Ground.textOnly Go.Departure.lateStores }, { on := 10, ground := Go.Ground.textOnly Go.Departure.lateStoresUnsure }, { on := 11, ground := Go.Ground.textOnly Go.Departure.lateStores }, { on := 12, ground := Go.Ground.phase }, { on := 13, ground := Go.Ground.phase }], guard := none }) rfl (fun K hK => ?_) AllReadyH.nil
            · have q0 := ht12x17.c0
              have q1 := ht12x17.c1
              have q2 := ht12x17.f0
              have q3 := ht12x17.f1
              obtain ⟨x18, hwx18⟩ : ∃ wz, wz = ((x17.setCell ⟨x1.heap.size, 0, none⟩ (.int .i64 N)).setCell ⟨x1.heap.size, 1, none⟩ (.slice g4 n c4)) := ⟨_, rfl⟩
              have hbx18 : Below w.heap.size w x18 := by rw [hwx18]; exact (hbx17.setCell (p := ⟨x1.heap.size, 0, none⟩) (by show w.heap.size ≤ x1.heap.size; omega) _).setCell (p := ⟨x1.heap.size, 1, none⟩) (by show w.heap.size ≤ x1.heap.size; omega) _
              have hzx18 : x17.heap.size ≤ x18.heap.size := by rw [hwx18]; simp
              have ht12x18 : Two x18 x1.heap.size 24 (.int .i64 N) (.slice g4 n c4) := by rw [hwx18]; exact put1 (put0 ht12x17 _) _
              have ht13x18 : Two x18 x11.heap.size 24 (.int .i64 0) (.slice none 0 0) := by rw [hwx18]; exact two_set (two_set ht13x17 (by omega) _ _) (by omega) _ _
              have hTax18 : Two x18 w.heap.size 24 (.int .i64 N) (.slice a n c) := by rw [hwx18]; exact two_set (two_set hTax17 (by omega) _ _) (by omega) _ _
              have hTbx18 : Two x18 (w.heap.size + 1) 24 (.int .i64 M) (.slice a2 n2 c2) := by rw [hwx18]; exact two_set (two_set hTbx17 (by omega) _ _) (by omega) _ _
              have ho4x18 : x18.ownsRow x0.heap.size 30 1 (.slice g4 (n + 12) c4) (n + 12) ((l ++ marksF markN 12).map (Value.int .u64)) := by rw [hwx18]; exact own_nej (own_nej ho4x17 (fun q e => by have := hq4 q e; omega) _ _) (fun q e => by have := hq4 q e; omega) _ _
              have ho10x18 : x18.ownsRow x16.heap.size 30 1 (.slice g10 (n2 + 12) c10) (n2 + 12) ((l2 ++ marksF markN 12).map (Value.int .u64)) := by rw [hwx18]; exact own_nej (own_nej ho10x17 (fun q e => by have := hq10 q e; omega) _ _) (fun q e => by have := hq10 q e; omega) _ _
              go_simp
              rw [← hwx18]
              clear hwx18 q0 q1 q2 q3
              refine hK.out _ _ (⟨hbx18, hTax18.c0, hTax18.c1, hTbx18.c0, hTbx18.c1⟩) (fun hHeld => ?_)
              clear hK K
              try simp only [Act.put, List.setIfInBounds_toArray, List.set_cons_zero, List.set_cons_succ]
              refine wpAnyH_ready (rs := [15]) (by kernel_rfl) (by simp) ?_
              refine AllReadyH.cons (o := { dst := none, op := Go.Op.store 24 (Go.Operand.tmp 6) (Go.Operand.tmp 35), type := 0, pos := "law.go:128", after := #[{ on := 13, ground := Go.Ground.data }, { on := 11, ground := Go.Ground.data }, { on := 14, ground := Go.Ground.chain }, { on := 0, ground := Go.Ground.phase }, { on := 1, ground := Go.Ground.phase }, { on := 2, ground := Go.Ground.phase }, { on := 3, ground := Go.Ground.phase }, { on := 4, ground := Go.Ground.phase }, { on := 5, ground := Go.Ground.phase }, { on := 6, ground := Go.Ground.phase }, { on := 7, ground := Go.Ground.phase }, { on := 8, ground := Go.Ground.phase }, { on := 9, ground := Go.Ground.phase }, { on := 10, ground := Go.Ground.phase }, { on := 11, ground := Go.Ground.phase }, { on := 12, ground := Go.Ground.phase }, { on := 13, ground := Go.Ground.phase }, { on := 14, ground := Go.Ground.phase }], guard := none }) rfl (fun K hK => ?_) AllReadyH.nil
              · have q0 := ht13x18.c0
                have q1 := ht13x18.c1
                have q2 := ht13x18.f0
                have q3 := ht13x18.f1
                obtain ⟨x19, hwx19⟩ : ∃ wz, wz = ((x18.setCell ⟨x11.heap.size, 0, none⟩ (.int .i64 M)).setCell ⟨x11.heap.size, 1, none⟩ (.slice g10 n2 c10)) := ⟨_, rfl⟩
                have hbx19 : Below w.heap.size w x19 := by rw [hwx19]; exact (hbx18.setCell (p := ⟨x11.heap.size, 0, none⟩) (by show w.heap.size ≤ x11.heap.size; omega) _).setCell (p := ⟨x11.heap.size, 1, none⟩) (by show w.heap.size ≤ x11.heap.size; omega) _
                have hzx19 : x18.heap.size ≤ x19.heap.size := by rw [hwx19]; simp
                have ht13x19 : Two x19 x11.heap.size 24 (.int .i64 M) (.slice g10 n2 c10) := by rw [hwx19]; exact put1 (put0 ht13x18 _) _
                have ht12x19 : Two x19 x1.heap.size 24 (.int .i64 N) (.slice g4 n c4) := by rw [hwx19]; exact two_set (two_set ht12x18 (by omega) _ _) (by omega) _ _
                have hTax19 : Two x19 w.heap.size 24 (.int .i64 N) (.slice a n c) := by rw [hwx19]; exact two_set (two_set hTax18 (by omega) _ _) (by omega) _ _
                have hTbx19 : Two x19 (w.heap.size + 1) 24 (.int .i64 M) (.slice a2 n2 c2) := by rw [hwx19]; exact two_set (two_set hTbx18 (by omega) _ _) (by omega) _ _
                have ho4x19 : x19.ownsRow x0.heap.size 30 1 (.slice g4 (n + 12) c4) (n + 12) ((l ++ marksF markN 12).map (Value.int .u64)) := by rw [hwx19]; exact own_nej (own_nej ho4x18 (fun q e => by have := hq4 q e; omega) _ _) (fun q e => by have := hq4 q e; omega) _ _
                have ho10x19 : x19.ownsRow x16.heap.size 30 1 (.slice g10 (n2 + 12) c10) (n2 + 12) ((l2 ++ marksF markN 12).map (Value.int .u64)) := by rw [hwx19]; exact own_nej (own_nej ho10x18 (fun q e => by have := hq10 q e; omega) _ _) (fun q e => by have := hq10 q e; omega) _ _
                go_simp
                rw [← hwx19]
                clear hwx19 q0 q1 q2 q3
                refine hK.out _ _ (⟨hbx19, hTax19.c0, hTax19.c1, hTbx19.c0, hTbx19.c1⟩) (fun hHeld => ?_)
                clear hK K
                try simp only [Act.put, List.setIfInBounds_toArray, List.set_cons_zero, List.set_cons_succ]
                refine wpAnyH_done (by kernel_rfl) ?_ _
                refine NoPanic.normal ?_
                go_wp2_with fail
                go_meet
                case rel => exact ⟨_, _, g4, g10, c4, c10, rfl, rfl, ⟨hbx19, ht12x19, ht13x19, own_base ho4x19 (by omega), own_base ho10x19 (by omega), x1.heap.size, by omega, by omega, (fun q e => by have := hR4 q e; omega), (fun q e => by have := hR10 q e; omega)⟩, hTax19, hTbx19⟩
      · obtain ⟨x20, hwx20⟩ : ∃ wz, wz = x1.alloc (.cells #[.int .i64 0, .slice none 0 0] 24) := ⟨_, rfl⟩
        have hDx20 : Below x1.heap.size x1 x20 := by rw [hwx20]; exact (Below.refl _ _).alloc (Nat.le_refl _) _
        have ht13x20 : Two x20 x1.heap.size 24 (.int .i64 0) (.slice none 0 0) := by rw [hwx20]; exact Two.new _ _ _ _
        have hbx20 := bstep hbx1 hDx20
        have hzx20 := hDx20.size
        have hTax20 := hTax1.step hDx20
        have hTbx20 := hTbx1.step hDx20
        have ho4x20 := ownsRow_below ho4x1 hDx20
        have hk13 := ht13x20.lt
        have hg13 : V0.heap.size ≤ x1.heap.size := by omega
        go_simp
        rw [← hwx20]
        clear hwx20
        refine hK.out _ _ (⟨hbx20, hTax20.c0, hTax20.c1, hTbx20.c0, hTbx20.c1⟩) (fun hHeld => ?_)
        clear hK K
        try simp only [Act.put, List.setIfInBounds_toArray, List.set_cons_zero, List.set_cons_succ]
        refine wpAnyH_ready (rs := [10, 12]) (by kernel_rfl) (by simp) ?_
        refine AllReadyH.cons (o := { dst := some 34, op := Go.Op.call { callee := Go.Callee.value (Go.Operand.func 38), args := #[Go.Operand.tmp 33], argTypes := #[22] }, type := 22, pos := "law.go:128", after := #[{ on := 9, ground := Go.Ground.data }, { on := 4, ground := Go.Ground.chain }], guard := none }) rfl (fun K hK => ?_) (AllReadyH.cons (o := { dst := some 5, op := Go.Op.alloc 24, type := 0, pos := "law.go:128", after := #[], guard := none }) rfl (fun K hK => ?_) AllReadyH.nil)
        · go_simp
          refine (lentN_any x20 a2 n2 c2 l2 (s2.sl.below hbx20) (by omega)).mono ?_
          unfold LentN
          rintro e x21 ⟨g10, c10, rfl, ho10x21, hDx21⟩
          have hbx21 := bstep hbx20 hDx21
          have hzx21 := hDx21.size
          have hTax21 := hTax20.step hDx21
          have hTbx21 := hTbx20.step hDx21
          have ho4x21 := ownsRow_below ho4x20 hDx21
          have ht13x21 := ht13x20.step hDx21
          have hq10 := fun q e => own_blk ho10x21 (k := q) e
          have hR10 := Rng.own ho10x21
          go_wp2_with fail
          refine hK.out _ _ (⟨hbx21, hTax21.c0, hTax21.c1, hTbx21.c0, hTbx21.c1⟩) (fun hHeld => ?_)
          clear hK K
          try simp only [Act.put, List.setIfInBounds_toArray, List.set_cons_zero, List.set_cons_succ]
          refine wpAnyH_take (i := 11) (oi := { dst := some 35, op := Go.Op.build 24 #[(0, Go.Operand.tmp 31), (1, Go.Operand.tmp 34)], type := 24, pos := "law.go:128", after := #[{ on := 7, ground := Go.Ground.data }, { on := 10, ground := Go.Ground.data }, { on := 14, ground := Go.Ground.gcOnly Go.Departure.lateStores }], guard := none }) (v := ?v11x34) rfl (by kernel_rfl) (by kernel_rfl) (by kernel_rfl) (fun _ _ _ h => h) (Or.inl ⟨by rfl, ?hy11x34⟩) hHeld ?rest11x34
          case hy11x34 =>
            intro w hSw
            try dsimp only at hSw
            go_simp
            try with_reducible rfl
          try simp only [Act.put, List.setIfInBounds_toArray, List.set_cons_zero, List.set_cons_succ]
          refine wpAnyH_ready (rs := [12]) (by kernel_rfl) (by simp) ?_
          refine AllReadyH.cons (o := { dst := some 5, op := Go.Op.alloc 24, type := 0, pos := "law.go:128", after := #[], guard := none }) rfl (fun K hK => ?_) AllReadyH.nil
          · obtain ⟨x22, hwx22⟩ : ∃ wz, wz = x21.alloc (.cells #[.int .i64 0, .slice none 0 0] 24) := ⟨_, rfl⟩
            have hDx22 : Below x21.heap.size x21 x22 := by rw [hwx22]; exact (Below.refl _ _).alloc (Nat.le_refl _) _
            have ht12x22 : Two x22 x21.heap.size 24 (.int .i64 0) (.slice none 0 0) := by rw [hwx22]; exact Two.new _ _ _ _
            have hbx22 := bstep hbx21 hDx22
            have hzx22 := hDx22.size
            have hTax22 := hTax21.step hDx22
            have hTbx22 := hTbx21.step hDx22
            have ho4x22 := ownsRow_below ho4x21 hDx22
            have ho10x22 := ownsRow_below ho10x21 hDx22
            have ht13x22 := ht13x21.step hDx22
            have hk12 := ht12x22.lt
            have hg12 : V0.heap.size ≤ x21.heap.size := by omega
            go_simp
            rw [← hwx22]
            clear hwx22
            refine hK.out _ _ (⟨hbx22, hTax22.c0, hTax22.c1, hTbx22.c0, hTbx22.c1⟩) (fun hHeld => ?_)
            clear hK K
            try simp only [Act.put, List.setIfInBounds_toArray, List.set_cons_zero, List.set_cons_succ]
            refine wpAnyH_ready (rs := [14]) (by kernel_rfl) (by simp) ?_
            refine AllReadyH.cons (o := { dst := none, op := Go.Op.store 24 (Go.Operand.tmp 5) (Go.Operand.tmp 29), type := 0, pos := "law.go:128", after := #[{ on := 12, ground := Go.Ground.data }, { on := 5, ground := Go.Ground.data }, { on := 10, ground := Go.Ground.chain }, { on := 0, ground := Go.Ground.phase }, { on := 1, ground := Go.Ground.phase }, { on := 2, ground := Go.Ground.phase }, { on := 3, ground := Go.Ground.phase }, { on := 4, ground := Go.Ground.phase }, { on := 5, ground := Go.Ground.phase }, { on := 6, ground := Go.Ground.textOnly Go.Departure.lateStores }, { on := 7, ground := Go.Ground.textOnly Go.Departure.lateStores }, { on := 8, ground := Go.Ground.textOnly Go.Departure.lateStores }, { on := 9, ground := Go.Ground.textOnly Go.Departure.lateStores }, { on := 10, ground := Go.Ground.textOnly Go.Departure.lateStoresUnsure }, { on := 11, ground := Go.Ground.textOnly Go.Departure.lateStores }, { on := 12, ground := Go.Ground.phase }, { on := 13, ground := Go.Ground.phase }], guard := none }) rfl (fun K hK => ?_) AllReadyH.nil
            · have q0 := ht12x22.c0
              have q1 := ht12x22.c1
              have q2 := ht12x22.f0
              have q3 := ht12x22.f1
              obtain ⟨x23, hwx23⟩ : ∃ wz, wz = ((x22.setCell ⟨x21.heap.size, 0, none⟩ (.int .i64 N)).setCell ⟨x21.heap.size, 1, none⟩ (.slice g4 n c4)) := ⟨_, rfl⟩
              have hbx23 : Below w.heap.size w x23 := by rw [hwx23]; exact (hbx22.setCell (p := ⟨x21.heap.size, 0, none⟩) (by show w.heap.size ≤ x21.heap.size; omega) _).setCell (p := ⟨x21.heap.size, 1, none⟩) (by show w.heap.size ≤ x21.heap.size; omega) _
              have hzx23 : x22.heap.size ≤ x23.heap.size := by rw [hwx23]; simp
              have ht12x23 : Two x23 x21.heap.size 24 (.int .i64 N) (.slice g4 n c4) := by rw [hwx23]; exact put1 (put0 ht12x22 _) _
              have ht13x23 : Two x23 x1.heap.size 24 (.int .i64 0) (.slice none 0 0) := by rw [hwx23]; exact two_set (two_set ht13x22 (by omega) _ _) (by omega) _ _
              have hTax23 : Two x23 w.heap.size 24 (.int .i64 N) (.slice a n c) := by rw [hwx23]; exact two_set (two_set hTax22 (by omega) _ _) (by omega) _ _
              have hTbx23 : Two x23 (w.heap.size + 1) 24 (.int .i64 M) (.slice a2 n2 c2) := by rw [hwx23]; exact two_set (two_set hTbx22 (by omega) _ _) (by omega) _ _
              have ho4x23 : x23.ownsRow x0.heap.size 30 1 (.slice g4 (n + 12) c4) (n + 12) ((l ++ marksF markN 12).map (Value.int .u64)) := by rw [hwx23]; exact own_nej (own_nej ho4x22 (fun q e => by have := hq4 q e; omega) _ _) (fun q e => by have := hq4 q e; omega) _ _
              have ho10x23 : x23.ownsRow x20.heap.size 30 1 (.slice g10 (n2 + 12) c10) (n2 + 12) ((l2 ++ marksF markN 12).map (Value.int .u64)) := by rw [hwx23]; exact own_nej (own_nej ho10x22 (fun q e => by have := hq10 q e; omega) _ _) (fun q e => by have := hq10 q e; omega) _ _
              go_simp
              rw [← hwx23]
              clear hwx23 q0 q1 q2 q3
              refine hK.out _ _ (⟨hbx23, hTax23.c0, hTax23.c1, hTbx23.c0, hTbx23.c1⟩) (fun hHeld => ?_)
              clear hK K
              try simp only [Act.put, List.setIfInBounds_toArray, List.set_cons_zero, List.set_cons_succ]
              refine wpAnyH_ready (rs := [15]) (by kernel_rfl) (by simp) ?_
              refine AllReadyH.cons (o := { dst := none, op := Go.Op.store 24 (Go.Operand.tmp 6) (Go.Operand.tmp 35), type := 0, pos := "law.go:128", after := #[{ on := 13, ground := Go.Ground.data }, { on := 11, ground := Go.Ground.data }, { on := 14, ground := Go.Ground.chain }, { on := 0, ground := Go.Ground.phase }, { on := 1, ground := Go.Ground.phase }, { on := 2, ground := Go.Ground.phase }, { on := 3, ground := Go.Ground.phase }, { on := 4, ground := Go.Ground.phase }, { on := 5, ground := Go.Ground.phase }, { on := 6, ground := Go.Ground.phase }, { on := 7, ground := Go.Ground.phase }, { on := 8, ground := Go.Ground.phase }, { on := 9, ground := Go.Ground.phase }, { on := 10, ground := Go.Ground.phase }, { on := 11, ground := Go.Ground.phase }, { on := 12, ground := Go.Ground.phase }, { on := 13, ground := Go.Ground.phase }, { on := 14, ground := Go.Ground.phase }], guard := none }) rfl (fun K hK => ?_) AllReadyH.nil
              · have q0 := ht13x23.c0
                have q1 := ht13x23.c1
                have q2 := ht13x23.f0
                have q3 := ht13x23.f1
                obtain ⟨x24, hwx24⟩ : ∃ wz, wz = ((x23.setCell ⟨x1.heap.size, 0, none⟩ (.int .i64 M)).setCell ⟨x1.heap.size, 1, none⟩ (.slice g10 n2 c10)) := ⟨_, rfl⟩
                have hbx24 : Below w.heap.size w x24 := by rw [hwx24]; exact (hbx23.setCell (p := ⟨x1.heap.size, 0, none⟩) (by show w.heap.size ≤ x1.heap.size; omega) _).setCell (p := ⟨x1.heap.size, 1, none⟩) (by show w.heap.size ≤ x1.heap.size; omega) _
                have hzx24 : x23.heap.size ≤ x24.heap.size := by rw [hwx24]; simp
                have ht13x24 : Two x24 x1.heap.size 24 (.int .i64 M) (.slice g10 n2 c10) := by rw [hwx24]; exact put1 (put0 ht13x23 _) _
                have ht12x24 : Two x24 x21.heap.size 24 (.int .i64 N) (.slice g4 n c4) := by rw [hwx24]; exact two_set (two_set ht12x23 (by omega) _ _) (by omega) _ _
                have hTax24 : Two x24 w.heap.size 24 (.int .i64 N) (.slice a n c) := by rw [hwx24]; exact two_set (two_set hTax23 (by omega) _ _) (by omega) _ _
                have hTbx24 : Two x24 (w.heap.size + 1) 24 (.int .i64 M) (.slice a2 n2 c2) := by rw [hwx24]; exact two_set (two_set hTbx23 (by omega) _ _) (by omega) _ _
                have ho4x24 : x24.ownsRow x0.heap.size 30 1 (.slice g4 (n + 12) c4) (n + 12) ((l ++ marksF markN 12).map (Value.int .u64)) := by rw [hwx24]; exact own_nej (own_nej ho4x23 (fun q e => by have := hq4 q e; omega) _ _) (fun q e => by have := hq4 q e; omega) _ _
                have ho10x24 : x24.ownsRow x20.heap.size 30 1 (.slice g10 (n2 + 12) c10) (n2 + 12) ((l2 ++ marksF markN 12).map (Value.int .u64)) := by rw [hwx24]; exact own_nej (own_nej ho10x23 (fun q e => by have := hq10 q e; omega) _ _) (fun q e => by have := hq10 q e; omega) _ _
                go_simp
                rw [← hwx24]
                clear hwx24 q0 q1 q2 q3
                refine hK.out _ _ (⟨hbx24, hTax24.c0, hTax24.c1, hTbx24.c0, hTbx24.c1⟩) (fun hHeld => ?_)
                clear hK K
                try simp only [Act.put, List.setIfInBounds_toArray, List.set_cons_zero, List.set_cons_succ]
                refine wpAnyH_done (by kernel_rfl) ?_ _
                refine NoPanic.normal ?_
                go_wp2_with fail
                go_meet
                case rel => exact ⟨_, _, g4, g10, c4, c10, rfl, rfl, ⟨hbx24, ht12x24, ht13x24, own_base ho4x24 (by omega), own_base ho10x24 (by omega), x1.heap.size, by omega, by omega, (fun q e => by have := hR4 q e; omega), (fun q e => by have := hR10 q e; omega)⟩, hTax24, hTbx24⟩
        · obtain ⟨x25, hwx25⟩ : ∃ wz, wz = x20.alloc (.cells #[.int .i64 0, .slice none 0 0] 24) := ⟨_, rfl⟩
          have hDx25 : Below x20.heap.size x20 x25 := by rw [hwx25]; exact (Below.refl _ _).alloc (Nat.le_refl _) _
          have ht12x25 : Two x25 x20.heap.size 24 (.int .i64 0) (.slice none 0 0) := by rw [hwx25]; exact Two.new _ _ _ _
          have hbx25 := bstep hbx20 hDx25
          have hzx25 := hDx25.size
          have hTax25 := hTax20.step hDx25
          have hTbx25 := hTbx20.step hDx25
          have ho4x25 := ownsRow_below ho4x20 hDx25
          have ht13x25 := ht13x20.step hDx25
          have hk12 := ht12x25.lt
          have hg12 : V0.heap.size ≤ x20.heap.size := by omega
          go_simp
          rw [← hwx25]
          clear hwx25
          refine hK.out _ _ (⟨hbx25, hTax25.c0, hTax25.c1, hTbx25.c0, hTbx25.c1⟩) (fun hHeld => ?_)
          clear hK K
          try simp only [Act.put, List.setIfInBounds_toArray, List.set_cons_zero, List.set_cons_succ]
          refine wpAnyH_ready (rs := [10]) (by kernel_rfl) (by simp) ?_
          refine AllReadyH.cons (o := { dst := some 34, op := Go.Op.call { callee := Go.Callee.value (Go.Operand.func 38), args := #[Go.Operand.tmp 33], argTypes := #[22] }, type := 22, pos := "law.go:128", after := #[{ on := 9, ground := Go.Ground.data }, { on := 4, ground := Go.Ground.chain }], guard := none }) rfl (fun K hK => ?_) AllReadyH.nil
          · go_simp
            refine (lentN_any x25 a2 n2 c2 l2 (s2.sl.below hbx25) (by omega)).mono ?_
            unfold LentN
            rintro e x26 ⟨g10, c10, rfl, ho10x26, hDx26⟩
            have hbx26 := bstep hbx25 hDx26
            have hzx26 := hDx26.size
            have hTax26 := hTax25.step hDx26
            have hTbx26 := hTbx25.step hDx26
            have ho4x26 := ownsRow_below ho4x25 hDx26
            have ht13x26 := ht13x25.step hDx26
            have ht12x26 := ht12x25.step hDx26
            have hq10 := fun q e => own_blk ho10x26 (k := q) e
            have hR10 := Rng.own ho10x26
            go_wp2_with fail
            refine hK.out _ _ (⟨hbx26, hTax26.c0, hTax26.c1, hTbx26.c0, hTbx26.c1⟩) (fun hHeld => ?_)
            clear hK K
            try simp only [Act.put, List.setIfInBounds_toArray, List.set_cons_zero, List.set_cons_succ]
            refine wpAnyH_take (i := 11) (oi := { dst := some 35, op := Go.Op.build 24 #[(0, Go.Operand.tmp 31), (1, Go.Operand.tmp 34)], type := 24, pos := "law.go:128", after := #[{ on := 7, ground := Go.Ground.data }, { on := 10, ground := Go.Ground.data }, { on := 14, ground := Go.Ground.gcOnly Go.Departure.lateStores }], guard := none }) (v := ?v11x40) rfl (by kernel_rfl) (by kernel_rfl) (by kernel_rfl) (fun _ _ _ h => h) (Or.inl ⟨by rfl, ?hy11x40⟩) hHeld ?rest11x40
            case hy11x40 =>
              intro w hSw
              try dsimp only at hSw
              go_simp
              try with_reducible rfl
            try simp only [Act.put, List.setIfInBounds_toArray, List.set_cons_zero, List.set_cons_succ]
            refine wpAnyH_ready (rs := [14]) (by kernel_rfl) (by simp) ?_
            refine AllReadyH.cons (o := { dst := none, op := Go.Op.store 24 (Go.Operand.tmp 5) (Go.Operand.tmp 29), type := 0, pos := "law.go:128", after := #[{ on := 12, ground := Go.Ground.data }, { on := 5, ground := Go.Ground.data }, { on := 10, ground := Go.Ground.chain }, { on := 0, ground := Go.Ground.phase }, { on := 1, ground := Go.Ground.phase }, { on := 2, ground := Go.Ground.phase }, { on := 3, ground := Go.Ground.phase }, { on := 4, ground := Go.Ground.phase }, { on := 5, ground := Go.Ground.phase }, { on := 6, ground := Go.Ground.textOnly Go.Departure.lateStores }, { on := 7, ground := Go.Ground.textOnly Go.Departure.lateStores }, { on := 8, ground := Go.Ground.textOnly Go.Departure.lateStores }, { on := 9, ground := Go.Ground.textOnly Go.Departure.lateStores }, { on := 10, ground := Go.Ground.textOnly Go.Departure.lateStoresUnsure }, { on := 11, ground := Go.Ground.textOnly Go.Departure.lateStores }, { on := 12, ground := Go.Ground.phase }, { on := 13, ground := Go.Ground.phase }], guard := none }) rfl (fun K hK => ?_) AllReadyH.nil
            · have q0 := ht12x26.c0
              have q1 := ht12x26.c1
              have q2 := ht12x26.f0
              have q3 := ht12x26.f1
              obtain ⟨x27, hwx27⟩ : ∃ wz, wz = ((x26.setCell ⟨x20.heap.size, 0, none⟩ (.int .i64 N)).setCell ⟨x20.heap.size, 1, none⟩ (.slice g4 n c4)) := ⟨_, rfl⟩
              have hbx27 : Below w.heap.size w x27 := by rw [hwx27]; exact (hbx26.setCell (p := ⟨x20.heap.size, 0, none⟩) (by show w.heap.size ≤ x20.heap.size; omega) _).setCell (p := ⟨x20.heap.size, 1, none⟩) (by show w.heap.size ≤ x20.heap.size; omega) _
              have hzx27 : x26.heap.size ≤ x27.heap.size := by rw [hwx27]; simp
              have ht12x27 : Two x27 x20.heap.size 24 (.int .i64 N) (.slice g4 n c4) := by rw [hwx27]; exact put1 (put0 ht12x26 _) _
              have ht13x27 : Two x27 x1.heap.size 24 (.int .i64 0) (.slice none 0 0) := by rw [hwx27]; exact two_set (two_set ht13x26 (by omega) _ _) (by omega) _ _
              have hTax27 : Two x27 w.heap.size 24 (.int .i64 N) (.slice a n c) := by rw [hwx27]; exact two_set (two_set hTax26 (by omega) _ _) (by omega) _ _
              have hTbx27 : Two x27 (w.heap.size + 1) 24 (.int .i64 M) (.slice a2 n2 c2) := by rw [hwx27]; exact two_set (two_set hTbx26 (by omega) _ _) (by omega) _ _
              have ho4x27 : x27.ownsRow x0.heap.size 30 1 (.slice g4 (n + 12) c4) (n + 12) ((l ++ marksF markN 12).map (Value.int .u64)) := by rw [hwx27]; exact own_nej (own_nej ho4x26 (fun q e => by have := hq4 q e; omega) _ _) (fun q e => by have := hq4 q e; omega) _ _
              have ho10x27 : x27.ownsRow x25.heap.size 30 1 (.slice g10 (n2 + 12) c10) (n2 + 12) ((l2 ++ marksF markN 12).map (Value.int .u64)) := by rw [hwx27]; exact own_nej (own_nej ho10x26 (fun q e => by have := hq10 q e; omega) _ _) (fun q e => by have := hq10 q e; omega) _ _
              go_simp
              rw [← hwx27]
              clear hwx27 q0 q1 q2 q3
              refine hK.out _ _ (⟨hbx27, hTax27.c0, hTax27.c1, hTbx27.c0, hTbx27.c1⟩) (fun hHeld => ?_)
              clear hK K
              try simp only [Act.put, List.setIfInBounds_toArray, List.set_cons_zero, List.set_cons_succ]
              refine wpAnyH_ready (rs := [15]) (by kernel_rfl) (by simp) ?_
              refine AllReadyH.cons (o := { dst := none, op := Go.Op.store 24 (Go.Operand.tmp 6) (Go.Operand.tmp 35), type := 0, pos := "law.go:128", after := #[{ on := 13, ground := Go.Ground.data }, { on := 11, ground := Go.Ground.data }, { on := 14, ground := Go.Ground.chain }, { on := 0, ground := Go.Ground.phase }, { on := 1, ground := Go.Ground.phase }, { on := 2, ground := Go.Ground.phase }, { on := 3, ground := Go.Ground.phase }, { on := 4, ground := Go.Ground.phase }, { on := 5, ground := Go.Ground.phase }, { on := 6, ground := Go.Ground.phase }, { on := 7, ground := Go.Ground.phase }, { on := 8, ground := Go.Ground.phase }, { on := 9, ground := Go.Ground.phase }, { on := 10, ground := Go.Ground.phase }, { on := 11, ground := Go.Ground.phase }, { on := 12, ground := Go.Ground.phase }, { on := 13, ground := Go.Ground.phase }, { on := 14, ground := Go.Ground.phase }], guard := none }) rfl (fun K hK => ?_) AllReadyH.nil
              · have q0 := ht13x27.c0
                have q1 := ht13x27.c1
                have q2 := ht13x27.f0
                have q3 := ht13x27.f1
                obtain ⟨x28, hwx28⟩ : ∃ wz, wz = ((x27.setCell ⟨x1.heap.size, 0, none⟩ (.int .i64 M)).setCell ⟨x1.heap.size, 1, none⟩ (.slice g10 n2 c10)) := ⟨_, rfl⟩
                have hbx28 : Below w.heap.size w x28 := by rw [hwx28]; exact (hbx27.setCell (p := ⟨x1.heap.size, 0, none⟩) (by show w.heap.size ≤ x1.heap.size; omega) _).setCell (p := ⟨x1.heap.size, 1, none⟩) (by show w.heap.size ≤ x1.heap.size; omega) _
                have hzx28 : x27.heap.size ≤ x28.heap.size := by rw [hwx28]; simp
                have ht13x28 : Two x28 x1.heap.size 24 (.int .i64 M) (.slice g10 n2 c10) := by rw [hwx28]; exact put1 (put0 ht13x27 _) _
                have ht12x28 : Two x28 x20.heap.size 24 (.int .i64 N) (.slice g4 n c4) := by rw [hwx28]; exact two_set (two_set ht12x27 (by omega) _ _) (by omega) _ _
                have hTax28 : Two x28 w.heap.size 24 (.int .i64 N) (.slice a n c) := by rw [hwx28]; exact two_set (two_set hTax27 (by omega) _ _) (by omega) _ _
                have hTbx28 : Two x28 (w.heap.size + 1) 24 (.int .i64 M) (.slice a2 n2 c2) := by rw [hwx28]; exact two_set (two_set hTbx27 (by omega) _ _) (by omega) _ _
                have ho4x28 : x28.ownsRow x0.heap.size 30 1 (.slice g4 (n + 12) c4) (n + 12) ((l ++ marksF markN 12).map (Value.int .u64)) := by rw [hwx28]; exact own_nej (own_nej ho4x27 (fun q e => by have := hq4 q e; omega) _ _) (fun q e => by have := hq4 q e; omega) _ _
                have ho10x28 : x28.ownsRow x25.heap.size 30 1 (.slice g10 (n2 + 12) c10) (n2 + 12) ((l2 ++ marksF markN 12).map (Value.int .u64)) := by rw [hwx28]; exact own_nej (own_nej ho10x27 (fun q e => by have := hq10 q e; omega) _ _) (fun q e => by have := hq10 q e; omega) _ _
                go_simp
                rw [← hwx28]
                clear hwx28 q0 q1 q2 q3
                refine hK.out _ _ (⟨hbx28, hTax28.c0, hTax28.c1, hTbx28.c0, hTbx28.c1⟩) (fun hHeld => ?_)
                clear hK K
                try simp only [Act.put, List.setIfInBounds_toArray, List.set_cons_zero, List.set_cons_succ]
                refine wpAnyH_done (by kernel_rfl) ?_ _
                refine NoPanic.normal ?_
                go_wp2_with fail
                go_meet
                case rel => exact ⟨_, _, g4, g10, c4, c10, rfl, rfl, ⟨hbx28, ht12x28, ht13x28, own_base ho4x28 (by omega), own_base ho10x28 (by omega), x1.heap.size, by omega, by omega, (fun q e => by have := hR4 q e; omega), (fun q e => by have := hR10 q e; omega)⟩, hTax28, hTbx28⟩
    · obtain ⟨x29, hwx29⟩ : ∃ wz, wz = x0.alloc (.cells #[.int .i64 0, .slice none 0 0] 24) := ⟨_, rfl⟩
      have hDx29 : Below x0.heap.size x0 x29 := by rw [hwx29]; exact (Below.refl _ _).alloc (Nat.le_refl _) _
      have ht12x29 : Two x29 x0.heap.size 24 (.int .i64 0) (.slice none 0 0) := by rw [hwx29]; exact Two.new _ _ _ _
      have hbx29 := bstep hbx0 hDx29
      have hzx29 := hDx29.size
      have hTax29 := hTax0.step hDx29
      have hTbx29 := hTbx0.step hDx29
      have hk12 := ht12x29.lt
      have hg12 : V0.heap.size ≤ x0.heap.size := by omega
      go_simp
      rw [← hwx29]
      clear hwx29
      refine hK.out _ _ (⟨hbx29, hTax29.c0, hTax29.c1, hTbx29.c0, hTbx29.c1⟩) (fun hHeld => ?_)
      clear hK K
      try simp only [Act.put, List.setIfInBounds_toArray, List.set_cons_zero, List.set_cons_succ]
      refine wpAnyH_ready (rs := [4, 13]) (by kernel_rfl) (by simp) ?_
      refine AllReadyH.cons (o := { dst := some 28, op := Go.Op.call { callee := Go.Callee.value (Go.Operand.func 38), args := #[Go.Operand.tmp 27], argTypes := #[22] }, type := 22, pos := "law.go:128", after := #[{ on := 3, ground := Go.Ground.data }], guard := none }) rfl (fun K hK => ?_) (AllReadyH.cons (o := { dst := some 6, op := Go.Op.alloc 24, type := 0, pos := "law.go:128", after := #[], guard := none }) rfl (fun K hK => ?_) AllReadyH.nil)
      · go_simp
        refine (lentN_any x29 a n c l (s1.sl.below hbx29) (by omega)).mono ?_
        unfold LentN
        rintro e x30 ⟨g4, c4, rfl, ho4x30, hDx30⟩
        have hbx30 := bstep hbx29 hDx30
        have hzx30 := hDx30.size
        have hTax30 := hTax29.step hDx30
        have hTbx30 := hTbx29.step hDx30
        have ht12x30 := ht12x29.step hDx30
        have hq4 := fun q e => own_blk ho4x30 (k := q) e
        have hR4 := Rng.own ho4x30
        go_wp2_with fail
        refine hK.out _ _ (⟨hbx30, hTax30.c0, hTax30.c1, hTbx30.c0, hTbx30.c1⟩) (fun hHeld => ?_)
        clear hK K
        try simp only [Act.put, List.setIfInBounds_toArray, List.set_cons_zero, List.set_cons_succ]
        refine wpAnyH_take (i := 5) (oi := { dst := some 29, op := Go.Op.build 24 #[(0, Go.Operand.tmp 25), (1, Go.Operand.tmp 28)], type := 24, pos := "law.go:128", after := #[{ on := 1, ground := Go.Ground.data }, { on := 4, ground := Go.Ground.data }], guard := none }) (v := ?v5x45) rfl (by kernel_rfl) (by kernel_rfl) (by kernel_rfl) (fun _ _ _ h => h) (Or.inl ⟨by rfl, ?hy5x45⟩) hHeld ?rest5x45
        case hy5x45 =>
          intro w hSw
          try dsimp only at hSw
          go_simp
          try with_reducible rfl
        try simp only [Act.put, List.setIfInBounds_toArray, List.set_cons_zero, List.set_cons_succ]
        refine wpAnyH_ready (rs := [10, 13]) (by kernel_rfl) (by simp) ?_
        refine AllReadyH.cons (o := { dst := some 34, op := Go.Op.call { callee := Go.Callee.value (Go.Operand.func 38), args := #[Go.Operand.tmp 33], argTypes := #[22] }, type := 22, pos := "law.go:128", after := #[{ on := 9, ground := Go.Ground.data }, { on := 4, ground := Go.Ground.chain }], guard := none }) rfl (fun K hK => ?_) (AllReadyH.cons (o := { dst := some 6, op := Go.Op.alloc 24, type := 0, pos := "law.go:128", after := #[], guard := none }) rfl (fun K hK => ?_) AllReadyH.nil)
        · go_simp
          refine (lentN_any x30 a2 n2 c2 l2 (s2.sl.below hbx30) (by omega)).mono ?_
          unfold LentN
          rintro e x31 ⟨g10, c10, rfl, ho10x31, hDx31⟩
          have hbx31 := bstep hbx30 hDx31
          have hzx31 := hDx31.size
          have hTax31 := hTax30.step hDx31
          have hTbx31 := hTbx30.step hDx31
          have ho4x31 := ownsRow_below ho4x30 hDx31
          have ht12x31 := ht12x30.step hDx31
          have hq10 := fun q e => own_blk ho10x31 (k := q) e
          have hR10 := Rng.own ho10x31
          go_wp2_with fail
          refine hK.out _ _ (⟨hbx31, hTax31.c0, hTax31.c1, hTbx31.c0, hTbx31.c1⟩) (fun hHeld => ?_)
          clear hK K
          try simp only [Act.put, List.setIfInBounds_toArray, List.set_cons_zero, List.set_cons_succ]
          refine wpAnyH_take (i := 11) (oi := { dst := some 35, op := Go.Op.build 24 #[(0, Go.Operand.tmp 31), (1, Go.Operand.tmp 34)], type := 24, pos := "law.go:128", after := #[{ on := 7, ground := Go.Ground.data }, { on := 10, ground := Go.Ground.data }, { on := 14, ground := Go.Ground.gcOnly Go.Departure.lateStores }], guard := none }) (v := ?v11x47) rfl (by kernel_rfl) (by kernel_rfl) (by kernel_rfl) (fun _ _ _ h => h) (Or.inl ⟨by rfl, ?hy11x47⟩) hHeld ?rest11x47
          case hy11x47 =>
            intro w hSw
            try dsimp only at hSw
            go_simp
            try with_reducible rfl
          try simp only [Act.put, List.setIfInBounds_toArray, List.set_cons_zero, List.set_cons_succ]
          refine wpAnyH_ready (rs := [13]) (by kernel_rfl) (by simp) ?_
          refine AllReadyH.cons (o := { dst := some 6, op := Go.Op.alloc 24, type := 0, pos := "law.go:128", after := #[], guard := none }) rfl (fun K hK => ?_) AllReadyH.nil
          · obtain ⟨x32, hwx32⟩ : ∃ wz, wz = x31.alloc (.cells #[.int .i64 0, .slice none 0 0] 24) := ⟨_, rfl⟩
            have hDx32 : Below x31.heap.size x31 x32 := by rw [hwx32]; exact (Below.refl _ _).alloc (Nat.le_refl _) _
            have ht13x32 : Two x32 x31.heap.size 24 (.int .i64 0) (.slice none 0 0) := by rw [hwx32]; exact Two.new _ _ _ _
            have hbx32 := bstep hbx31 hDx32
            have hzx32 := hDx32.size
            have hTax32 := hTax31.step hDx32
            have hTbx32 := hTbx31.step hDx32
            have ho4x32 := ownsRow_below ho4x31 hDx32
            have ho10x32 := ownsRow_below ho10x31 hDx32
            have ht12x32 := ht12x31.step hDx32
            have hk13 := ht13x32.lt
            have hg13 : V0.heap.size ≤ x31.heap.size := by omega
            go_simp
            rw [← hwx32]
            clear hwx32
            refine hK.out _ _ (⟨hbx32, hTax32.c0, hTax32.c1, hTbx32.c0, hTbx32.c1⟩) (fun hHeld => ?_)
            clear hK K
            try simp only [Act.put, List.setIfInBounds_toArray, List.set_cons_zero, List.set_cons_succ]
            refine wpAnyH_ready (rs := [14]) (by kernel_rfl) (by simp) ?_
            refine AllReadyH.cons (o := { dst := none, op := Go.Op.store 24 (Go.Operand.tmp 5) (Go.Operand.tmp 29), type := 0, pos := "law.go:128", after := #[{ on := 12, ground := Go.Ground.data }, { on := 5, ground := Go.Ground.data }, { on := 10, ground := Go.Ground.chain }, { on := 0, ground := Go.Ground.phase }, { on := 1, ground := Go.Ground.phase }, { on := 2, ground := Go.Ground.phase }, { on := 3, ground := Go.Ground.phase }, { on := 4, ground := Go.Ground.phase }, { on := 5, ground := Go.Ground.phase }, { on := 6, ground := Go.Ground.textOnly Go.Departure.lateStores }, { on := 7, ground := Go.Ground.textOnly Go.Departure.lateStores }, { on := 8, ground := Go.Ground.textOnly Go.Departure.lateStores }, { on := 9, ground := Go.Ground.textOnly Go.Departure.lateStores }, { on := 10, ground := Go.Ground.textOnly Go.Departure.lateStoresUnsure }, { on := 11, ground := Go.Ground.textOnly Go.Departure.lateStores }, { on := 12, ground := Go.Ground.phase }, { on := 13, ground := Go.Ground.phase }], guard := none }) rfl (fun K hK => ?_) AllReadyH.nil
            · have q0 := ht12x32.c0
              have q1 := ht12x32.c1
              have q2 := ht12x32.f0
              have q3 := ht12x32.f1
              obtain ⟨x33, hwx33⟩ : ∃ wz, wz = ((x32.setCell ⟨x0.heap.size, 0, none⟩ (.int .i64 N)).setCell ⟨x0.heap.size, 1, none⟩ (.slice g4 n c4)) := ⟨_, rfl⟩
              have hbx33 : Below w.heap.size w x33 := by rw [hwx33]; exact (hbx32.setCell (p := ⟨x0.heap.size, 0, none⟩) (by show w.heap.size ≤ x0.heap.size; omega) _).setCell (p := ⟨x0.heap.size, 1, none⟩) (by show w.heap.size ≤ x0.heap.size; omega) _
              have hzx33 : x32.heap.size ≤ x33.heap.size := by rw [hwx33]; simp
              have ht12x33 : Two x33 x0.heap.size 24 (.int .i64 N) (.slice g4 n c4) := by rw [hwx33]; exact put1 (put0 ht12x32 _) _
              have ht13x33 : Two x33 x31.heap.size 24 (.int .i64 0) (.slice none 0 0) := by rw [hwx33]; exact two_set (two_set ht13x32 (by omega) _ _) (by omega) _ _
              have hTax33 : Two x33 w.heap.size 24 (.int .i64 N) (.slice a n c) := by rw [hwx33]; exact two_set (two_set hTax32 (by omega) _ _) (by omega) _ _
              have hTbx33 : Two x33 (w.heap.size + 1) 24 (.int .i64 M) (.slice a2 n2 c2) := by rw [hwx33]; exact two_set (two_set hTbx32 (by omega) _ _) (by omega) _ _
              have ho4x33 : x33.ownsRow x29.heap.size 30 1 (.slice g4 (n + 12) c4) (n + 12) ((l ++ marksF markN 12).map (Value.int .u64)) := by rw [hwx33]; exact own_nej (own_nej ho4x32 (fun q e => by have := hq4 q e; omega) _ _) (fun q e => by have := hq4 q e; omega) _ _
              have ho10x33 : x33.ownsRow x30.heap.size 30 1 (.slice g10 (n2 + 12) c10) (n2 + 12) ((l2 ++ marksF markN 12).map (Value.int .u64)) := by rw [hwx33]; exact own_nej (own_nej ho10x32 (fun q e => by have := hq10 q e; omega) _ _) (fun q e => by have := hq10 q e; omega) _ _
              go_simp
              rw [← hwx33]
              clear hwx33 q0 q1 q2 q3
              refine hK.out _ _ (⟨hbx33, hTax33.c0, hTax33.c1, hTbx33.c0, hTbx33.c1⟩) (fun hHeld => ?_)
              clear hK K
              try simp only [Act.put, List.setIfInBounds_toArray, List.set_cons_zero, List.set_cons_succ]
              refine wpAnyH_ready (rs := [15]) (by kernel_rfl) (by simp) ?_
              refine AllReadyH.cons (o := { dst := none, op := Go.Op.store 24 (Go.Operand.tmp 6) (Go.Operand.tmp 35), type := 0, pos := "law.go:128", after := #[{ on := 13, ground := Go.Ground.data }, { on := 11, ground := Go.Ground.data }, { on := 14, ground := Go.Ground.chain }, { on := 0, ground := Go.Ground.phase }, { on := 1, ground := Go.Ground.phase }, { on := 2, ground := Go.Ground.phase }, { on := 3, ground := Go.Ground.phase }, { on := 4, ground := Go.Ground.phase }, { on := 5, ground := Go.Ground.phase }, { on := 6, ground := Go.Ground.phase }, { on := 7, ground := Go.Ground.phase }, { on := 8, ground := Go.Ground.phase }, { on := 9, ground := Go.Ground.phase }, { on := 10, ground := Go.Ground.phase }, { on := 11, ground := Go.Ground.phase }, { on := 12, ground := Go.Ground.phase }, { on := 13, ground := Go.Ground.phase }, { on := 14, ground := Go.Ground.phase }], guard := none }) rfl (fun K hK => ?_) AllReadyH.nil
              · have q0 := ht13x33.c0
                have q1 := ht13x33.c1
                have q2 := ht13x33.f0
                have q3 := ht13x33.f1
                obtain ⟨x34, hwx34⟩ : ∃ wz, wz = ((x33.setCell ⟨x31.heap.size, 0, none⟩ (.int .i64 M)).setCell ⟨x31.heap.size, 1, none⟩ (.slice g10 n2 c10)) := ⟨_, rfl⟩
                have hbx34 : Below w.heap.size w x34 := by rw [hwx34]; exact (hbx33.setCell (p := ⟨x31.heap.size, 0, none⟩) (by show w.heap.size ≤ x31.heap.size; omega) _).setCell (p := ⟨x31.heap.size, 1, none⟩) (by show w.heap.size ≤ x31.heap.size; omega) _
                have hzx34 : x33.heap.size ≤ x34.heap.size := by rw [hwx34]; simp
                have ht13x34 : Two x34 x31.heap.size 24 (.int .i64 M) (.slice g10 n2 c10) := by rw [hwx34]; exact put1 (put0 ht13x33 _) _
                have ht12x34 : Two x34 x0.heap.size 24 (.int .i64 N) (.slice g4 n c4) := by rw [hwx34]; exact two_set (two_set ht12x33 (by omega) _ _) (by omega) _ _
                have hTax34 : Two x34 w.heap.size 24 (.int .i64 N) (.slice a n c) := by rw [hwx34]; exact two_set (two_set hTax33 (by omega) _ _) (by omega) _ _
                have hTbx34 : Two x34 (w.heap.size + 1) 24 (.int .i64 M) (.slice a2 n2 c2) := by rw [hwx34]; exact two_set (two_set hTbx33 (by omega) _ _) (by omega) _ _
                have ho4x34 : x34.ownsRow x29.heap.size 30 1 (.slice g4 (n + 12) c4) (n + 12) ((l ++ marksF markN 12).map (Value.int .u64)) := by rw [hwx34]; exact own_nej (own_nej ho4x33 (fun q e => by have := hq4 q e; omega) _ _) (fun q e => by have := hq4 q e; omega) _ _
                have ho10x34 : x34.ownsRow x30.heap.size 30 1 (.slice g10 (n2 + 12) c10) (n2 + 12) ((l2 ++ marksF markN 12).map (Value.int .u64)) := by rw [hwx34]; exact own_nej (own_nej ho10x33 (fun q e => by have := hq10 q e; omega) _ _) (fun q e => by have := hq10 q e; omega) _ _
                go_simp
                rw [← hwx34]
                clear hwx34 q0 q1 q2 q3
                refine hK.out _ _ (⟨hbx34, hTax34.c0, hTax34.c1, hTbx34.c0, hTbx34.c1⟩) (fun hHeld => ?_)
                clear hK K
                try simp only [Act.put, List.setIfInBounds_toArray, List.set_cons_zero, List.set_cons_succ]
                refine wpAnyH_done (by kernel_rfl) ?_ _
                refine NoPanic.normal ?_
                go_wp2_with fail
                go_meet
                case rel => exact ⟨_, _, g4, g10, c4, c10, rfl, rfl, ⟨hbx34, ht12x34, ht13x34, own_base ho4x34 (by omega), own_base ho10x34 (by omega), x30.heap.size, by omega, by omega, (fun q e => by have := hR4 q e; omega), (fun q e => by have := hR10 q e; omega)⟩, hTax34, hTbx34⟩
        · obtain ⟨x35, hwx35⟩ : ∃ wz, wz = x30.alloc (.cells #[.int .i64 0, .slice none 0 0] 24) := ⟨_, rfl⟩
          have hDx35 : Below x30.heap.size x30 x35 := by rw [hwx35]; exact (Below.refl _ _).alloc (Nat.le_refl _) _
          have ht13x35 : Two x35 x30.heap.size 24 (.int .i64 0) (.slice none 0 0) := by rw [hwx35]; exact Two.new _ _ _ _
          have hbx35 := bstep hbx30 hDx35
          have hzx35 := hDx35.size
          have hTax35 := hTax30.step hDx35
          have hTbx35 := hTbx30.step hDx35
          have ho4x35 := ownsRow_below ho4x30 hDx35
          have ht12x35 := ht12x30.step hDx35
          have hk13 := ht13x35.lt
          have hg13 : V0.heap.size ≤ x30.heap.size := by omega
          go_simp
          rw [← hwx35]
          clear hwx35
          refine hK.out _ _ (⟨hbx35, hTax35.c0, hTax35.c1, hTbx35.c0, hTbx35.c1⟩) (fun hHeld => ?_)
          clear hK K
          try simp only [Act.put, List.setIfInBounds_toArray, List.set_cons_zero, List.set_cons_succ]
          refine wpAnyH_ready (rs := [10]) (by kernel_rfl) (by simp) ?_
          refine AllReadyH.cons (o := { dst := some 34, op := Go.Op.call { callee := Go.Callee.value (Go.Operand.func 38), args := #[Go.Operand.tmp 33], argTypes := #[22] }, type := 22, pos := "law.go:128", after := #[{ on := 9, ground := Go.Ground.data }, { on := 4, ground := Go.Ground.chain }], guard := none }) rfl (fun K hK => ?_) AllReadyH.nil
          · go_simp
            refine (lentN_any x35 a2 n2 c2 l2 (s2.sl.below hbx35) (by omega)).mono ?_
            unfold LentN
            rintro e x36 ⟨g10, c10, rfl, ho10x36, hDx36⟩
            have hbx36 := bstep hbx35 hDx36
            have hzx36 := hDx36.size
            have hTax36 := hTax35.step hDx36
            have hTbx36 := hTbx35.step hDx36
            have ho4x36 := ownsRow_below ho4x35 hDx36
            have ht12x36 := ht12x35.step hDx36
            have ht13x36 := ht13x35.step hDx36
            have hq10 := fun q e => own_blk ho10x36 (k := q) e
            have hR10 := Rng.own ho10x36
            go_wp2_with fail
            refine hK.out _ _ (⟨hbx36, hTax36.c0, hTax36.c1, hTbx36.c0, hTbx36.c1⟩) (fun hHeld => ?_)
            clear hK K
            try simp only [Act.put, List.setIfInBounds_toArray, List.set_cons_zero, List.set_cons_succ]
            refine wpAnyH_take (i := 11) (oi := { dst := some 35, op := Go.Op.build 24 #[(0, Go.Operand.tmp 31), (1, Go.Operand.tmp 34)], type := 24, pos := "law.go:128", after := #[{ on := 7, ground := Go.Ground.data }, { on := 10, ground := Go.Ground.data }, { on := 14, ground := Go.Ground.gcOnly Go.Departure.lateStores }], guard := none }) (v := ?v11x53) rfl (by kernel_rfl) (by kernel_rfl) (by kernel_rfl) (fun _ _ _ h => h) (Or.inl ⟨by rfl, ?hy11x53⟩) hHeld ?rest11x53
            case hy11x53 =>
              intro w hSw
              try dsimp only at hSw
              go_simp
              try with_reducible rfl
            try simp only [Act.put, List.setIfInBounds_toArray, List.set_cons_zero, List.set_cons_succ]
            refine wpAnyH_ready (rs := [14]) (by kernel_rfl) (by simp) ?_
            refine AllReadyH.cons (o := { dst := none, op := Go.Op.store 24 (Go.Operand.tmp 5) (Go.Operand.tmp 29), type := 0, pos := "law.go:128", after := #[{ on := 12, ground := Go.Ground.data }, { on := 5, ground := Go.Ground.data }, { on := 10, ground := Go.Ground.chain }, { on := 0, ground := Go.Ground.phase }, { on := 1, ground := Go.Ground.phase }, { on := 2, ground := Go.Ground.phase }, { on := 3, ground := Go.Ground.phase }, { on := 4, ground := Go.Ground.phase }, { on := 5, ground := Go.Ground.phase }, { on := 6, ground := Go.Ground.textOnly Go.Departure.lateStores }, { on := 7, ground := Go.Ground.textOnly Go.Departure.lateStores }, { on := 8, ground := Go.Ground.textOnly Go.Departure.lateStores }, { on := 9, ground := Go.Ground.textOnly Go.Departure.lateStores }, { on := 10, ground := Go.Ground.textOnly Go.Departure.lateStoresUnsure }, { on := 11, ground := Go.Ground.textOnly Go.Departure.lateStores }, { on := 12, ground := Go.Ground.phase }, { on := 13, ground := Go.Ground.phase }], guard := none }) rfl (fun K hK => ?_) AllReadyH.nil
            · have q0 := ht12x36.c0
              have q1 := ht12x36.c1
              have q2 := ht12x36.f0
              have q3 := ht12x36.f1
              obtain ⟨x37, hwx37⟩ : ∃ wz, wz = ((x36.setCell ⟨x0.heap.size, 0, none⟩ (.int .i64 N)).setCell ⟨x0.heap.size, 1, none⟩ (.slice g4 n c4)) := ⟨_, rfl⟩
              have hbx37 : Below w.heap.size w x37 := by rw [hwx37]; exact (hbx36.setCell (p := ⟨x0.heap.size, 0, none⟩) (by show w.heap.size ≤ x0.heap.size; omega) _).setCell (p := ⟨x0.heap.size, 1, none⟩) (by show w.heap.size ≤ x0.heap.size; omega) _
              have hzx37 : x36.heap.size ≤ x37.heap.size := by rw [hwx37]; simp
              have ht12x37 : Two x37 x0.heap.size 24 (.int .i64 N) (.slice g4 n c4) := by rw [hwx37]; exact put1 (put0 ht12x36 _) _
              have ht13x37 : Two x37 x30.heap.size 24 (.int .i64 0) (.slice none 0 0) := by rw [hwx37]; exact two_set (two_set ht13x36 (by omega) _ _) (by omega) _ _
              have hTax37 : Two x37 w.heap.size 24 (.int .i64 N) (.slice a n c) := by rw [hwx37]; exact two_set (two_set hTax36 (by omega) _ _) (by omega) _ _
              have hTbx37 : Two x37 (w.heap.size + 1) 24 (.int .i64 M) (.slice a2 n2 c2) := by rw [hwx37]; exact two_set (two_set hTbx36 (by omega) _ _) (by omega) _ _
              have ho4x37 : x37.ownsRow x29.heap.size 30 1 (.slice g4 (n + 12) c4) (n + 12) ((l ++ marksF markN 12).map (Value.int .u64)) := by rw [hwx37]; exact own_nej (own_nej ho4x36 (fun q e => by have := hq4 q e; omega) _ _) (fun q e => by have := hq4 q e; omega) _ _
              have ho10x37 : x37.ownsRow x35.heap.size 30 1 (.slice g10 (n2 + 12) c10) (n2 + 12) ((l2 ++ marksF markN 12).map (Value.int .u64)) := by rw [hwx37]; exact own_nej (own_nej ho10x36 (fun q e => by have := hq10 q e; omega) _ _) (fun q e => by have := hq10 q e; omega) _ _
              go_simp
              rw [← hwx37]
              clear hwx37 q0 q1 q2 q3
              refine hK.out _ _ (⟨hbx37, hTax37.c0, hTax37.c1, hTbx37.c0, hTbx37.c1⟩) (fun hHeld => ?_)
              clear hK K
              try simp only [Act.put, List.setIfInBounds_toArray, List.set_cons_zero, List.set_cons_succ]
              refine wpAnyH_ready (rs := [15]) (by kernel_rfl) (by simp) ?_
              refine AllReadyH.cons (o := { dst := none, op := Go.Op.store 24 (Go.Operand.tmp 6) (Go.Operand.tmp 35), type := 0, pos := "law.go:128", after := #[{ on := 13, ground := Go.Ground.data }, { on := 11, ground := Go.Ground.data }, { on := 14, ground := Go.Ground.chain }, { on := 0, ground := Go.Ground.phase }, { on := 1, ground := Go.Ground.phase }, { on := 2, ground := Go.Ground.phase }, { on := 3, ground := Go.Ground.phase }, { on := 4, ground := Go.Ground.phase }, { on := 5, ground := Go.Ground.phase }, { on := 6, ground := Go.Ground.phase }, { on := 7, ground := Go.Ground.phase }, { on := 8, ground := Go.Ground.phase }, { on := 9, ground := Go.Ground.phase }, { on := 10, ground := Go.Ground.phase }, { on := 11, ground := Go.Ground.phase }, { on := 12, ground := Go.Ground.phase }, { on := 13, ground := Go.Ground.phase }, { on := 14, ground := Go.Ground.phase }], guard := none }) rfl (fun K hK => ?_) AllReadyH.nil
              · have q0 := ht13x37.c0
                have q1 := ht13x37.c1
                have q2 := ht13x37.f0
                have q3 := ht13x37.f1
                obtain ⟨x38, hwx38⟩ : ∃ wz, wz = ((x37.setCell ⟨x30.heap.size, 0, none⟩ (.int .i64 M)).setCell ⟨x30.heap.size, 1, none⟩ (.slice g10 n2 c10)) := ⟨_, rfl⟩
                have hbx38 : Below w.heap.size w x38 := by rw [hwx38]; exact (hbx37.setCell (p := ⟨x30.heap.size, 0, none⟩) (by show w.heap.size ≤ x30.heap.size; omega) _).setCell (p := ⟨x30.heap.size, 1, none⟩) (by show w.heap.size ≤ x30.heap.size; omega) _
                have hzx38 : x37.heap.size ≤ x38.heap.size := by rw [hwx38]; simp
                have ht13x38 : Two x38 x30.heap.size 24 (.int .i64 M) (.slice g10 n2 c10) := by rw [hwx38]; exact put1 (put0 ht13x37 _) _
                have ht12x38 : Two x38 x0.heap.size 24 (.int .i64 N) (.slice g4 n c4) := by rw [hwx38]; exact two_set (two_set ht12x37 (by omega) _ _) (by omega) _ _
                have hTax38 : Two x38 w.heap.size 24 (.int .i64 N) (.slice a n c) := by rw [hwx38]; exact two_set (two_set hTax37 (by omega) _ _) (by omega) _ _
                have hTbx38 : Two x38 (w.heap.size + 1) 24 (.int .i64 M) (.slice a2 n2 c2) := by rw [hwx38]; exact two_set (two_set hTbx37 (by omega) _ _) (by omega) _ _
                have ho4x38 : x38.ownsRow x29.heap.size 30 1 (.slice g4 (n + 12) c4) (n + 12) ((l ++ marksF markN 12).map (Value.int .u64)) := by rw [hwx38]; exact own_nej (own_nej ho4x37 (fun q e => by have := hq4 q e; omega) _ _) (fun q e => by have := hq4 q e; omega) _ _
                have ho10x38 : x38.ownsRow x35.heap.size 30 1 (.slice g10 (n2 + 12) c10) (n2 + 12) ((l2 ++ marksF markN 12).map (Value.int .u64)) := by rw [hwx38]; exact own_nej (own_nej ho10x37 (fun q e => by have := hq10 q e; omega) _ _) (fun q e => by have := hq10 q e; omega) _ _
                go_simp
                rw [← hwx38]
                clear hwx38 q0 q1 q2 q3
                refine hK.out _ _ (⟨hbx38, hTax38.c0, hTax38.c1, hTbx38.c0, hTbx38.c1⟩) (fun hHeld => ?_)
                clear hK K
                try simp only [Act.put, List.setIfInBounds_toArray, List.set_cons_zero, List.set_cons_succ]
                refine wpAnyH_done (by kernel_rfl) ?_ _
                refine NoPanic.normal ?_
                go_wp2_with fail
                go_meet
                case rel => exact ⟨_, _, g4, g10, c4, c10, rfl, rfl, ⟨hbx38, ht12x38, ht13x38, own_base ho4x38 (by omega), own_base ho10x38 (by omega), x30.heap.size, by omega, by omega, (fun q e => by have := hR4 q e; omega), (fun q e => by have := hR10 q e; omega)⟩, hTax38, hTbx38⟩
      · obtain ⟨x39, hwx39⟩ : ∃ wz, wz = x29.alloc (.cells #[.int .i64 0, .slice none 0 0] 24) := ⟨_, rfl⟩
        have hDx39 : Below x29.heap.size x29 x39 := by rw [hwx39]; exact (Below.refl _ _).alloc (Nat.le_refl _) _
        have ht13x39 : Two x39 x29.heap.size 24 (.int .i64 0) (.slice none 0 0) := by rw [hwx39]; exact Two.new _ _ _ _
        have hbx39 := bstep hbx29 hDx39
        have hzx39 := hDx39.size
        have hTax39 := hTax29.step hDx39
        have hTbx39 := hTbx29.step hDx39
        have ht12x39 := ht12x29.step hDx39
        have hk13 := ht13x39.lt
        have hg13 : V0.heap.size ≤ x29.heap.size := by omega
        go_simp
        rw [← hwx39]
        clear hwx39
        refine hK.out _ _ (⟨hbx39, hTax39.c0, hTax39.c1, hTbx39.c0, hTbx39.c1⟩) (fun hHeld => ?_)
        clear hK K
        try simp only [Act.put, List.setIfInBounds_toArray, List.set_cons_zero, List.set_cons_succ]
        refine wpAnyH_ready (rs := [4]) (by kernel_rfl) (by simp) ?_
        refine AllReadyH.cons (o := { dst := some 28, op := Go.Op.call { callee := Go.Callee.value (Go.Operand.func 38), args := #[Go.Operand.tmp 27], argTypes := #[22] }, type := 22, pos := "law.go:128", after := #[{ on := 3, ground := Go.Ground.data }], guard := none }) rfl (fun K hK => ?_) AllReadyH.nil
        · go_simp
          refine (lentN_any x39 a n c l (s1.sl.below hbx39) (by omega)).mono ?_
          unfold LentN
          rintro e x40 ⟨g4, c4, rfl, ho4x40, hDx40⟩
          have hbx40 := bstep hbx39 hDx40
          have hzx40 := hDx40.size
          have hTax40 := hTax39.step hDx40
          have hTbx40 := hTbx39.step hDx40
          have ht12x40 := ht12x39.step hDx40
          have ht13x40 := ht13x39.step hDx40
          have hq4 := fun q e => own_blk ho4x40 (k := q) e
          have hR4 := Rng.own ho4x40
          go_wp2_with fail
          refine hK.out _ _ (⟨hbx40, hTax40.c0, hTax40.c1, hTbx40.c0, hTbx40.c1⟩) (fun hHeld => ?_)
          clear hK K
          try simp only [Act.put, List.setIfInBounds_toArray, List.set_cons_zero, List.set_cons_succ]
          refine wpAnyH_take (i := 5) (oi := { dst := some 29, op := Go.Op.build 24 #[(0, Go.Operand.tmp 25), (1, Go.Operand.tmp 28)], type := 24, pos := "law.go:128", after := #[{ on := 1, ground := Go.Ground.data }, { on := 4, ground := Go.Ground.data }], guard := none }) (v := ?v5x58) rfl (by kernel_rfl) (by kernel_rfl) (by kernel_rfl) (fun _ _ _ h => h) (Or.inl ⟨by rfl, ?hy5x58⟩) hHeld ?rest5x58
          case hy5x58 =>
            intro w hSw
            try dsimp only at hSw
            go_simp
            try with_reducible rfl
          try simp only [Act.put, List.setIfInBounds_toArray, List.set_cons_zero, List.set_cons_succ]
          refine wpAnyH_ready (rs := [10]) (by kernel_rfl) (by simp) ?_
          refine AllReadyH.cons (o := { dst := some 34, op := Go.Op.call { callee := Go.Callee.value (Go.Operand.func 38), args := #[Go.Operand.tmp 33], argTypes := #[22] }, type := 22, pos := "law.go:128", after := #[{ on := 9, ground := Go.Ground.data }, { on := 4, ground := Go.Ground.chain }], guard := none }) rfl (fun K hK => ?_) AllReadyH.nil
          · go_simp
            refine (lentN_any x40 a2 n2 c2 l2 (s2.sl.below hbx40) (by omega)).mono ?_
            unfold LentN
            rintro e x41 ⟨g10, c10, rfl, ho10x41, hDx41⟩
            have hbx41 := bstep hbx40 hDx41
            have hzx41 := hDx41.size
            have hTax41 := hTax40.step hDx41
            have hTbx41 := hTbx40.step hDx41
            have ho4x41 := ownsRow_below ho4x40 hDx41
            have ht12x41 := ht12x40.step hDx41
            have ht13x41 := ht13x40.step hDx41
            have hq10 := fun q e => own_blk ho10x41 (k := q) e
            have hR10 := Rng.own ho10x41
            go_wp2_with fail
            refine hK.out _ _ (⟨hbx41, hTax41.c0, hTax41.c1, hTbx41.c0, hTbx41.c1⟩) (fun hHeld => ?_)
            clear hK K
            try simp only [Act.put, List.setIfInBounds_toArray, List.set_cons_zero, List.set_cons_succ]
            refine wpAnyH_take (i := 11) (oi := { dst := some 35, op := Go.Op.build 24 #[(0, Go.Operand.tmp 31), (1, Go.Operand.tmp 34)], type := 24, pos := "law.go:128", after := #[{ on := 7, ground := Go.Ground.data }, { on := 10, ground := Go.Ground.data }, { on := 14, ground := Go.Ground.gcOnly Go.Departure.lateStores }], guard := none }) (v := ?v11x60) rfl (by kernel_rfl) (by kernel_rfl) (by kernel_rfl) (fun _ _ _ h => h) (Or.inl ⟨by rfl, ?hy11x60⟩) hHeld ?rest11x60
            case hy11x60 =>
              intro w hSw
              try dsimp only at hSw
              go_simp
              try with_reducible rfl
            try simp only [Act.put, List.setIfInBounds_toArray, List.set_cons_zero, List.set_cons_succ]
            refine wpAnyH_ready (rs := [14]) (by kernel_rfl) (by simp) ?_
            refine AllReadyH.cons (o := { dst := none, op := Go.Op.store 24 (Go.Operand.tmp 5) (Go.Operand.tmp 29), type := 0, pos := "law.go:128", after := #[{ on := 12, ground := Go.Ground.data }, { on := 5, ground := Go.Ground.data }, { on := 10, ground := Go.Ground.chain }, { on := 0, ground := Go.Ground.phase }, { on := 1, ground := Go.Ground.phase }, { on := 2, ground := Go.Ground.phase }, { on := 3, ground := Go.Ground.phase }, { on := 4, ground := Go.Ground.phase }, { on := 5, ground := Go.Ground.phase }, { on := 6, ground := Go.Ground.textOnly Go.Departure.lateStores }, { on := 7, ground := Go.Ground.textOnly Go.Departure.lateStores }, { on := 8, ground := Go.Ground.textOnly Go.Departure.lateStores }, { on := 9, ground := Go.Ground.textOnly Go.Departure.lateStores }, { on := 10, ground := Go.Ground.textOnly Go.Departure.lateStoresUnsure }, { on := 11, ground := Go.Ground.textOnly Go.Departure.lateStores }, { on := 12, ground := Go.Ground.phase }, { on := 13, ground := Go.Ground.phase }], guard := none }) rfl (fun K hK => ?_) AllReadyH.nil
            · have q0 := ht12x41.c0
              have q1 := ht12x41.c1
              have q2 := ht12x41.f0
              have q3 := ht12x41.f1
              obtain ⟨x42, hwx42⟩ : ∃ wz, wz = ((x41.setCell ⟨x0.heap.size, 0, none⟩ (.int .i64 N)).setCell ⟨x0.heap.size, 1, none⟩ (.slice g4 n c4)) := ⟨_, rfl⟩
              have hbx42 : Below w.heap.size w x42 := by rw [hwx42]; exact (hbx41.setCell (p := ⟨x0.heap.size, 0, none⟩) (by show w.heap.size ≤ x0.heap.size; omega) _).setCell (p := ⟨x0.heap.size, 1, none⟩) (by show w.heap.size ≤ x0.heap.size; omega) _
              have hzx42 : x41.heap.size ≤ x42.heap.size := by rw [hwx42]; simp
              have ht12x42 : Two x42 x0.heap.size 24 (.int .i64 N) (.slice g4 n c4) := by rw [hwx42]; exact put1 (put0 ht12x41 _) _
              have ht13x42 : Two x42 x29.heap.size 24 (.int .i64 0) (.slice none 0 0) := by rw [hwx42]; exact two_set (two_set ht13x41 (by omega) _ _) (by omega) _ _
              have hTax42 : Two x42 w.heap.size 24 (.int .i64 N) (.slice a n c) := by rw [hwx42]; exact two_set (two_set hTax41 (by omega) _ _) (by omega) _ _
              have hTbx42 : Two x42 (w.heap.size + 1) 24 (.int .i64 M) (.slice a2 n2 c2) := by rw [hwx42]; exact two_set (two_set hTbx41 (by omega) _ _) (by omega) _ _
              have ho4x42 : x42.ownsRow x39.heap.size 30 1 (.slice g4 (n + 12) c4) (n + 12) ((l ++ marksF markN 12).map (Value.int .u64)) := by rw [hwx42]; exact own_nej (own_nej ho4x41 (fun q e => by have := hq4 q e; omega) _ _) (fun q e => by have := hq4 q e; omega) _ _
              have ho10x42 : x42.ownsRow x40.heap.size 30 1 (.slice g10 (n2 + 12) c10) (n2 + 12) ((l2 ++ marksF markN 12).map (Value.int .u64)) := by rw [hwx42]; exact own_nej (own_nej ho10x41 (fun q e => by have := hq10 q e; omega) _ _) (fun q e => by have := hq10 q e; omega) _ _
              go_simp
              rw [← hwx42]
              clear hwx42 q0 q1 q2 q3
              refine hK.out _ _ (⟨hbx42, hTax42.c0, hTax42.c1, hTbx42.c0, hTbx42.c1⟩) (fun hHeld => ?_)
              clear hK K
              try simp only [Act.put, List.setIfInBounds_toArray, List.set_cons_zero, List.set_cons_succ]
              refine wpAnyH_ready (rs := [15]) (by kernel_rfl) (by simp) ?_
              refine AllReadyH.cons (o := { dst := none, op := Go.Op.store 24 (Go.Operand.tmp 6) (Go.Operand.tmp 35), type := 0, pos := "law.go:128", after := #[{ on := 13, ground := Go.Ground.data }, { on := 11, ground := Go.Ground.data }, { on := 14, ground := Go.Ground.chain }, { on := 0, ground := Go.Ground.phase }, { on := 1, ground := Go.Ground.phase }, { on := 2, ground := Go.Ground.phase }, { on := 3, ground := Go.Ground.phase }, { on := 4, ground := Go.Ground.phase }, { on := 5, ground := Go.Ground.phase }, { on := 6, ground := Go.Ground.phase }, { on := 7, ground := Go.Ground.phase }, { on := 8, ground := Go.Ground.phase }, { on := 9, ground := Go.Ground.phase }, { on := 10, ground := Go.Ground.phase }, { on := 11, ground := Go.Ground.phase }, { on := 12, ground := Go.Ground.phase }, { on := 13, ground := Go.Ground.phase }, { on := 14, ground := Go.Ground.phase }], guard := none }) rfl (fun K hK => ?_) AllReadyH.nil
              · have q0 := ht13x42.c0
                have q1 := ht13x42.c1
                have q2 := ht13x42.f0
                have q3 := ht13x42.f1
                obtain ⟨x43, hwx43⟩ : ∃ wz, wz = ((x42.setCell ⟨x29.heap.size, 0, none⟩ (.int .i64 M)).setCell ⟨x29.heap.size, 1, none⟩ (.slice g10 n2 c10)) := ⟨_, rfl⟩
                have hbx43 : Below w.heap.size w x43 := by rw [hwx43]; exact (hbx42.setCell (p := ⟨x29.heap.size, 0, none⟩) (by show w.heap.size ≤ x29.heap.size; omega) _).setCell (p := ⟨x29.heap.size, 1, none⟩) (by show w.heap.size ≤ x29.heap.size; omega) _
                have hzx43 : x42.heap.size ≤ x43.heap.size := by rw [hwx43]; simp
                have ht13x43 : Two x43 x29.heap.size 24 (.int .i64 M) (.slice g10 n2 c10) := by rw [hwx43]; exact put1 (put0 ht13x42 _) _
                have ht12x43 : Two x43 x0.heap.size 24 (.int .i64 N) (.slice g4 n c4) := by rw [hwx43]; exact two_set (two_set ht12x42 (by omega) _ _) (by omega) _ _
                have hTax43 : Two x43 w.heap.size 24 (.int .i64 N) (.slice a n c) := by rw [hwx43]; exact two_set (two_set hTax42 (by omega) _ _) (by omega) _ _
                have hTbx43 : Two x43 (w.heap.size + 1) 24 (.int .i64 M) (.slice a2 n2 c2) := by rw [hwx43]; exact two_set (two_set hTbx42 (by omega) _ _) (by omega) _ _
                have ho4x43 : x43.ownsRow x39.heap.size 30 1 (.slice g4 (n + 12) c4) (n + 12) ((l ++ marksF markN 12).map (Value.int .u64)) := by rw [hwx43]; exact own_nej (own_nej ho4x42 (fun q e => by have := hq4 q e; omega) _ _) (fun q e => by have := hq4 q e; omega) _ _
                have ho10x43 : x43.ownsRow x40.heap.size 30 1 (.slice g10 (n2 + 12) c10) (n2 + 12) ((l2 ++ marksF markN 12).map (Value.int .u64)) := by rw [hwx43]; exact own_nej (own_nej ho10x42 (fun q e => by have := hq10 q e; omega) _ _) (fun q e => by have := hq10 q e; omega) _ _
                go_simp
                rw [← hwx43]
                clear hwx43 q0 q1 q2 q3
                refine hK.out _ _ (⟨hbx43, hTax43.c0, hTax43.c1, hTbx43.c0, hTbx43.c1⟩) (fun hHeld => ?_)
                clear hK K
                try simp only [Act.put, List.setIfInBounds_toArray, List.set_cons_zero, List.set_cons_succ]
                refine wpAnyH_done (by kernel_rfl) ?_ _
                refine NoPanic.normal ?_
                go_wp2_with fail
                go_meet
                case rel => exact ⟨_, _, g4, g10, c4, c10, rfl, rfl, ⟨hbx43, ht12x43, ht13x43, own_base ho4x43 (by omega), own_base ho10x43 (by omega), x40.heap.size, by omega, by omega, (fun q e => by have := hR4 q e; omega), (fun q e => by have := hR10 q e; omega)⟩, hTax43, hTbx43⟩
    · obtain ⟨x44, hwx44⟩ : ∃ wz, wz = x0.alloc (.cells #[.int .i64 0, .slice none 0 0] 24) := ⟨_, rfl⟩
      have hDx44 : Below x0.heap.size x0 x44 := by rw [hwx44]; exact (Below.refl _ _).alloc (Nat.le_refl _) _
      have ht13x44 : Two x44 x0.heap.size 24 (.int .i64 0) (.slice none 0 0) := by rw [hwx44]; exact Two.new _ _ _ _
      have hbx44 := bstep hbx0 hDx44
      have hzx44 := hDx44.size
      have hTax44 := hTax0.step hDx44
      have hTbx44 := hTbx0.step hDx44
      have hk13 := ht13x44.lt
      have hg13 : V0.heap.size ≤ x0.heap.size := by omega
      go_simp
      rw [← hwx44]
      clear hwx44
      refine hK.out _ _ (⟨hbx44, hTax44.c0, hTax44.c1, hTbx44.c0, hTbx44.c1⟩) (fun hHeld => ?_)
      clear hK K
      try simp only [Act.put, List.setIfInBounds_toArray, List.set_cons_zero, List.set_cons_succ]
      refine wpAnyH_ready (rs := [4, 12]) (by kernel_rfl) (by simp) ?_
      refine AllReadyH.cons (o := { dst := some 28, op := Go.Op.call { callee := Go.Callee.value (Go.Operand.func 38), args := #[Go.Operand.tmp 27], argTypes := #[22] }, type := 22, pos := "law.go:128", after := #[{ on := 3, ground := Go.Ground.data }], guard := none }) rfl (fun K hK => ?_) (AllReadyH.cons (o := { dst := some 5, op := Go.Op.alloc 24, type := 0, pos := "law.go:128", after := #[], guard := none }) rfl (fun K hK => ?_) AllReadyH.nil)
      · go_simp
        refine (lentN_any x44 a n c l (s1.sl.below hbx44) (by omega)).mono ?_
        unfold LentN
        rintro e x45 ⟨g4, c4, rfl, ho4x45, hDx45⟩
        have hbx45 := bstep hbx44 hDx45
        have hzx45 := hDx45.size
        have hTax45 := hTax44.step hDx45
        have hTbx45 := hTbx44.step hDx45
        have ht13x45 := ht13x44.step hDx45
        have hq4 := fun q e => own_blk ho4x45 (k := q) e
        have hR4 := Rng.own ho4x45
        go_wp2_with fail
        refine hK.out _ _ (⟨hbx45, hTax45.c0, hTax45.c1, hTbx45.c0, hTbx45.c1⟩) (fun hHeld => ?_)
        clear hK K
        try simp only [Act.put, List.setIfInBounds_toArray, List.set_cons_zero, List.set_cons_succ]
        refine wpAnyH_take (i := 5) (oi := { dst := some 29, op := Go.Op.build 24 #[(0, Go.Operand.tmp 25), (1, Go.Operand.tmp 28)], type := 24, pos := "law.go:128", after := #[{ on := 1, ground := Go.Ground.data }, { on := 4, ground := Go.Ground.data }], guard := none }) (v := ?v5x65) rfl (by kernel_rfl) (by kernel_rfl) (by kernel_rfl) (fun _ _ _ h => h) (Or.inl ⟨by rfl, ?hy5x65⟩) hHeld ?rest5x65
        case hy5x65 =>
          intro w hSw
          try dsimp only at hSw
          go_simp
          try with_reducible rfl
        try simp only [Act.put, List.setIfInBounds_toArray, List.set_cons_zero, List.set_cons_succ]
        refine wpAnyH_ready (rs := [10, 12]) (by kernel_rfl) (by simp) ?_
        refine AllReadyH.cons (o := { dst := some 34, op := Go.Op.call { callee := Go.Callee.value (Go.Operand.func 38), args := #[Go.Operand.tmp 33], argTypes := #[22] }, type := 22, pos := "law.go:128", after := #[{ on := 9, ground := Go.Ground.data }, { on := 4, ground := Go.Ground.chain }], guard := none }) rfl (fun K hK => ?_) (AllReadyH.cons (o := { dst := some 5, op := Go.Op.alloc 24, type := 0, pos := "law.go:128", after := #[], guard := none }) rfl (fun K hK => ?_) AllReadyH.nil)
        · go_simp
          refine (lentN_any x45 a2 n2 c2 l2 (s2.sl.below hbx45) (by omega)).mono ?_
          unfold LentN
          rintro e x46 ⟨g10, c10, rfl, ho10x46, hDx46⟩
          have hbx46 := bstep hbx45 hDx46
          have hzx46 := hDx46.size
          have hTax46 := hTax45.step hDx46
          have hTbx46 := hTbx45.step hDx46
          have ho4x46 := ownsRow_below ho4x45 hDx46
          have ht13x46 := ht13x45.step hDx46
          have hq10 := fun q e => own_blk ho10x46 (k := q) e
          have hR10 := Rng.own ho10x46
          go_wp2_with fail
          refine hK.out _ _ (⟨hbx46, hTax46.c0, hTax46.c1, hTbx46.c0, hTbx46.c1⟩) (fun hHeld => ?_)
          clear hK K
          try simp only [Act.put, List.setIfInBounds_toArray, List.set_cons_zero, List.set_cons_succ]
          refine wpAnyH_take (i := 11) (oi := { dst := some 35, op := Go.Op.build 24 #[(0, Go.Operand.tmp 31), (1, Go.Operand.tmp 34)], type := 24, pos := "law.go:128", after := #[{ on := 7, ground := Go.Ground.data }, { on := 10, ground := Go.Ground.data }, { on := 14, ground := Go.Ground.gcOnly Go.Departure.lateStores }], guard := none }) (v := ?v11x67) rfl (by kernel_rfl) (by kernel_rfl) (by kernel_rfl) (fun _ _ _ h => h) (Or.inl ⟨by rfl, ?hy11x67⟩) hHeld ?rest11x67
          case hy11x67 =>
            intro w hSw
            try dsimp only at hSw
            go_simp
            try with_reducible rfl
          try simp only [Act.put, List.setIfInBounds_toArray, List.set_cons_zero, List.set_cons_succ]
          refine wpAnyH_ready (rs := [12]) (by kernel_rfl) (by simp) ?_
          refine AllReadyH.cons (o := { dst := some 5, op := Go.Op.alloc 24, type := 0, pos := "law.go:128", after := #[], guard := none }) rfl (fun K hK => ?_) AllReadyH.nil
          · obtain ⟨x47, hwx47⟩ : ∃ wz, wz = x46.alloc (.cells #[.int .i64 0, .slice none 0 0] 24) := ⟨_, rfl⟩
            have hDx47 : Below x46.heap.size x46 x47 := by rw [hwx47]; exact (Below.refl _ _).alloc (Nat.le_refl _) _
            have ht12x47 : Two x47 x46.heap.size 24 (.int .i64 0) (.slice none 0 0) := by rw [hwx47]; exact Two.new _ _ _ _
            have hbx47 := bstep hbx46 hDx47
            have hzx47 := hDx47.size
            have hTax47 := hTax46.step hDx47
            have hTbx47 := hTbx46.step hDx47
            have ho4x47 := ownsRow_below ho4x46 hDx47
            have ho10x47 := ownsRow_below ho10x46 hDx47
            have ht13x47 := ht13x46.step hDx47
            have hk12 := ht12x47.lt
            have hg12 : V0.heap.size ≤ x46.heap.size := by omega
            go_simp
            rw [← hwx47]
            clear hwx47
            refine hK.out _ _ (⟨hbx47, hTax47.c0, hTax47.c1, hTbx47.c0, hTbx47.c1⟩) (fun hHeld => ?_)
            clear hK K
            try simp only [Act.put, List.setIfInBounds_toArray, List.set_cons_zero, List.set_cons_succ]
            refine wpAnyH_ready (rs := [14]) (by kernel_rfl) (by simp) ?_
            refine AllReadyH.cons (o := { dst := none, op := Go.Op.store 24 (Go.Operand.tmp 5) (Go.Operand.tmp 29), type := 0, pos := "law.go:128", after := #[{ on := 12, ground := Go.Ground.data }, { on := 5, ground := Go.Ground.data }, { on := 10, ground := Go.Ground.chain }, { on := 0, ground := Go.Ground.phase }, { on := 1, ground := Go.Ground.phase }, { on := 2, ground := Go.Ground.phase }, { on := 3, ground := Go.Ground.phase }, { on := 4, ground := Go.Ground.phase }, { on := 5, ground := Go.Ground.phase }, { on := 6, ground := Go.Ground.textOnly Go.Departure.lateStores }, { on := 7, ground := Go.Ground.textOnly Go.Departure.lateStores }, { on := 8, ground := Go.Ground.textOnly Go.Departure.lateStores }, { on := 9, ground := Go.Ground.textOnly Go.Departure.lateStores }, { on := 10, ground := Go.Ground.textOnly Go.Departure.lateStoresUnsure }, { on := 11, ground := Go.Ground.textOnly Go.Departure.lateStores }, { on := 12, ground := Go.Ground.phase }, { on := 13, ground := Go.Ground.phase }], guard := none }) rfl (fun K hK => ?_) AllReadyH.nil
            · have q0 := ht12x47.c0
              have q1 := ht12x47.c1
              have q2 := ht12x47.f0
              have q3 := ht12x47.f1
              obtain ⟨x48, hwx48⟩ : ∃ wz, wz = ((x47.setCell ⟨x46.heap.size, 0, none⟩ (.int .i64 N)).setCell ⟨x46.heap.size, 1, none⟩ (.slice g4 n c4)) := ⟨_, rfl⟩
              have hbx48 : Below w.heap.size w x48 := by rw [hwx48]; exact (hbx47.setCell (p := ⟨x46.heap.size, 0, none⟩) (by show w.heap.size ≤ x46.heap.size; omega) _).setCell (p := ⟨x46.heap.size, 1, none⟩) (by show w.heap.size ≤ x46.heap.size; omega) _
              have hzx48 : x47.heap.size ≤ x48.heap.size := by rw [hwx48]; simp
              have ht12x48 : Two x48 x46.heap.size 24 (.int .i64 N) (.slice g4 n c4) := by rw [hwx48]; exact put1 (put0 ht12x47 _) _
              have ht13x48 : Two x48 x0.heap.size 24 (.int .i64 0) (.slice none 0 0) := by rw [hwx48]; exact two_set (two_set ht13x47 (by omega) _ _) (by omega) _ _
              have hTax48 : Two x48 w.heap.size 24 (.int .i64 N) (.slice a n c) := by rw [hwx48]; exact two_set (two_set hTax47 (by omega) _ _) (by omega) _ _
              have hTbx48 : Two x48 (w.heap.size + 1) 24 (.int .i64 M) (.slice a2 n2 c2) := by rw [hwx48]; exact two_set (two_set hTbx47 (by omega) _ _) (by omega) _ _
              have ho4x48 : x48.ownsRow x44.heap.size 30 1 (.slice g4 (n + 12) c4) (n + 12) ((l ++ marksF markN 12).map (Value.int .u64)) := by rw [hwx48]; exact own_nej (own_nej ho4x47 (fun q e => by have := hq4 q e; omega) _ _) (fun q e => by have := hq4 q e; omega) _ _
              have ho10x48 : x48.ownsRow x45.heap.size 30 1 (.slice g10 (n2 + 12) c10) (n2 + 12) ((l2 ++ marksF markN 12).map (Value.int .u64)) := by rw [hwx48]; exact own_nej (own_nej ho10x47 (fun q e => by have := hq10 q e; omega) _ _) (fun q e => by have := hq10 q e; omega) _ _
              go_simp
              rw [← hwx48]
              clear hwx48 q0 q1 q2 q3
              refine hK.out _ _ (⟨hbx48, hTax48.c0, hTax48.c1, hTbx48.c0, hTbx48.c1⟩) (fun hHeld => ?_)
              clear hK K
              try simp only [Act.put, List.setIfInBounds_toArray, List.set_cons_zero, List.set_cons_succ]
              refine wpAnyH_ready (rs := [15]) (by kernel_rfl) (by simp) ?_
              refine AllReadyH.cons (o := { dst := none, op := Go.Op.store 24 (Go.Operand.tmp 6) (Go.Operand.tmp 35), type := 0, pos := "law.go:128", after := #[{ on := 13, ground := Go.Ground.data }, { on := 11, ground := Go.Ground.data }, { on := 14, ground := Go.Ground.chain }, { on := 0, ground := Go.Ground.phase }, { on := 1, ground := Go.Ground.phase }, { on := 2, ground := Go.Ground.phase }, { on := 3, ground := Go.Ground.phase }, { on := 4, ground := Go.Ground.phase }, { on := 5, ground := Go.Ground.phase }, { on := 6, ground := Go.Ground.phase }, { on := 7, ground := Go.Ground.phase }, { on := 8, ground := Go.Ground.phase }, { on := 9, ground := Go.Ground.phase }, { on := 10, ground := Go.Ground.phase }, { on := 11, ground := Go.Ground.phase }, { on := 12, ground := Go.Ground.phase }, { on := 13, ground := Go.Ground.phase }, { on := 14, ground := Go.Ground.phase }], guard := none }) rfl (fun K hK => ?_) AllReadyH.nil
              · have q0 := ht13x48.c0
                have q1 := ht13x48.c1
                have q2 := ht13x48.f0
                have q3 := ht13x48.f1
                obtain ⟨x49, hwx49⟩ : ∃ wz, wz = ((x48.setCell ⟨x0.heap.size, 0, none⟩ (.int .i64 M)).setCell ⟨x0.heap.size, 1, none⟩ (.slice g10 n2 c10)) := ⟨_, rfl⟩
                have hbx49 : Below w.heap.size w x49 := by rw [hwx49]; exact (hbx48.setCell (p := ⟨x0.heap.size, 0, none⟩) (by show w.heap.size ≤ x0.heap.size; omega) _).setCell (p := ⟨x0.heap.size, 1, none⟩) (by show w.heap.size ≤ x0.heap.size; omega) _
                have hzx49 : x48.heap.size ≤ x49.heap.size := by rw [hwx49]; simp
                have ht13x49 : Two x49 x0.heap.size 24 (.int .i64 M) (.slice g10 n2 c10) := by rw [hwx49]; exact put1 (put0 ht13x48 _) _
                have ht12x49 : Two x49 x46.heap.size 24 (.int .i64 N) (.slice g4 n c4) := by rw [hwx49]; exact two_set (two_set ht12x48 (by omega) _ _) (by omega) _ _
                have hTax49 : Two x49 w.heap.size 24 (.int .i64 N) (.slice a n c) := by rw [hwx49]; exact two_set (two_set hTax48 (by omega) _ _) (by omega) _ _
                have hTbx49 : Two x49 (w.heap.size + 1) 24 (.int .i64 M) (.slice a2 n2 c2) := by rw [hwx49]; exact two_set (two_set hTbx48 (by omega) _ _) (by omega) _ _
                have ho4x49 : x49.ownsRow x44.heap.size 30 1 (.slice g4 (n + 12) c4) (n + 12) ((l ++ marksF markN 12).map (Value.int .u64)) := by rw [hwx49]; exact own_nej (own_nej ho4x48 (fun q e => by have := hq4 q e; omega) _ _) (fun q e => by have := hq4 q e; omega) _ _
                have ho10x49 : x49.ownsRow x45.heap.size 30 1 (.slice g10 (n2 + 12) c10) (n2 + 12) ((l2 ++ marksF markN 12).map (Value.int .u64)) := by rw [hwx49]; exact own_nej (own_nej ho10x48 (fun q e => by have := hq10 q e; omega) _ _) (fun q e => by have := hq10 q e; omega) _ _
                go_simp
                rw [← hwx49]
                clear hwx49 q0 q1 q2 q3
                refine hK.out _ _ (⟨hbx49, hTax49.c0, hTax49.c1, hTbx49.c0, hTbx49.c1⟩) (fun hHeld => ?_)
                clear hK K
                try simp only [Act.put, List.setIfInBounds_toArray, List.set_cons_zero, List.set_cons_succ]
                refine wpAnyH_done (by kernel_rfl) ?_ _
                refine NoPanic.normal ?_
                go_wp2_with fail
                go_meet
                case rel => exact ⟨_, _, g4, g10, c4, c10, rfl, rfl, ⟨hbx49, ht12x49, ht13x49, own_base ho4x49 (by omega), own_base ho10x49 (by omega), x45.heap.size, by omega, by omega, (fun q e => by have := hR4 q e; omega), (fun q e => by have := hR10 q e; omega)⟩, hTax49, hTbx49⟩
        · obtain ⟨x50, hwx50⟩ : ∃ wz, wz = x45.alloc (.cells #[.int .i64 0, .slice none 0 0] 24) := ⟨_, rfl⟩
          have hDx50 : Below x45.heap.size x45 x50 := by rw [hwx50]; exact (Below.refl _ _).alloc (Nat.le_refl _) _
          have ht12x50 : Two x50 x45.heap.size 24 (.int .i64 0) (.slice none 0 0) := by rw [hwx50]; exact Two.new _ _ _ _
          have hbx50 := bstep hbx45 hDx50
          have hzx50 := hDx50.size
          have hTax50 := hTax45.step hDx50
          have hTbx50 := hTbx45.step hDx50
          have ho4x50 := ownsRow_below ho4x45 hDx50
          have ht13x50 := ht13x45.step hDx50
          have hk12 := ht12x50.lt
          have hg12 : V0.heap.size ≤ x45.heap.size := by omega
          go_simp
          rw [← hwx50]
          clear hwx50
          refine hK.out _ _ (⟨hbx50, hTax50.c0, hTax50.c1, hTbx50.c0, hTbx50.c1⟩) (fun hHeld => ?_)
          clear hK K
          try simp only [Act.put, List.setIfInBounds_toArray, List.set_cons_zero, List.set_cons_succ]
          refine wpAnyH_ready (rs := [10]) (by kernel_rfl) (by simp) ?_
          refine AllReadyH.cons (o := { dst := some 34, op := Go.Op.call { callee := Go.Callee.value (Go.Operand.func 38), args := #[Go.Operand.tmp 33], argTypes := #[22] }, type := 22, pos := "law.go:128", after := #[{ on := 9, ground := Go.Ground.data }, { on := 4, ground := Go.Ground.chain }], guard := none }) rfl (fun K hK => ?_) AllReadyH.nil
          · go_simp
            refine (lentN_any x50 a2 n2 c2 l2 (s2.sl.below hbx50) (by omega)).mono ?_
            unfold LentN
            rintro e x51 ⟨g10, c10, rfl, ho10x51, hDx51⟩
            have hbx51 := bstep hbx50 hDx51
            have hzx51 := hDx51.size
            have hTax51 := hTax50.step hDx51
            have hTbx51 := hTbx50.step hDx51
            have ho4x51 := ownsRow_below ho4x50 hDx51
            have ht13x51 := ht13x50.step hDx51
            have ht12x51 := ht12x50.step hDx51
            have hq10 := fun q e => own_blk ho10x51 (k := q) e
            have hR10 := Rng.own ho10x51
            go_wp2_with fail
            refine hK.out _ _ (⟨hbx51, hTax51.c0, hTax51.c1, hTbx51.c0, hTbx51.c1⟩) (fun hHeld => ?_)
            clear hK K
            try simp only [Act.put, List.setIfInBounds_toArray, List.set_cons_zero, List.set_cons_succ]
            refine wpAnyH_take (i := 11) (oi := { dst := some 35, op := Go.Op.build 24 #[(0, Go.Operand.tmp 31), (1, Go.Operand.tmp 34)], type := 24, pos := "law.go:128", after := #[{ on := 7, ground := Go.Ground.data }, { on := 10, ground := Go.Ground.data }, { on := 14, ground := Go.Ground.gcOnly Go.Departure.lateStores }], guard := none }) (v := ?v11x73) rfl (by kernel_rfl) (by kernel_rfl) (by kernel_rfl) (fun _ _ _ h => h) (Or.inl ⟨by rfl, ?hy11x73⟩) hHeld ?rest11x73
            case hy11x73 =>
              intro w hSw
              try dsimp only at hSw
              go_simp
              try with_reducible rfl
            try simp only [Act.put, List.setIfInBounds_toArray, List.set_cons_zero, List.set_cons_succ]
            refine wpAnyH_ready (rs := [14]) (by kernel_rfl) (by simp) ?_
            refine AllReadyH.cons (o := { dst := none, op := Go.Op.store 24 (Go.Operand.tmp 5) (Go.Operand.tmp 29), type := 0, pos := "law.go:128", after := #[{ on := 12, ground := Go.Ground.data }, { on := 5, ground := Go.Ground.data }, { on := 10, ground := Go.Ground.chain }, { on := 0, ground := Go.Ground.phase }, { on := 1, ground := Go.Ground.phase }, { on := 2, ground := Go.Ground.phase }, { on := 3, ground := Go.Ground.phase }, { on := 4, ground := Go.Ground.phase }, { on := 5, ground := Go.Ground.phase }, { on := 6, ground := Go.Ground.textOnly Go.Departure.lateStores }, { on := 7, ground := Go.Ground.textOnly Go.Departure.lateStores }, { on := 8, ground := Go.Ground.textOnly Go.Departure.lateStores }, { on := 9, ground := Go.Ground.textOnly Go.Departure.lateStores }, { on := 10, ground := Go.Ground.textOnly Go.Departure.lateStoresUnsure }, { on := 11, ground := Go.Ground.textOnly Go.Departure.lateStores }, { on := 12, ground := Go.Ground.phase }, { on := 13, ground := Go.Ground.phase }], guard := none }) rfl (fun K hK => ?_) AllReadyH.nil
            · have q0 := ht12x51.c0
              have q1 := ht12x51.c1
              have q2 := ht12x51.f0
              have q3 := ht12x51.f1
              obtain ⟨x52, hwx52⟩ : ∃ wz, wz = ((x51.setCell ⟨x45.heap.size, 0, none⟩ (.int .i64 N)).setCell ⟨x45.heap.size, 1, none⟩ (.slice g4 n c4)) := ⟨_, rfl⟩
              have hbx52 : Below w.heap.size w x52 := by rw [hwx52]; exact (hbx51.setCell (p := ⟨x45.heap.size, 0, none⟩) (by show w.heap.size ≤ x45.heap.size; omega) _).setCell (p := ⟨x45.heap.size, 1, none⟩) (by show w.heap.size ≤ x45.heap.size; omega) _
              have hzx52 : x51.heap.size ≤ x52.heap.size := by rw [hwx52]; simp
              have ht12x52 : Two x52 x45.heap.size 24 (.int .i64 N) (.slice g4 n c4) := by rw [hwx52]; exact put1 (put0 ht12x51 _) _
              have ht13x52 : Two x52 x0.heap.size 24 (.int .i64 0) (.slice none 0 0) := by rw [hwx52]; exact two_set (two_set ht13x51 (by omega) _ _) (by omega) _ _
              have hTax52 : Two x52 w.heap.size 24 (.int .i64 N) (.slice a n c) := by rw [hwx52]; exact two_set (two_set hTax51 (by omega) _ _) (by omega) _ _
              have hTbx52 : Two x52 (w.heap.size + 1) 24 (.int .i64 M) (.slice a2 n2 c2) := by rw [hwx52]; exact two_set (two_set hTbx51 (by omega) _ _) (by omega) _ _
              have ho4x52 : x52.ownsRow x44.heap.size 30 1 (.slice g4 (n + 12) c4) (n + 12) ((l ++ marksF markN 12).map (Value.int .u64)) := by rw [hwx52]; exact own_nej (own_nej ho4x51 (fun q e => by have := hq4 q e; omega) _ _) (fun q e => by have := hq4 q e; omega) _ _
              have ho10x52 : x52.ownsRow x50.heap.size 30 1 (.slice g10 (n2 + 12) c10) (n2 + 12) ((l2 ++ marksF markN 12).map (Value.int .u64)) := by rw [hwx52]; exact own_nej (own_nej ho10x51 (fun q e => by have := hq10 q e; omega) _ _) (fun q e => by have := hq10 q e; omega) _ _
              go_simp
              rw [← hwx52]
              clear hwx52 q0 q1 q2 q3
              refine hK.out _ _ (⟨hbx52, hTax52.c0, hTax52.c1, hTbx52.c0, hTbx52.c1⟩) (fun hHeld => ?_)
              clear hK K
              try simp only [Act.put, List.setIfInBounds_toArray, List.set_cons_zero, List.set_cons_succ]
              refine wpAnyH_ready (rs := [15]) (by kernel_rfl) (by simp) ?_
              refine AllReadyH.cons (o := { dst := none, op := Go.Op.store 24 (Go.Operand.tmp 6) (Go.Operand.tmp 35), type := 0, pos := "law.go:128", after := #[{ on := 13, ground := Go.Ground.data }, { on := 11, ground := Go.Ground.data }, { on := 14, ground := Go.Ground.chain }, { on := 0, ground := Go.Ground.phase }, { on := 1, ground := Go.Ground.phase }, { on := 2, ground := Go.Ground.phase }, { on := 3, ground := Go.Ground.phase }, { on := 4, ground := Go.Ground.phase }, { on := 5, ground := Go.Ground.phase }, { on := 6, ground := Go.Ground.phase }, { on := 7, ground := Go.Ground.phase }, { on := 8, ground := Go.Ground.phase }, { on := 9, ground := Go.Ground.phase }, { on := 10, ground := Go.Ground.phase }, { on := 11, ground := Go.Ground.phase }, { on := 12, ground := Go.Ground.phase }, { on := 13, ground := Go.Ground.phase }, { on := 14, ground := Go.Ground.phase }], guard := none }) rfl (fun K hK => ?_) AllReadyH.nil
              · have q0 := ht13x52.c0
                have q1 := ht13x52.c1
                have q2 := ht13x52.f0
                have q3 := ht13x52.f1
                obtain ⟨x53, hwx53⟩ : ∃ wz, wz = ((x52.setCell ⟨x0.heap.size, 0, none⟩ (.int .i64 M)).setCell ⟨x0.heap.size, 1, none⟩ (.slice g10 n2 c10)) := ⟨_, rfl⟩
                have hbx53 : Below w.heap.size w x53 := by rw [hwx53]; exact (hbx52.setCell (p := ⟨x0.heap.size, 0, none⟩) (by show w.heap.size ≤ x0.heap.size; omega) _).setCell (p := ⟨x0.heap.size, 1, none⟩) (by show w.heap.size ≤ x0.heap.size; omega) _
                have hzx53 : x52.heap.size ≤ x53.heap.size := by rw [hwx53]; simp
                have ht13x53 : Two x53 x0.heap.size 24 (.int .i64 M) (.slice g10 n2 c10) := by rw [hwx53]; exact put1 (put0 ht13x52 _) _
                have ht12x53 : Two x53 x45.heap.size 24 (.int .i64 N) (.slice g4 n c4) := by rw [hwx53]; exact two_set (two_set ht12x52 (by omega) _ _) (by omega) _ _
                have hTax53 : Two x53 w.heap.size 24 (.int .i64 N) (.slice a n c) := by rw [hwx53]; exact two_set (two_set hTax52 (by omega) _ _) (by omega) _ _
                have hTbx53 : Two x53 (w.heap.size + 1) 24 (.int .i64 M) (.slice a2 n2 c2) := by rw [hwx53]; exact two_set (two_set hTbx52 (by omega) _ _) (by omega) _ _
                have ho4x53 : x53.ownsRow x44.heap.size 30 1 (.slice g4 (n + 12) c4) (n + 12) ((l ++ marksF markN 12).map (Value.int .u64)) := by rw [hwx53]; exact own_nej (own_nej ho4x52 (fun q e => by have := hq4 q e; omega) _ _) (fun q e => by have := hq4 q e; omega) _ _
                have ho10x53 : x53.ownsRow x50.heap.size 30 1 (.slice g10 (n2 + 12) c10) (n2 + 12) ((l2 ++ marksF markN 12).map (Value.int .u64)) := by rw [hwx53]; exact own_nej (own_nej ho10x52 (fun q e => by have := hq10 q e; omega) _ _) (fun q e => by have := hq10 q e; omega) _ _
                go_simp
                rw [← hwx53]
                clear hwx53 q0 q1 q2 q3
                refine hK.out _ _ (⟨hbx53, hTax53.c0, hTax53.c1, hTbx53.c0, hTbx53.c1⟩) (fun hHeld => ?_)
                clear hK K
                try simp only [Act.put, List.setIfInBounds_toArray, List.set_cons_zero, List.set_cons_succ]
                refine wpAnyH_done (by kernel_rfl) ?_ _
                refine NoPanic.normal ?_
                go_wp2_with fail
                go_meet
                case rel => exact ⟨_, _, g4, g10, c4, c10, rfl, rfl, ⟨hbx53, ht12x53, ht13x53, own_base ho4x53 (by omega), own_base ho10x53 (by omega), x45.heap.size, by omega, by omega, (fun q e => by have := hR4 q e; omega), (fun q e => by have := hR10 q e; omega)⟩, hTax53, hTbx53⟩
      · obtain ⟨x54, hwx54⟩ : ∃ wz, wz = x44.alloc (.cells #[.int .i64 0, .slice none 0 0] 24) := ⟨_, rfl⟩
        have hDx54 : Below x44.heap.size x44 x54 := by rw [hwx54]; exact (Below.refl _ _).alloc (Nat.le_refl _) _
        have ht12x54 : Two x54 x44.heap.size 24 (.int .i64 0) (.slice none 0 0) := by rw [hwx54]; exact Two.new _ _ _ _
        have hbx54 := bstep hbx44 hDx54
        have hzx54 := hDx54.size
        have hTax54 := hTax44.step hDx54
        have hTbx54 := hTbx44.step hDx54
        have ht13x54 := ht13x44.step hDx54
        have hk12 := ht12x54.lt
        have hg12 : V0.heap.size ≤ x44.heap.size := by omega
        go_simp
        rw [← hwx54]
        clear hwx54
        refine hK.out _ _ (⟨hbx54, hTax54.c0, hTax54.c1, hTbx54.c0, hTbx54.c1⟩) (fun hHeld => ?_)
        clear hK K
        try simp only [Act.put, List.setIfInBounds_toArray, List.set_cons_zero, List.set_cons_succ]
        refine wpAnyH_ready (rs := [4]) (by kernel_rfl) (by simp) ?_
        refine AllReadyH.cons (o := { dst := some 28, op := Go.Op.call { callee := Go.Callee.value (Go.Operand.func 38), args := #[Go.Operand.tmp 27], argTypes := #[22] }, type := 22, pos := "law.go:128", after := #[{ on := 3, ground := Go.Ground.data }], guard := none }) rfl (fun K hK => ?_) AllReadyH.nil
        · go_simp
          refine (lentN_any x54 a n c l (s1.sl.below hbx54) (by omega)).mono ?_
          unfold LentN
          rintro e x55 ⟨g4, c4, rfl, ho4x55, hDx55⟩
          have hbx55 := bstep hbx54 hDx55
          have hzx55 := hDx55.size
          have hTax55 := hTax54.step hDx55
          have hTbx55 := hTbx54.step hDx55
          have ht13x55 := ht13x54.step hDx55
          have ht12x55 := ht12x54.step hDx55
          have hq4 := fun q e => own_blk ho4x55 (k := q) e
          have hR4 := Rng.own ho4x55
          go_wp2_with fail
          refine hK.out _ _ (⟨hbx55, hTax55.c0, hTax55.c1, hTbx55.c0, hTbx55.c1⟩) (fun hHeld => ?_)
          clear hK K
          try simp only [Act.put, List.setIfInBounds_toArray, List.set_cons_zero, List.set_cons_succ]
          refine wpAnyH_take (i := 5) (oi := { dst := some 29, op := Go.Op.build 24 #[(0, Go.Operand.tmp 25), (1, Go.Operand.tmp 28)], type := 24, pos := "law.go:128", after := #[{ on := 1, ground := Go.Ground.data }, { on := 4, ground := Go.Ground.data }], guard := none }) (v := ?v5x78) rfl (by kernel_rfl) (by kernel_rfl) (by kernel_rfl) (fun _ _ _ h => h) (Or.inl ⟨by rfl, ?hy5x78⟩) hHeld ?rest5x78
          case hy5x78 =>
            intro w hSw
            try dsimp only at hSw
            go_simp
            try with_reducible rfl
          try simp only [Act.put, List.setIfInBounds_toArray, List.set_cons_zero, List.set_cons_succ]
          refine wpAnyH_ready (rs := [10]) (by kernel_rfl) (by simp) ?_
          refine AllReadyH.cons (o := { dst := some 34, op := Go.Op.call { callee := Go.Callee.value (Go.Operand.func 38), args := #[Go.Operand.tmp 33], argTypes := #[22] }, type := 22, pos := "law.go:128", after := #[{ on := 9, ground := Go.Ground.data }, { on := 4, ground := Go.Ground.chain }], guard := none }) rfl (fun K hK => ?_) AllReadyH.nil
          · go_simp
            refine (lentN_any x55 a2 n2 c2 l2 (s2.sl.below hbx55) (by omega)).mono ?_
            unfold LentN
            rintro e x56 ⟨g10, c10, rfl, ho10x56, hDx56⟩
            have hbx56 := bstep hbx55 hDx56
            have hzx56 := hDx56.size
            have hTax56 := hTax55.step hDx56
            have hTbx56 := hTbx55.step hDx56
            have ho4x56 := ownsRow_below ho4x55 hDx56
            have ht13x56 := ht13x55.step hDx56
            have ht12x56 := ht12x55.step hDx56
            have hq10 := fun q e => own_blk ho10x56 (k := q) e
            have hR10 := Rng.own ho10x56
            go_wp2_with fail
            refine hK.out _ _ (⟨hbx56, hTax56.c0, hTax56.c1, hTbx56.c0, hTbx56.c1⟩) (fun hHeld => ?_)
            clear hK K
            try simp only [Act.put, List.setIfInBounds_toArray, List.set_cons_zero, List.set_cons_succ]
            refine wpAnyH_take (i := 11) (oi := { dst := some 35, op := Go.Op.build 24 #[(0, Go.Operand.tmp 31), (1, Go.Operand.tmp 34)], type := 24, pos := "law.go:128", after := #[{ on := 7, ground := Go.Ground.data }, { on := 10, ground := Go.Ground.data }, { on := 14, ground := Go.Ground.gcOnly Go.Departure.lateStores }], guard := none }) (v := ?v11x80) rfl (by kernel_rfl) (by kernel_rfl) (by kernel_rfl) (fun _ _ _ h => h) (Or.inl ⟨by rfl, ?hy11x80⟩) hHeld ?rest11x80
            case hy11x80 =>
              intro w hSw
              try dsimp only at hSw
              go_simp
              try with_reducible rfl
            try simp only [Act.put, List.setIfInBounds_toArray, List.set_cons_zero, List.set_cons_succ]
            refine wpAnyH_ready (rs := [14]) (by kernel_rfl) (by simp) ?_
            refine AllReadyH.cons (o := { dst := none, op := Go.Op.store 24 (Go.Operand.tmp 5) (Go.Operand.tmp 29), type := 0, pos := "law.go:128", after := #[{ on := 12, ground := Go.Ground.data }, { on := 5, ground := Go.Ground.data }, { on := 10, ground := Go.Ground.chain }, { on := 0, ground := Go.Ground.phase }, { on := 1, ground := Go.Ground.phase }, { on := 2, ground := Go.Ground.phase }, { on := 3, ground := Go.Ground.phase }, { on := 4, ground := Go.Ground.phase }, { on := 5, ground := Go.Ground.phase }, { on := 6, ground := Go.Ground.textOnly Go.Departure.lateStores }, { on := 7, ground := Go.Ground.textOnly Go.Departure.lateStores }, { on := 8, ground := Go.Ground.textOnly Go.Departure.lateStores }, { on := 9, ground := Go.Ground.textOnly Go.Departure.lateStores }, { on := 10, ground := Go.Ground.textOnly Go.Departure.lateStoresUnsure }, { on := 11, ground := Go.Ground.textOnly Go.Departure.lateStores }, { on := 12, ground := Go.Ground.phase }, { on := 13, ground := Go.Ground.phase }], guard := none }) rfl (fun K hK => ?_) AllReadyH.nil
            · have q0 := ht12x56.c0
              have q1 := ht12x56.c1
              have q2 := ht12x56.f0
              have q3 := ht12x56.f1
              obtain ⟨x57, hwx57⟩ : ∃ wz, wz = ((x56.setCell ⟨x44.heap.size, 0, none⟩ (.int .i64 N)).setCell ⟨x44.heap.size, 1, none⟩ (.slice g4 n c4)) := ⟨_, rfl⟩
              have hbx57 : Below w.heap.size w x57 := by rw [hwx57]; exact (hbx56.setCell (p := ⟨x44.heap.size, 0, none⟩) (by show w.heap.size ≤ x44.heap.size; omega) _).setCell (p := ⟨x44.heap.size, 1, none⟩) (by show w.heap.size ≤ x44.heap.size; omega) _
              have hzx57 : x56.heap.size ≤ x57.heap.size := by rw [hwx57]; simp
              have ht12x57 : Two x57 x44.heap.size 24 (.int .i64 N) (.slice g4 n c4) := by rw [hwx57]; exact put1 (put0 ht12x56 _) _
              have ht13x57 : Two x57 x0.heap.size 24 (.int .i64 0) (.slice none 0 0) := by rw [hwx57]; exact two_set (two_set ht13x56 (by omega) _ _) (by omega) _ _
              have hTax57 : Two x57 w.heap.size 24 (.int .i64 N) (.slice a n c) := by rw [hwx57]; exact two_set (two_set hTax56 (by omega) _ _) (by omega) _ _
              have hTbx57 : Two x57 (w.heap.size + 1) 24 (.int .i64 M) (.slice a2 n2 c2) := by rw [hwx57]; exact two_set (two_set hTbx56 (by omega) _ _) (by omega) _ _
              have ho4x57 : x57.ownsRow x54.heap.size 30 1 (.slice g4 (n + 12) c4) (n + 12) ((l ++ marksF markN 12).map (Value.int .u64)) := by rw [hwx57]; exact own_nej (own_nej ho4x56 (fun q e => by have := hq4 q e; omega) _ _) (fun q e => by have := hq4 q e; omega) _ _
              have ho10x57 : x57.ownsRow x55.heap.size 30 1 (.slice g10 (n2 + 12) c10) (n2 + 12) ((l2 ++ marksF markN 12).map (Value.int .u64)) := by rw [hwx57]; exact own_nej (own_nej ho10x56 (fun q e => by have := hq10 q e; omega) _ _) (fun q e => by have := hq10 q e; omega) _ _
              go_simp
              rw [← hwx57]
              clear hwx57 q0 q1 q2 q3
              refine hK.out _ _ (⟨hbx57, hTax57.c0, hTax57.c1, hTbx57.c0, hTbx57.c1⟩) (fun hHeld => ?_)
              clear hK K
              try simp only [Act.put, List.setIfInBounds_toArray, List.set_cons_zero, List.set_cons_succ]
              refine wpAnyH_ready (rs := [15]) (by kernel_rfl) (by simp) ?_
              refine AllReadyH.cons (o := { dst := none, op := Go.Op.store 24 (Go.Operand.tmp 6) (Go.Operand.tmp 35), type := 0, pos := "law.go:128", after := #[{ on := 13, ground := Go.Ground.data }, { on := 11, ground := Go.Ground.data }, { on := 14, ground := Go.Ground.chain }, { on := 0, ground := Go.Ground.phase }, { on := 1, ground := Go.Ground.phase }, { on := 2, ground := Go.Ground.phase }, { on := 3, ground := Go.Ground.phase }, { on := 4, ground := Go.Ground.phase }, { on := 5, ground := Go.Ground.phase }, { on := 6, ground := Go.Ground.phase }, { on := 7, ground := Go.Ground.phase }, { on := 8, ground := Go.Ground.phase }, { on := 9, ground := Go.Ground.phase }, { on := 10, ground := Go.Ground.phase }, { on := 11, ground := Go.Ground.phase }, { on := 12, ground := Go.Ground.phase }, { on := 13, ground := Go.Ground.phase }, { on := 14, ground := Go.Ground.phase }], guard := none }) rfl (fun K hK => ?_) AllReadyH.nil
              · have q0 := ht13x57.c0
                have q1 := ht13x57.c1
                have q2 := ht13x57.f0
                have q3 := ht13x57.f1
                obtain ⟨x58, hwx58⟩ : ∃ wz, wz = ((x57.setCell ⟨x0.heap.size, 0, none⟩ (.int .i64 M)).setCell ⟨x0.heap.size, 1, none⟩ (.slice g10 n2 c10)) := ⟨_, rfl⟩
                have hbx58 : Below w.heap.size w x58 := by rw [hwx58]; exact (hbx57.setCell (p := ⟨x0.heap.size, 0, none⟩) (by show w.heap.size ≤ x0.heap.size; omega) _).setCell (p := ⟨x0.heap.size, 1, none⟩) (by show w.heap.size ≤ x0.heap.size; omega) _
                have hzx58 : x57.heap.size ≤ x58.heap.size := by rw [hwx58]; simp
                have ht13x58 : Two x58 x0.heap.size 24 (.int .i64 M) (.slice g10 n2 c10) := by rw [hwx58]; exact put1 (put0 ht13x57 _) _
                have ht12x58 : Two x58 x44.heap.size 24 (.int .i64 N) (.slice g4 n c4) := by rw [hwx58]; exact two_set (two_set ht12x57 (by omega) _ _) (by omega) _ _
                have hTax58 : Two x58 w.heap.size 24 (.int .i64 N) (.slice a n c) := by rw [hwx58]; exact two_set (two_set hTax57 (by omega) _ _) (by omega) _ _
                have hTbx58 : Two x58 (w.heap.size + 1) 24 (.int .i64 M) (.slice a2 n2 c2) := by rw [hwx58]; exact two_set (two_set hTbx57 (by omega) _ _) (by omega) _ _
                have ho4x58 : x58.ownsRow x54.heap.size 30 1 (.slice g4 (n + 12) c4) (n + 12) ((l ++ marksF markN 12).map (Value.int .u64)) := by rw [hwx58]; exact own_nej (own_nej ho4x57 (fun q e => by have := hq4 q e; omega) _ _) (fun q e => by have := hq4 q e; omega) _ _
                have ho10x58 : x58.ownsRow x55.heap.size 30 1 (.slice g10 (n2 + 12) c10) (n2 + 12) ((l2 ++ marksF markN 12).map (Value.int .u64)) := by rw [hwx58]; exact own_nej (own_nej ho10x57 (fun q e => by have := hq10 q e; omega) _ _) (fun q e => by have := hq10 q e; omega) _ _
                go_simp
                rw [← hwx58]
                clear hwx58 q0 q1 q2 q3
                refine hK.out _ _ (⟨hbx58, hTax58.c0, hTax58.c1, hTbx58.c0, hTbx58.c1⟩) (fun hHeld => ?_)
                clear hK K
                try simp only [Act.put, List.setIfInBounds_toArray, List.set_cons_zero, List.set_cons_succ]
                refine wpAnyH_done (by kernel_rfl) ?_ _
                refine NoPanic.normal ?_
                go_wp2_with fail
                go_meet
                case rel => exact ⟨_, _, g4, g10, c4, c10, rfl, rfl, ⟨hbx58, ht12x58, ht13x58, own_base ho4x58 (by omega), own_base ho10x58 (by omega), x55.heap.size, by omega, by omega, (fun q e => by have := hR4 q e; omega), (fun q e => by have := hR10 q e; omega)⟩, hTax58, hTbx58⟩
  case rest =>
    obtain ⟨xb, yb, g, g2, c3, c4, rfl, rfl, ⟨hbel, hx, hy, hox, hoy, m1, hm1, hm2, hR1, hR2⟩, hTa1, hTb1⟩ := hcut
    have vx : VrS w _ xb N g n c3 l := ⟨hbel, ⟨lent_sl s1.sl.1 hox, s1.wds, s1.low, s1.high, hT.step hbel⟩, hx⟩
    have vy : VrS w _ yb M g2 n2 c4 l2 := ⟨hbel, ⟨lent_sl s2.sl.1 hoy, s2.wds, s2.low, s2.high, hT.step hbel⟩, hy⟩
    have va : VrS w _ w.heap.size N a n c l := ⟨hbel, s1.below hbel, hTa1⟩
    have vb : VrS w _ (w.heap.size + 1) M a2 n2 c2 l2 := ⟨hbel, s2.below hbel, hTb1⟩
    clear hTa1 hTb1 hB0 hTa hTb hx hy
    cases hr1 : rightB N l with
    | false =>
      have HX := Lib.hid (show XJ 50 N M l l2 from Or.inl ⟨rfl, Or.inl hr1⟩)
      clear hR1 hR2 hm1 hm2
      have dvx0 := vx.two.c0
      have dvx1 := vx.two.c1
      have dvy0 := vy.two.c0
      have dvy1 := vy.two.c1
      have q := orX' _ N M 50 g g2 n c3 n2 c4 l l2 vx.set vy.set HX.out
      unfold SetX at q
      go_wp2_with fail
      refine q.mono ?_
      rintro e v0 ⟨go0, co0, rfl, -, hD⟩
      have hA9 : Below v0.heap.size v0 (v0.alloc (.cells #[.int .i64 0, .slice go0 0 co0] 24)) := (Below.refl _ _).alloc (Nat.le_refl _) _
      have hz0 := Two.new v0 24 (.int .i64 0) (.slice go0 0 co0)
      have vx := (vx.step hD).step hA9
      have vy := (vy.step hD).step hA9
      have va := (va.step hD).step hA9
      have vb := (vb.step hD).step hA9
      have hox := ownsRow_below (ownsRow_below hox hD) hA9
      have hoy := ownsRow_below (ownsRow_below hoy hD) hA9
      clear q hA9 hD dvx0 dvx1 dvy0 dvy1
      have dvx0 := vx.two.c0
      have dvx1 := vx.two.c1
      have dvy0 := vy.two.c0
      have dvy1 := vy.two.c1
      have q := andX' _ N M 50 g g2 n c3 n2 c4 l l2 vx.set vy.set HX.out
      unfold SetX at q
      go_wp2_with fail
      refine q.mono ?_
      rintro e v1 ⟨go1, co1, rfl, -, hD⟩
      have hA9 : Below v1.heap.size v1 (v1.alloc (.cells #[.int .i64 0, .slice go1 0 co1] 24)) := (Below.refl _ _).alloc (Nat.le_refl _) _
      have hz1 := Two.new v1 24 (.int .i64 0) (.slice go1 0 co1)
      have vx := (vx.step hD).step hA9
      have vy := (vy.step hD).step hA9
      have va := (va.step hD).step hA9
      have vb := (vb.step hD).step hA9
      have hox := ownsRow_below (ownsRow_below hox hD) hA9
      have hoy := ownsRow_below (ownsRow_below hoy hD) hA9
      have hz0 := (hz0.step hD).step hA9
      clear q hA9 hD dvx0 dvx1 dvy0 dvy1
      have dvx0 := vx.two.c0
      have dvx1 := vx.two.c1
      have dvy0 := vy.two.c0
      have dvy1 := vy.two.c1
      have q := minusX' _ N M 50 g g2 n c3 n2 c4 l l2 vx.set vy.set HX.out
      unfold SetX at q
      go_wp2_with fail
      refine q.mono ?_
      rintro e v2 ⟨go2, co2, rfl, -, hD⟩
      have hA9 : Below v2.heap.size v2 (v2.alloc (.cells #[.int .i64 0, .slice go2 0 co2] 24)) := (Below.refl _ _).alloc (Nat.le_refl _) _
      have hz2 := Two.new v2 24 (.int .i64 0) (.slice go2 0 co2)
      have vx := (vx.step hD).step hA9
      have vy := (vy.step hD).step hA9
      have va := (va.step hD).step hA9
      have vb := (vb.step hD).step hA9
      have hox := ownsRow_below (ownsRow_below hox hD) hA9
      have hoy := ownsRow_below (ownsRow_below hoy hD) hA9
      have hz0 := (hz0.step hD).step hA9
      have hz1 := (hz1.step hD).step hA9
      clear q hA9 hD dvx0 dvx1 dvy0 dvy1
      have dvx1 := vx.two.c1
      have dva1 := va.two.c1
      have q := keptN_any _ g a c3 n c l w.heap.size hox va.set.sl (by omega)
      go_wp2_with fail
      refine q.mono ?_
      rintro e u0 ⟨rfl, hD⟩
      have vx := vx.step hD
      have vy := vy.step hD
      have va := va.step hD
      have vb := vb.step hD
      have hz0 := hz0.step hD
      have hz1 := hz1.step hD
      have hz2 := hz2.step hD
      have hox := ownsRow_below hox hD
      have hoy := ownsRow_below hoy hD
      clear q hD dvx1 dva1
      have dvy1 := vy.two.c1
      have dvb1 := vb.two.c1
      have q := keptN_any _ g2 a2 c4 n2 c2 l2 w.heap.size hoy vb.set.sl (by omega)
      go_wp2_with fail
      refine q.mono ?_
      rintro e u1 ⟨rfl, hD⟩
      have vx := vx.step hD
      have vy := vy.step hD
      have va := va.step hD
      have vb := vb.step hD
      have hz0 := hz0.step hD
      have hz1 := hz1.step hD
      have hz2 := hz2.step hD
      have hox := ownsRow_below hox hD
      have hoy := ownsRow_below hoy hD
      clear q hD dvy1 dvb1
      have dva0 := va.two.c0
      have dva1 := va.two.c1
      have q := rrB va.set hr1
      go_wp2_with fail
      refine q.mono ?_
      rintro e r0 ⟨rfl, hD⟩
      have vx := vx.step hD
      have vy := vy.step hD
      have va := va.step hD
      have vb := vb.step hD
      have hz0 := hz0.step hD
      have hz1 := hz1.step hD
      have hz2 := hz2.step hD
      clear q hD dva0 dva1
      have dva0 := va.two.c0
      have dvb0 := vb.two.c0
      have e00 := hz0.c0
      have e01 := hz0.c1
      have e10 := hz1.c0
      have e11 := hz1.c1
      have e20 := hz2.c0
      have e21 := hz2.c1
      go_wp2_with fail
      go_ret
      exact ⟨rfl, vx.bel⟩
    | true =>
      cases hr2 : rightB M l2 with
      | false =>
        have HX := Lib.hid (show XJ 50 N M l l2 from Or.inl ⟨rfl, Or.inr hr2⟩)
        clear hR1 hR2 hm1 hm2
        have dvx0 := vx.two.c0
        have dvx1 := vx.two.c1
        have dvy0 := vy.two.c0
        have dvy1 := vy.two.c1
        have q := orX' _ N M 50 g g2 n c3 n2 c4 l l2 vx.set vy.set HX.out
        unfold SetX at q
        go_wp2_with fail
        refine q.mono ?_
        rintro e v0 ⟨go0, co0, rfl, -, hD⟩
        have hA9 : Below v0.heap.size v0 (v0.alloc (.cells #[.int .i64 0, .slice go0 0 co0] 24)) := (Below.refl _ _).alloc (Nat.le_refl _) _
        have hz0 := Two.new v0 24 (.int .i64 0) (.slice go0 0 co0)
        have vx := (vx.step hD).step hA9
        have vy := (vy.step hD).step hA9
        have va := (va.step hD).step hA9
        have vb := (vb.step hD).step hA9
        have hox := ownsRow_below (ownsRow_below hox hD) hA9
        have hoy := ownsRow_below (ownsRow_below hoy hD) hA9
        clear q hA9 hD dvx0 dvx1 dvy0 dvy1
        have dvx0 := vx.two.c0
        have dvx1 := vx.two.c1
        have dvy0 := vy.two.c0
        have dvy1 := vy.two.c1
        have q := andX' _ N M 50 g g2 n c3 n2 c4 l l2 vx.set vy.set HX.out
        unfold SetX at q
        go_wp2_with fail
        refine q.mono ?_
        rintro e v1 ⟨go1, co1, rfl, -, hD⟩
        have hA9 : Below v1.heap.size v1 (v1.alloc (.cells #[.int .i64 0, .slice go1 0 co1] 24)) := (Below.refl _ _).alloc (Nat.le_refl _) _
        have hz1 := Two.new v1 24 (.int .i64 0) (.slice go1 0 co1)
        have vx := (vx.step hD).step hA9
        have vy := (vy.step hD).step hA9
        have va := (va.step hD).step hA9
        have vb := (vb.step hD).step hA9
        have hox := ownsRow_below (ownsRow_below hox hD) hA9
        have hoy := ownsRow_below (ownsRow_below hoy hD) hA9
        have hz0 := (hz0.step hD).step hA9
        clear q hA9 hD dvx0 dvx1 dvy0 dvy1
        have dvx0 := vx.two.c0
        have dvx1 := vx.two.c1
        have dvy0 := vy.two.c0
        have dvy1 := vy.two.c1
        have q := minusX' _ N M 50 g g2 n c3 n2 c4 l l2 vx.set vy.set HX.out
        unfold SetX at q
        go_wp2_with fail
        refine q.mono ?_
        rintro e v2 ⟨go2, co2, rfl, -, hD⟩
        have hA9 : Below v2.heap.size v2 (v2.alloc (.cells #[.int .i64 0, .slice go2 0 co2] 24)) := (Below.refl _ _).alloc (Nat.le_refl _) _
        have hz2 := Two.new v2 24 (.int .i64 0) (.slice go2 0 co2)
        have vx := (vx.step hD).step hA9
        have vy := (vy.step hD).step hA9
        have va := (va.step hD).step hA9
        have vb := (vb.step hD).step hA9
        have hox := ownsRow_below (ownsRow_below hox hD) hA9
        have hoy := ownsRow_below (ownsRow_below hoy hD) hA9
        have hz0 := (hz0.step hD).step hA9
        have hz1 := (hz1.step hD).step hA9
        clear q hA9 hD dvx0 dvx1 dvy0 dvy1
        have dvx1 := vx.two.c1
        have dva1 := va.two.c1
        have q := keptN_any _ g a c3 n c l w.heap.size hox va.set.sl (by omega)
        go_wp2_with fail
        refine q.mono ?_
        rintro e u0 ⟨rfl, hD⟩
        have vx := vx.step hD
        have vy := vy.step hD
        have va := va.step hD
        have vb := vb.step hD
        have hz0 := hz0.step hD
        have hz1 := hz1.step hD
        have hz2 := hz2.step hD
        have hox := ownsRow_below hox hD
        have hoy := ownsRow_below hoy hD
        clear q hD dvx1 dva1
        have dvy1 := vy.two.c1
        have dvb1 := vb.two.c1
        have q := keptN_any _ g2 a2 c4 n2 c2 l2 w.heap.size hoy vb.set.sl (by omega)
        go_wp2_with fail
        refine q.mono ?_
        rintro e u1 ⟨rfl, hD⟩
        have vx := vx.step hD
        have vy := vy.step hD
        have va := va.step hD
        have vb := vb.step hD
        have hz0 := hz0.step hD
        have hz1 := hz1.step hD
        have hz2 := hz2.step hD
        have hox := ownsRow_below hox hD
        have hoy := ownsRow_below hoy hD
        clear q hD dvy1 dvb1
        have dva0 := va.two.c0
        have dva1 := va.two.c1
        have q := rrB va.set hr1
        go_wp2_with fail
        refine q.mono ?_
        rintro e r0 ⟨rfl, hD⟩
        have vx := vx.step hD
        have vy := vy.step hD
        have va := va.step hD
        have vb := vb.step hD
        have hz0 := hz0.step hD
        have hz1 := hz1.step hD
        have hz2 := hz2.step hD
        clear q hD dva0 dva1
        have dvb0 := vb.two.c0
        have dvb1 := vb.two.c1
        have q := rrB vb.set hr2
        go_wp2_with fail
        refine q.mono ?_
        rintro e r1 ⟨rfl, hD⟩
        have vx := vx.step hD
        have vy := vy.step hD
        have va := va.step hD
        have vb := vb.step hD
        have hz0 := hz0.step hD
        have hz1 := hz1.step hD
        have hz2 := hz2.step hD
        clear q hD dvb0 dvb1
        have dva0 := va.two.c0
        have dvb0 := vb.two.c0
        have e00 := hz0.c0
        have e01 := hz0.c1
        have e10 := hz1.c0
        have e11 := hz1.c1
        have e20 := hz2.c0
        have e21 := hz2.c1
        go_wp2_with fail
        go_ret
        exact ⟨rfl, vx.bel⟩
      | true =>
        by_cases hNM : N = M
        · obtain rfl : N = M := hNM
          obtain ⟨N, rfl⟩ : ∃ k : Nat, N = (k : Int) := ⟨N.toNat, by have := (of_rightB hr1).1; omega⟩
          obtain rfl : n = n2 := by have e1 := (of_rightB hr1).2.2.1; have e2 := (of_rightB hr2).2.2.1; have e3 := s1.sl.1; have e4 := s2.sl.1; omega
          have HK : Hid (n = (N + 63) / 64) := Lib.hid (by have e1 := (of_rightB hr1).2.2.1; have e3 := s1.sl.1; omega)
          have hNb : N ≤ 65536 := by have e1 := (of_rightB hr1).2.1; omega
          have hC : Chain w.heap.size [(g, n, c3, l), (g2, n, c4, l2)] _ := ⟨m1, hm1, hR1, _, hm2, hR2, Nat.le_refl _⟩
          have hs9 := Nat.le_refl wc.heap.size
          have HC := Lib.hid hC
          clear hC hR1 hR2 hm1 hm2
          have dvx0 := vx.two.c0
          have dvx1 := vx.two.c1
          have dvy0 := vy.two.c0
          have dvy1 := vy.two.c1
          have q := (orOk_any _ N g g2 n c3 n c4 l l2 vx.set vy.set hr1 hr2).mono fun _ _ h => SetE.k h HK.out
          unfold SetK at q
          go_wp2_with fail
          refine q.mono ?_
          rintro e v0 ⟨go0, co0, Ro0, rfl, hO0, hwO0, hbO0, hD⟩
          have hA9 : Below v0.heap.size v0 (v0.alloc (.cells #[.int .i64 (N : Int), .slice go0 n co0] 24)) := (Below.refl _ _).alloc (Nat.le_refl _) _
          have hRg := Rng.own hO0
          have hC2 := HC.out.snoc (t := (go0, n, co0, Ro0)) hD.size hs9 hRg
          clear HC
          have HC := Lib.hid hC2
          have hbv := bstep vx.bel hD
          have ho0 := ownsRow_below (own_base hO0 vx.bel.size) hA9
          have vo0 : VrS w _ v0.heap.size (N : Int) go0 n co0 Ro0 := ⟨bstep hbv hA9, ⟨own_sl ho0, hwO0, by omega, by omega, hT.step (bstep hbv hA9)⟩, Two.new _ _ _ _⟩
          clear hs9
          have hs9 := hA9.size
          have vx := (vx.step hD).step hA9
          have vy := (vy.step hD).step hA9
          have va := (va.step hD).step hA9
          have vb := (vb.step hD).step hA9
          have hox := ownsRow_below (ownsRow_below hox hD) hA9
          have hoy := ownsRow_below (ownsRow_below hoy hD) hA9
          have HB0 := Lib.hid (And.intro hwO0 hbO0)
          clear q hA9 hD hRg hC2 hbv hO0 hwO0 hbO0 dvx0 dvx1 dvy0 dvy1
          have dvx0 := vx.two.c0
          have dvx1 := vx.two.c1
          have dvy0 := vy.two.c0
          have dvy1 := vy.two.c1
          have q := (andOk_any _ N g g2 n c3 n c4 l l2 vx.set vy.set hr1 hr2).mono fun _ _ h => SetE.k h HK.out
          unfold SetK at q
          go_wp2_with fail
          refine q.mono ?_
          rintro e v1 ⟨go1, co1, Ro1, rfl, hO1, hwO1, hbO1, hD⟩
          have hA9 : Below v1.heap.size v1 (v1.alloc (.cells #[.int .i64 (N : Int), .slice go1 n co1] 24)) := (Below.refl _ _).alloc (Nat.le_refl _) _
          have hRg := Rng.own hO1
          have hC2 := HC.out.snoc (t := (go1, n, co1, Ro1)) hD.size hs9 hRg
          clear HC
          have HC := Lib.hid hC2
          have hbv := bstep vx.bel hD
          have ho1 := ownsRow_below (own_base hO1 vx.bel.size) hA9
          have vo1 : VrS w _ v1.heap.size (N : Int) go1 n co1 Ro1 := ⟨bstep hbv hA9, ⟨own_sl ho1, hwO1, by omega, by omega, hT.step (bstep hbv hA9)⟩, Two.new _ _ _ _⟩
          clear hs9
          have hs9 := hA9.size
          have vx := (vx.step hD).step hA9
          have vy := (vy.step hD).step hA9
          have va := (va.step hD).step hA9
          have vb := (vb.step hD).step hA9
          have vo0 := (vo0.step hD).step hA9
          have hox := ownsRow_below (ownsRow_below hox hD) hA9
          have hoy := ownsRow_below (ownsRow_below hoy hD) hA9
          have ho0 := ownsRow_below (ownsRow_below ho0 hD) hA9
          have HB1 := Lib.hid (And.intro hwO1 hbO1)
          clear q hA9 hD hRg hC2 hbv hO1 hwO1 hbO1 dvx0 dvx1 dvy0 dvy1
          have dvx0 := vx.two.c0
          have dvx1 := vx.two.c1
          have dvy0 := vy.two.c0
          have dvy1 := vy.two.c1
          have q := (minusOk_any _ N g g2 n c3 n c4 l l2 vx.set vy.set hr1 hr2).mono fun _ _ h => SetE.k h HK.out
          unfold SetK at q
          go_wp2_with fail
          refine q.mono ?_
          rintro e v2 ⟨go2, co2, Ro2, rfl, hO2, hwO2, hbO2, hD⟩
          have hA9 : Below v2.heap.size v2 (v2.alloc (.cells #[.int .i64 (N : Int), .slice go2 n co2] 24)) := (Below.refl _ _).alloc (Nat.le_refl _) _
          have hRg := Rng.own hO2
          have hC2 := HC.out.snoc (t := (go2, n, co2, Ro2)) hD.size hs9 hRg
          clear HC
          have HC := Lib.hid hC2
          have hbv := bstep vx.bel hD
          have ho2 := ownsRow_below (own_base hO2 vx.bel.size) hA9
          have vo2 : VrS w _ v2.heap.size (N : Int) go2 n co2 Ro2 := ⟨bstep hbv hA9, ⟨own_sl ho2, hwO2, by omega, by omega, hT.step (bstep hbv hA9)⟩, Two.new _ _ _ _⟩
          clear hs9
          have hs9 := hA9.size
          have vx := (vx.step hD).step hA9
          have vy := (vy.step hD).step hA9
          have va := (va.step hD).step hA9
          have vb := (vb.step hD).step hA9
          have vo0 := (vo0.step hD).step hA9
          have vo1 := (vo1.step hD).step hA9
          have hox := ownsRow_below (ownsRow_below hox hD) hA9
          have hoy := ownsRow_below (ownsRow_below hoy hD) hA9
          have ho0 := ownsRow_below (ownsRow_below ho0 hD) hA9
          have ho1 := ownsRow_below (ownsRow_below ho1 hD) hA9
          have HB2 := Lib.hid (And.intro hwO2 hbO2)
          clear q hA9 hD hRg hC2 hbv hO2 hwO2 hbO2 dvx0 dvx1 dvy0 dvy1
          clear hs9
          have dvx1 := vx.two.c1
          have dva1 := va.two.c1
          have q := keptN_any _ g a c3 n c l w.heap.size hox va.set.sl (by omega)
          go_wp2_with fail
          refine q.mono ?_
          rintro e u0 ⟨rfl, hD⟩
          have vx := vx.step hD
          have vy := vy.step hD
          have va := va.step hD
          have vb := vb.step hD
          have vo0 := vo0.step hD
          have vo1 := vo1.step hD
          have vo2 := vo2.step hD
          have hox := ownsRow_below hox hD
          have hoy := ownsRow_below hoy hD
          have ho0 := ownsRow_below ho0 hD
          have ho1 := ownsRow_below ho1 hD
          have ho2 := ownsRow_below ho2 hD
          clear q hD dvx1 dva1
          have dvy1 := vy.two.c1
          have dvb1 := vb.two.c1
          have q := keptN_any _ g2 a2 c4 n c2 l2 w.heap.size hoy vb.set.sl (by omega)
          go_wp2_with fail
          refine q.mono ?_
          rintro e u1 ⟨rfl, hD⟩
          have vx := vx.step hD
          have vy := vy.step hD
          have va := va.step hD
          have vb := vb.step hD
          have vo0 := vo0.step hD
          have vo1 := vo1.step hD
          have vo2 := vo2.step hD
          have hox := ownsRow_below hox hD
          have hoy := ownsRow_below hoy hD
          have ho0 := ownsRow_below ho0 hD
          have ho1 := ownsRow_below ho1 hD
          have ho2 := ownsRow_below ho2 hD
          clear q hD dvy1 dvb1
          have dva0 := va.two.c0
          have dva1 := va.two.c1
          have q := rrB va.set hr1
          go_wp2_with fail
          refine q.mono ?_
          rintro e r0 ⟨rfl, hD⟩
          have vx := vx.step hD
          have vy := vy.step hD
          have va := va.step hD
          have vb := vb.step hD
          have vo0 := vo0.step hD
          have vo1 := vo1.step hD
          have vo2 := vo2.step hD
          have hox := ownsRow_below hox hD
          have hoy := ownsRow_below hoy hD
          have ho0 := ownsRow_below ho0 hD
          have ho1 := ownsRow_below ho1 hD
          have ho2 := ownsRow_below ho2 hD
          clear q hD dva0 dva1
          have dvb0 := vb.two.c0
          have dvb1 := vb.two.c1
          have q := rrB vb.set hr2
          go_wp2_with fail
          refine q.mono ?_
          rintro e r1 ⟨rfl, hD⟩
          have vx := vx.step hD
          have vy := vy.step hD
          have va := va.step hD
          have vb := vb.step hD
          have vo0 := vo0.step hD
          have vo1 := vo1.step hD
          have vo2 := vo2.step hD
          have hox := ownsRow_below hox hD
          have hoy := ownsRow_below hoy hD
          have ho0 := ownsRow_below ho0 hD
          have ho1 := ownsRow_below ho1 hD
          have ho2 := ownsRow_below ho2 hD
          clear q hD dvb0 dvb1
          have dva0 := va.two.c0
          have dvb0 := vb.two.c0
          have n1 : ((N : Int) != (N : Int)) = false := by simp
          go_wp2_with fail
          clear n1 dva0 dvb0
          have h0 : Below r1.heap.size r1 r1.drew ∧ r1.drew.cell? ⟨w.heap.size, 0, none⟩ = some (.int .i64 (N : Int)) ∧ r1.drew.cell? ⟨w.heap.size, 1, none⟩ = some (.slice a n c) ∧ r1.drew.cell? ⟨(w.heap.size + 1), 1, none⟩ = some (.slice a2 n c2) ∧ r1.drew.cell? ⟨v0.heap.size, 0, none⟩ = some (.int .i64 (N : Int)) ∧ r1.drew.cell? ⟨v0.heap.size, 1, none⟩ = some (.slice go0 n co0) ∧ r1.drew.cell? ⟨v1.heap.size, 0, none⟩ = some (.int .i64 (N : Int)) ∧ r1.drew.cell? ⟨v1.heap.size, 1, none⟩ = some (.slice go1 n co1) ∧ r1.drew.cell? ⟨v2.heap.size, 0, none⟩ = some (.int .i64 (N : Int)) ∧ r1.drew.cell? ⟨v2.heap.size, 1, none⟩ = some (.slice go2 n co2) := ⟨(Below.refl _ _).drew, (va.two.step ((Below.refl _ _).drew)).c0, (va.two.step ((Below.refl _ _).drew)).c1, (vb.two.step ((Below.refl _ _).drew)).c1, (vo0.two.step ((Below.refl _ _).drew)).c0, (vo0.two.step ((Below.refl _ _).drew)).c1, (vo1.two.step ((Below.refl _ _).drew)).c0, (vo1.two.step ((Below.refl _ _).drew)).c1, (vo2.two.step ((Below.refl _ _).drew)).c0, (vo2.two.step ((Below.refl _ _).drew)).c1⟩
          refine wp_region_noPanic ?_
          refine wp_region_held_drew (S := fun W => Below r1.heap.size r1 W ∧ W.cell? ⟨w.heap.size, 0, none⟩ = some (.int .i64 (N : Int)) ∧ W.cell? ⟨w.heap.size, 1, none⟩ = some (.slice a n c) ∧ W.cell? ⟨(w.heap.size + 1), 1, none⟩ = some (.slice a2 n c2) ∧ W.cell? ⟨v0.heap.size, 0, none⟩ = some (.int .i64 (N : Int)) ∧ W.cell? ⟨v0.heap.size, 1, none⟩ = some (.slice go0 n co0) ∧ W.cell? ⟨v1.heap.size, 0, none⟩ = some (.int .i64 (N : Int)) ∧ W.cell? ⟨v1.heap.size, 1, none⟩ = some (.slice go1 n co1) ∧ W.cell? ⟨v2.heap.size, 0, none⟩ = some (.int .i64 (N : Int)) ∧ W.cell? ⟨v2.heap.size, 1, none⟩ = some (.slice go2 n co2)) (by kernel_rfl) (h0) (fun hHeld => ?_)
          refine wpAnyH_take (i := 0) (oi := { dst := some 125, op := Go.Op.load 24 (Go.Operand.tmp 7), type := 24, pos := "law.go:147", after := #[], guard := none }) (v := ?v0zj) rfl (by kernel_rfl) (by kernel_rfl) (by kernel_rfl) (fun _ _ _ h => h) (Or.inl ⟨by rfl, ?hy0zj⟩) hHeld ?rest0zj
          case hy0zj =>
            intro w hSw
            try dsimp only at hSw
            go_simp
            try with_reducible rfl
          try simp only [Act.put, List.setIfInBounds_toArray, List.set_cons_zero, List.set_cons_succ]
          refine wpAnyH_take (i := 1) (oi := { dst := some 126, op := Go.Op.fieldAddr 24 (Go.Operand.tmp 2) 0, type := 0, pos := "law.go:147", after := #[], guard := none }) (v := ?v1zj) rfl (by kernel_rfl) (by kernel_rfl) (by kernel_rfl) (fun _ _ _ h => h) (Or.inl ⟨by rfl, ?hy1zj⟩) hHeld ?rest1zj
          case hy1zj =>
            intro w hSw
            try dsimp only at hSw
            go_simp
            try with_reducible rfl
          try simp only [Act.put, List.setIfInBounds_toArray, List.set_cons_zero, List.set_cons_succ]
          refine wpAnyH_take (i := 2) (oi := { dst := some 127, op := Go.Op.load 3 (Go.Operand.tmp 126), type := 3, pos := "law.go:147", after := #[{ on := 1, ground := Go.Ground.data }], guard := none }) (v := ?v2zj) rfl (by kernel_rfl) (by kernel_rfl) (by kernel_rfl) (fun _ _ _ h => h) (Or.inl ⟨by rfl, ?hy2zj⟩) hHeld ?rest2zj
          case hy2zj =>
            intro w hSw
            try dsimp only at hSw
            go_simp
            try with_reducible rfl
          try simp only [Act.put, List.setIfInBounds_toArray, List.set_cons_zero, List.set_cons_succ]
          refine wpAnyH_take (i := 3) (oi := { dst := some 128, op := Go.Op.fieldAddr 24 (Go.Operand.tmp 2) 1, type := 0, pos := "law.go:147", after := #[], guard := none }) (v := ?v3zj) rfl (by kernel_rfl) (by kernel_rfl) (by kernel_rfl) (fun _ _ _ h => h) (Or.inl ⟨by rfl, ?hy3zj⟩) hHeld ?rest3zj
          case hy3zj =>
            intro w hSw
            try dsimp only at hSw
            go_simp
            try with_reducible rfl
          try simp only [Act.put, List.setIfInBounds_toArray, List.set_cons_zero, List.set_cons_succ]
          refine wpAnyH_take (i := 4) (oi := { dst := some 129, op := Go.Op.load 22 (Go.Operand.tmp 128), type := 22, pos := "law.go:147", after := #[{ on := 3, ground := Go.Ground.data }], guard := none }) (v := ?v4zj) rfl (by kernel_rfl) (by kernel_rfl) (by kernel_rfl) (fun _ _ _ h => h) (Or.inl ⟨by rfl, ?hy4zj⟩) hHeld ?rest4zj
          case hy4zj =>
            intro w hSw
            try dsimp only at hSw
            go_simp
            try with_reducible rfl
          try simp only [Act.put, List.setIfInBounds_toArray, List.set_cons_zero, List.set_cons_succ]
          refine wpAnyH_take (i := 5) (oi := { dst := some 130, op := Go.Op.fieldAddr 24 (Go.Operand.tmp 3) 1, type := 0, pos := "law.go:147", after := #[], guard := none }) (v := ?v5zj) rfl (by kernel_rfl) (by kernel_rfl) (by kernel_rfl) (fun _ _ _ h => h) (Or.inl ⟨by rfl, ?hy5zj⟩) hHeld ?rest5zj
          case hy5zj =>
            intro w hSw
            try dsimp only at hSw
            go_simp
            try with_reducible rfl
          try simp only [Act.put, List.setIfInBounds_toArray, List.set_cons_zero, List.set_cons_succ]
          refine wpAnyH_take (i := 6) (oi := { dst := some 131, op := Go.Op.load 22 (Go.Operand.tmp 130), type := 22, pos := "law.go:147", after := #[{ on := 5, ground := Go.Ground.data }], guard := none }) (v := ?v6zj) rfl (by kernel_rfl) (by kernel_rfl) (by kernel_rfl) (fun _ _ _ h => h) (Or.inl ⟨by rfl, ?hy6zj⟩) hHeld ?rest6zj
          case hy6zj =>
            intro w hSw
            try dsimp only at hSw
            go_simp
            try with_reducible rfl
          try simp only [Act.put, List.setIfInBounds_toArray, List.set_cons_zero, List.set_cons_succ]
          refine wpAnyH_ready (rs := [7]) (by kernel_rfl) (by simp) ?_
          refine AllReadyH.cons (o := { dst := some 132, op := Go.Op.call { callee := Go.Callee.value (Go.Operand.func 17), args := #[Go.Operand.tmp 127, Go.Operand.tmp 129, Go.Operand.tmp 131, Go.Operand.const (Go.Value.bool false), Go.Operand.const (Go.Value.bool true), Go.Operand.const (Go.Value.bool true), Go.Operand.const (Go.Value.bool true)], argTypes := #[3, 22, 22, 4, 4, 4, 4] }, type := 31, pos := "law.go:147", after := #[{ on := 2, ground := Go.Ground.data }, { on := 4, ground := Go.Ground.data }, { on := 6, ground := Go.Ground.data }], guard := none }) rfl (fun K hK => ?_) AllReadyH.nil
          go_simp
          refine (joinQ false true true true (va.set.below h0.1).sl (vb.set.below h0.1).sl s1.wds s2.wds hNb HK.out).mono ?_
          unfold SetQ
          rintro e j0 ⟨gj0, cj0, Rj0, rfl, hj0, hwj0, hbj0, hD0⟩
          have h1 : Below r1.heap.size r1 j0 ∧ j0.cell? ⟨w.heap.size, 0, none⟩ = some (.int .i64 (N : Int)) ∧ j0.cell? ⟨w.heap.size, 1, none⟩ = some (.slice a n c) ∧ j0.cell? ⟨(w.heap.size + 1), 1, none⟩ = some (.slice a2 n c2) ∧ j0.cell? ⟨v0.heap.size, 0, none⟩ = some (.int .i64 (N : Int)) ∧ j0.cell? ⟨v0.heap.size, 1, none⟩ = some (.slice go0 n co0) ∧ j0.cell? ⟨v1.heap.size, 0, none⟩ = some (.int .i64 (N : Int)) ∧ j0.cell? ⟨v1.heap.size, 1, none⟩ = some (.slice go1 n co1) ∧ j0.cell? ⟨v2.heap.size, 0, none⟩ = some (.int .i64 (N : Int)) ∧ j0.cell? ⟨v2.heap.size, 1, none⟩ = some (.slice go2 n co2) := ⟨bstep h0.1 hD0, (va.two.step (bstep h0.1 hD0)).c0, (va.two.step (bstep h0.1 hD0)).c1, (vb.two.step (bstep h0.1 hD0)).c1, (vo0.two.step (bstep h0.1 hD0)).c0, (vo0.two.step (bstep h0.1 hD0)).c1, (vo1.two.step (bstep h0.1 hD0)).c0, (vo1.two.step (bstep h0.1 hD0)).c1, (vo2.two.step (bstep h0.1 hD0)).c0, (vo2.two.step (bstep h0.1 hD0)).c1⟩
          have HE0 := Lib.hid (same_r (vo0.set.sl.1) hj0.1 HB0.out.1 hwj0 fun i => by rw [HB0.out.2, hbj0]; exact (bits_j hr1 hr2 i).1)
          clear hwj0 hbj0
          go_wp2_with fail
          refine hK.out _ _ (h1) (fun hHeld => ?_)
          clear hK K
          try simp only [Act.put, List.setIfInBounds_toArray, List.set_cons_zero, List.set_cons_succ]
          refine wpAnyH_ready (rs := [8]) (by kernel_rfl) (by simp) ?_
          refine AllReadyH.cons (o := { dst := some 133, op := Go.Op.call { callee := Go.Callee.value (Go.Operand.func 51), args := #[Go.Operand.tmp 125, Go.Operand.tmp 132], argTypes := #[24, 31] }, type := 4, pos := "law.go:147", after := #[{ on := 0, ground := Go.Ground.data }, { on := 7, ground := Go.Ground.data }, { on := 7, ground := Go.Ground.chain }], guard := none }) rfl (fun K hK => ?_) AllReadyH.nil
          go_simp
          refine (is_yes (vo0.set.below h1.1).sl hj0 HE0.out).mono ?_
          rintro e i0 ⟨rfl, hE0⟩
          have h2 : Below r1.heap.size r1 i0 ∧ i0.cell? ⟨w.heap.size, 0, none⟩ = some (.int .i64 (N : Int)) ∧ i0.cell? ⟨w.heap.size, 1, none⟩ = some (.slice a n c) ∧ i0.cell? ⟨(w.heap.size + 1), 1, none⟩ = some (.slice a2 n c2) ∧ i0.cell? ⟨v0.heap.size, 0, none⟩ = some (.int .i64 (N : Int)) ∧ i0.cell? ⟨v0.heap.size, 1, none⟩ = some (.slice go0 n co0) ∧ i0.cell? ⟨v1.heap.size, 0, none⟩ = some (.int .i64 (N : Int)) ∧ i0.cell? ⟨v1.heap.size, 1, none⟩ = some (.slice go1 n co1) ∧ i0.cell? ⟨v2.heap.size, 0, none⟩ = some (.int .i64 (N : Int)) ∧ i0.cell? ⟨v2.heap.size, 1, none⟩ = some (.slice go2 n co2) := ⟨bstep h1.1 hE0, (va.two.step (bstep h1.1 hE0)).c0, (va.two.step (bstep h1.1 hE0)).c1, (vb.two.step (bstep h1.1 hE0)).c1, (vo0.two.step (bstep h1.1 hE0)).c0, (vo0.two.step (bstep h1.1 hE0)).c1, (vo1.two.step (bstep h1.1 hE0)).c0, (vo1.two.step (bstep h1.1 hE0)).c1, (vo2.two.step (bstep h1.1 hE0)).c0, (vo2.two.step (bstep h1.1 hE0)).c1⟩
          clear hj0 HE0
          go_wp2_with fail
          refine hK.out _ _ (h2) (fun hHeld => ?_)
          clear hK K
          try simp only [Act.put, List.setIfInBounds_toArray, List.set_cons_zero, List.set_cons_succ]
          refine wpAnyH_take (i := 9) (oi := { dst := some 134, op := Go.Op.unOp Go.UnOp.not 4 (Go.Operand.tmp 133), type := 4, pos := "law.go:147", after := #[{ on := 8, ground := Go.Ground.data }], guard := none }) (v := ?v9zj) rfl (by kernel_rfl) (by kernel_rfl) (by kernel_rfl) (fun _ _ _ h => h) (Or.inl ⟨by rfl, ?hy9zj⟩) hHeld ?rest9zj
          case hy9zj =>
            intro w hSw
            try dsimp only at hSw
            go_simp
            try with_reducible rfl
          try simp only [Act.put, List.setIfInBounds_toArray, List.set_cons_zero, List.set_cons_succ]
          refine wpAnyH_take (i := 10) (oi := { dst := some 135, op := Go.Op.move (Go.Operand.tmp 134), type := 4, pos := "law.go:147", after := #[{ on := 9, ground := Go.Ground.data }, { on := 8, ground := Go.Ground.chain }], guard := none }) (v := ?v10zj) rfl (by kernel_rfl) (by kernel_rfl) (by kernel_rfl) (fun _ _ _ h => h) (Or.inl ⟨by rfl, ?hy10zj⟩) hHeld ?rest10zj
          case hy10zj =>
            intro w hSw
            try dsimp only at hSw
            go_simp
            try with_reducible rfl
          try simp only [Act.put, List.setIfInBounds_toArray, List.set_cons_zero, List.set_cons_succ]
          refine wpAnyH_take (i := 11) (oi := { dst := some 136, op := Go.Op.load 24 (Go.Operand.tmp 9), type := 24, pos := "law.go:147", after := #[{ on := 10, ground := Go.Ground.guard }], guard := some (10, false) }) (v := ?v11zj) rfl (by kernel_rfl) (by kernel_rfl) (by kernel_rfl) (fun _ _ _ h => h) (Or.inl ⟨by rfl, ?hy11zj⟩) hHeld ?rest11zj
          case hy11zj =>
            intro w hSw
            try dsimp only at hSw
            go_simp
            try with_reducible rfl
          try simp only [Act.put, List.setIfInBounds_toArray, List.set_cons_zero, List.set_cons_succ]
          refine wpAnyH_take (i := 12) (oi := { dst := some 137, op := Go.Op.fieldAddr 24 (Go.Operand.tmp 2) 0, type := 0, pos := "law.go:147", after := #[{ on := 10, ground := Go.Ground.guard }], guard := some (10, false) }) (v := ?v12zj) rfl (by kernel_rfl) (by kernel_rfl) (by kernel_rfl) (fun _ _ _ h => h) (Or.inl ⟨by rfl, ?hy12zj⟩) hHeld ?rest12zj
          case hy12zj =>
            intro w hSw
            try dsimp only at hSw
            go_simp
            try with_reducible rfl
          try simp only [Act.put, List.setIfInBounds_toArray, List.set_cons_zero, List.set_cons_succ]
          refine wpAnyH_take (i := 13) (oi := { dst := some 138, op := Go.Op.load 3 (Go.Operand.tmp 137), type := 3, pos := "law.go:147", after := #[{ on := 12, ground := Go.Ground.data }, { on := 10, ground := Go.Ground.guard }], guard := some (10, false) }) (v := ?v13zj) rfl (by kernel_rfl) (by kernel_rfl) (by kernel_rfl) (fun _ _ _ h => h) (Or.inl ⟨by rfl, ?hy13zj⟩) hHeld ?rest13zj
          case hy13zj =>
            intro w hSw
            try dsimp only at hSw
            go_simp
            try with_reducible rfl
          try simp only [Act.put, List.setIfInBounds_toArray, List.set_cons_zero, List.set_cons_succ]
          refine wpAnyH_take (i := 14) (oi := { dst := some 139, op := Go.Op.fieldAddr 24 (Go.Operand.tmp 2) 1, type := 0, pos := "law.go:147", after := #[{ on := 10, ground := Go.Ground.guard }], guard := some (10, false) }) (v := ?v14zj) rfl (by kernel_rfl) (by kernel_rfl) (by kernel_rfl) (fun _ _ _ h => h) (Or.inl ⟨by rfl, ?hy14zj⟩) hHeld ?rest14zj
          case hy14zj =>
            intro w hSw
            try dsimp only at hSw
            go_simp
            try with_reducible rfl
          try simp only [Act.put, List.setIfInBounds_toArray, List.set_cons_zero, List.set_cons_succ]
          refine wpAnyH_take (i := 15) (oi := { dst := some 140, op := Go.Op.load 22 (Go.Operand.tmp 139), type := 22, pos := "law.go:147", after := #[{ on := 14, ground := Go.Ground.data }, { on := 10, ground := Go.Ground.guard }], guard := some (10, false) }) (v := ?v15zj) rfl (by kernel_rfl) (by kernel_rfl) (by kernel_rfl) (fun _ _ _ h => h) (Or.inl ⟨by rfl, ?hy15zj⟩) hHeld ?rest15zj
          case hy15zj =>
            intro w hSw
            try dsimp only at hSw
            go_simp
            try with_reducible rfl
          try simp only [Act.put, List.setIfInBounds_toArray, List.set_cons_zero, List.set_cons_succ]
          refine wpAnyH_take (i := 16) (oi := { dst := some 141, op := Go.Op.fieldAddr 24 (Go.Operand.tmp 3) 1, type := 0, pos := "law.go:147", after := #[{ on := 10, ground := Go.Ground.guard }], guard := some (10, false) }) (v := ?v16zj) rfl (by kernel_rfl) (by kernel_rfl) (by kernel_rfl) (fun _ _ _ h => h) (Or.inl ⟨by rfl, ?hy16zj⟩) hHeld ?rest16zj
          case hy16zj =>
            intro w hSw
            try dsimp only at hSw
            go_simp
            try with_reducible rfl
          try simp only [Act.put, List.setIfInBounds_toArray, List.set_cons_zero, List.set_cons_succ]
          refine wpAnyH_take (i := 17) (oi := { dst := some 142, op := Go.Op.load 22 (Go.Operand.tmp 141), type := 22, pos := "law.go:147", after := #[{ on := 16, ground := Go.Ground.data }, { on := 10, ground := Go.Ground.guard }], guard := some (10, false) }) (v := ?v17zj) rfl (by kernel_rfl) (by kernel_rfl) (by kernel_rfl) (fun _ _ _ h => h) (Or.inl ⟨by rfl, ?hy17zj⟩) hHeld ?rest17zj
          case hy17zj =>
            intro w hSw
            try dsimp only at hSw
            go_simp
            try with_reducible rfl
          try simp only [Act.put, List.setIfInBounds_toArray, List.set_cons_zero, List.set_cons_succ]
          refine wpAnyH_ready (rs := [18]) (by kernel_rfl) (by simp) ?_
          refine AllReadyH.cons (o := { dst := some 143, op := Go.Op.call { callee := Go.Callee.value (Go.Operand.func 17), args := #[Go.Operand.tmp 138, Go.Operand.tmp 140, Go.Operand.tmp 142, Go.Operand.const (Go.Value.bool false), Go.Operand.const (Go.Value.bool false), Go.Operand.const (Go.Value.bool false), Go.Operand.const (Go.Value.bool true)], argTypes := #[3, 22, 22, 4, 4, 4, 4] }, type := 31, pos := "law.go:147", after := #[{ on := 13, ground := Go.Ground.data }, { on := 15, ground := Go.Ground.data }, { on := 17, ground := Go.Ground.data }, { on := 10, ground := Go.Ground.chain }, { on := 10, ground := Go.Ground.guard }], guard := some (10, false) }) rfl (fun K hK => ?_) AllReadyH.nil
          go_simp
          refine (joinQ false false false true (va.set.below h2.1).sl (vb.set.below h2.1).sl s1.wds s2.wds hNb HK.out).mono ?_
          unfold SetQ
          rintro e j1 ⟨gj1, cj1, Rj1, rfl, hj1, hwj1, hbj1, hD1⟩
          have h3 : Below r1.heap.size r1 j1 ∧ j1.cell? ⟨w.heap.size, 0, none⟩ = some (.int .i64 (N : Int)) ∧ j1.cell? ⟨w.heap.size, 1, none⟩ = some (.slice a n c) ∧ j1.cell? ⟨(w.heap.size + 1), 1, none⟩ = some (.slice a2 n c2) ∧ j1.cell? ⟨v0.heap.size, 0, none⟩ = some (.int .i64 (N : Int)) ∧ j1.cell? ⟨v0.heap.size, 1, none⟩ = some (.slice go0 n co0) ∧ j1.cell? ⟨v1.heap.size, 0, none⟩ = some (.int .i64 (N : Int)) ∧ j1.cell? ⟨v1.heap.size, 1, none⟩ = some (.slice go1 n co1) ∧ j1.cell? ⟨v2.heap.size, 0, none⟩ = some (.int .i64 (N : Int)) ∧ j1.cell? ⟨v2.heap.size, 1, none⟩ = some (.slice go2 n co2) := ⟨bstep h2.1 hD1, (va.two.step (bstep h2.1 hD1)).c0, (va.two.step (bstep h2.1 hD1)).c1, (vb.two.step (bstep h2.1 hD1)).c1, (vo0.two.step (bstep h2.1 hD1)).c0, (vo0.two.step (bstep h2.1 hD1)).c1, (vo1.two.step (bstep h2.1 hD1)).c0, (vo1.two.step (bstep h2.1 hD1)).c1, (vo2.two.step (bstep h2.1 hD1)).c0, (vo2.two.step (bstep h2.1 hD1)).c1⟩
          have HE1 := Lib.hid (same_r (vo1.set.sl.1) hj1.1 HB1.out.1 hwj1 fun i => by rw [HB1.out.2, hbj1]; exact (bits_j hr1 hr2 i).2.1)
          clear hwj1 hbj1
          go_wp2_with fail
          refine hK.out _ _ (h3) (fun hHeld => ?_)
          clear hK K
          try simp only [Act.put, List.setIfInBounds_toArray, List.set_cons_zero, List.set_cons_succ]
          refine wpAnyH_ready (rs := [19]) (by kernel_rfl) (by simp) ?_
          refine AllReadyH.cons (o := { dst := some 144, op := Go.Op.call { callee := Go.Callee.value (Go.Operand.func 51), args := #[Go.Operand.tmp 136, Go.Operand.tmp 143], argTypes := #[24, 31] }, type := 4, pos := "law.go:147", after := #[{ on := 11, ground := Go.Ground.data }, { on := 18, ground := Go.Ground.data }, { on := 18, ground := Go.Ground.chain }, { on := 10, ground := Go.Ground.guard }], guard := some (10, false) }) rfl (fun K hK => ?_) AllReadyH.nil
          go_simp
          refine (is_yes (vo1.set.below h3.1).sl hj1 HE1.out).mono ?_
          rintro e i1 ⟨rfl, hE1⟩
          have h4 : Below r1.heap.size r1 i1 ∧ i1.cell? ⟨w.heap.size, 0, none⟩ = some (.int .i64 (N : Int)) ∧ i1.cell? ⟨w.heap.size, 1, none⟩ = some (.slice a n c) ∧ i1.cell? ⟨(w.heap.size + 1), 1, none⟩ = some (.slice a2 n c2) ∧ i1.cell? ⟨v0.heap.size, 0, none⟩ = some (.int .i64 (N : Int)) ∧ i1.cell? ⟨v0.heap.size, 1, none⟩ = some (.slice go0 n co0) ∧ i1.cell? ⟨v1.heap.size, 0, none⟩ = some (.int .i64 (N : Int)) ∧ i1.cell? ⟨v1.heap.size, 1, none⟩ = some (.slice go1 n co1) ∧ i1.cell? ⟨v2.heap.size, 0, none⟩ = some (.int .i64 (N : Int)) ∧ i1.cell? ⟨v2.heap.size, 1, none⟩ = some (.slice go2 n co2) := ⟨bstep h3.1 hE1, (va.two.step (bstep h3.1 hE1)).c0, (va.two.step (bstep h3.1 hE1)).c1, (vb.two.step (bstep h3.1 hE1)).c1, (vo0.two.step (bstep h3.1 hE1)).c0, (vo0.two.step (bstep h3.1 hE1)).c1, (vo1.two.step (bstep h3.1 hE1)).c0, (vo1.two.step (bstep h3.1 hE1)).c1, (vo2.two.step (bstep h3.1 hE1)).c0, (vo2.two.step (bstep h3.1 hE1)).c1⟩
          clear hj1 HE1
          go_wp2_with fail
          refine hK.out _ _ (h4) (fun hHeld => ?_)
          clear hK K
          try simp only [Act.put, List.setIfInBounds_toArray, List.set_cons_zero, List.set_cons_succ]
          refine wpAnyH_take (i := 20) (oi := { dst := some 145, op := Go.Op.unOp Go.UnOp.not 4 (Go.Operand.tmp 144), type := 4, pos := "law.go:147", after := #[{ on := 19, ground := Go.Ground.data }, { on := 10, ground := Go.Ground.guard }], guard := some (10, false) }) (v := ?v20zj) rfl (by kernel_rfl) (by kernel_rfl) (by kernel_rfl) (fun _ _ _ h => h) (Or.inl ⟨by rfl, ?hy20zj⟩) hHeld ?rest20zj
          case hy20zj =>
            intro w hSw
            try dsimp only at hSw
            go_simp
            try with_reducible rfl
          try simp only [Act.put, List.setIfInBounds_toArray, List.set_cons_zero, List.set_cons_succ]
          refine wpAnyH_take (i := 21) (oi := { dst := some 146, op := Go.Op.pick (Go.Operand.tmp 135) (Go.Operand.const (Go.Value.bool true)) (Go.Operand.tmp 145), type := 4, pos := "law.go:147", after := #[{ on := 10, ground := Go.Ground.data }, { on := 20, ground := Go.Ground.data }], guard := none }) (v := ?v21zj) rfl (by kernel_rfl) (by kernel_rfl) (by kernel_rfl) (fun _ _ _ h => h) (Or.inl ⟨by rfl, ?hy21zj⟩) hHeld ?rest21zj
          case hy21zj =>
            intro w hSw
            try dsimp only at hSw
            go_simp
            try with_reducible rfl
          try simp only [Act.put, List.setIfInBounds_toArray, List.set_cons_zero, List.set_cons_succ]
          refine wpAnyH_take (i := 22) (oi := { dst := some 147, op := Go.Op.move (Go.Operand.tmp 146), type := 4, pos := "law.go:147", after := #[{ on := 21, ground := Go.Ground.data }, { on := 19, ground := Go.Ground.chain }], guard := none }) (v := ?v22zj) rfl (by kernel_rfl) (by kernel_rfl) (by kernel_rfl) (fun _ _ _ h => h) (Or.inl ⟨by rfl, ?hy22zj⟩) hHeld ?rest22zj
          case hy22zj =>
            intro w hSw
            try dsimp only at hSw
            go_simp
            try with_reducible rfl
          try simp only [Act.put, List.setIfInBounds_toArray, List.set_cons_zero, List.set_cons_succ]
          refine wpAnyH_take (i := 23) (oi := { dst := some 148, op := Go.Op.load 24 (Go.Operand.tmp 11), type := 24, pos := "law.go:147", after := #[{ on := 22, ground := Go.Ground.guard }], guard := some (22, false) }) (v := ?v23zj) rfl (by kernel_rfl) (by kernel_rfl) (by kernel_rfl) (fun _ _ _ h => h) (Or.inl ⟨by rfl, ?hy23zj⟩) hHeld ?rest23zj
          case hy23zj =>
            intro w hSw
            try dsimp only at hSw
            go_simp
            try with_reducible rfl
          try simp only [Act.put, List.setIfInBounds_toArray, List.set_cons_zero, List.set_cons_succ]
          refine wpAnyH_take (i := 24) (oi := { dst := some 149, op := Go.Op.fieldAddr 24 (Go.Operand.tmp 2) 0, type := 0, pos := "law.go:147", after := #[{ on := 22, ground := Go.Ground.guard }], guard := some (22, false) }) (v := ?v24zj) rfl (by kernel_rfl) (by kernel_rfl) (by kernel_rfl) (fun _ _ _ h => h) (Or.inl ⟨by rfl, ?hy24zj⟩) hHeld ?rest24zj
          case hy24zj =>
            intro w hSw
            try dsimp only at hSw
            go_simp
            try with_reducible rfl
          try simp only [Act.put, List.setIfInBounds_toArray, List.set_cons_zero, List.set_cons_succ]
          refine wpAnyH_take (i := 25) (oi := { dst := some 150, op := Go.Op.load 3 (Go.Operand.tmp 149), type := 3, pos := "law.go:147", after := #[{ on := 24, ground := Go.Ground.data }, { on := 22, ground := Go.Ground.guard }], guard := some (22, false) }) (v := ?v25zj) rfl (by kernel_rfl) (by kernel_rfl) (by kernel_rfl) (fun _ _ _ h => h) (Or.inl ⟨by rfl, ?hy25zj⟩) hHeld ?rest25zj
          case hy25zj =>
            intro w hSw
            try dsimp only at hSw
            go_simp
            try with_reducible rfl
          try simp only [Act.put, List.setIfInBounds_toArray, List.set_cons_zero, List.set_cons_succ]
          refine wpAnyH_take (i := 26) (oi := { dst := some 151, op := Go.Op.fieldAddr 24 (Go.Operand.tmp 2) 1, type := 0, pos := "law.go:147", after := #[{ on := 22, ground := Go.Ground.guard }], guard := some (22, false) }) (v := ?v26zj) rfl (by kernel_rfl) (by kernel_rfl) (by kernel_rfl) (fun _ _ _ h => h) (Or.inl ⟨by rfl, ?hy26zj⟩) hHeld ?rest26zj
          case hy26zj =>
            intro w hSw
            try dsimp only at hSw
            go_simp
            try with_reducible rfl
          try simp only [Act.put, List.setIfInBounds_toArray, List.set_cons_zero, List.set_cons_succ]
          refine wpAnyH_take (i := 27) (oi := { dst := some 152, op := Go.Op.load 22 (Go.Operand.tmp 151), type := 22, pos := "law.go:147", after := #[{ on := 26, ground := Go.Ground.data }, { on := 22, ground := Go.Ground.guard }], guard := some (22, false) }) (v := ?v27zj) rfl (by kernel_rfl) (by kernel_rfl) (by kernel_rfl) (fun _ _ _ h => h) (Or.inl ⟨by rfl, ?hy27zj⟩) hHeld ?rest27zj
          case hy27zj =>
            intro w hSw
            try dsimp only at hSw
            go_simp
            try with_reducible rfl
          try simp only [Act.put, List.setIfInBounds_toArray, List.set_cons_zero, List.set_cons_succ]
          refine wpAnyH_take (i := 28) (oi := { dst := some 153, op := Go.Op.fieldAddr 24 (Go.Operand.tmp 3) 1, type := 0, pos := "law.go:147", after := #[{ on := 22, ground := Go.Ground.guard }], guard := some (22, false) }) (v := ?v28zj) rfl (by kernel_rfl) (by kernel_rfl) (by kernel_rfl) (fun _ _ _ h => h) (Or.inl ⟨by rfl, ?hy28zj⟩) hHeld ?rest28zj
          case hy28zj =>
            intro w hSw
            try dsimp only at hSw
            go_simp
            try with_reducible rfl
          try simp only [Act.put, List.setIfInBounds_toArray, List.set_cons_zero, List.set_cons_succ]
          refine wpAnyH_take (i := 29) (oi := { dst := some 154, op := Go.Op.load 22 (Go.Operand.tmp 153), type := 22, pos := "law.go:147", after := #[{ on := 28, ground := Go.Ground.data }, { on := 22, ground := Go.Ground.guard }], guard := some (22, false) }) (v := ?v29zj) rfl (by kernel_rfl) (by kernel_rfl) (by kernel_rfl) (fun _ _ _ h => h) (Or.inl ⟨by rfl, ?hy29zj⟩) hHeld ?rest29zj
          case hy29zj =>
            intro w hSw
            try dsimp only at hSw
            go_simp
            try with_reducible rfl
          try simp only [Act.put, List.setIfInBounds_toArray, List.set_cons_zero, List.set_cons_succ]
          refine wpAnyH_ready (rs := [30]) (by kernel_rfl) (by simp) ?_
          refine AllReadyH.cons (o := { dst := some 155, op := Go.Op.call { callee := Go.Callee.value (Go.Operand.func 17), args := #[Go.Operand.tmp 150, Go.Operand.tmp 152, Go.Operand.tmp 154, Go.Operand.const (Go.Value.bool false), Go.Operand.const (Go.Value.bool true), Go.Operand.const (Go.Value.bool false), Go.Operand.const (Go.Value.bool false)], argTypes := #[3, 22, 22, 4, 4, 4, 4] }, type := 31, pos := "law.go:147", after := #[{ on := 25, ground := Go.Ground.data }, { on := 27, ground := Go.Ground.data }, { on := 29, ground := Go.Ground.data }, { on := 22, ground := Go.Ground.chain }, { on := 22, ground := Go.Ground.guard }], guard := some (22, false) }) rfl (fun K hK => ?_) AllReadyH.nil
          go_simp
          refine (joinQ false true false false (va.set.below h4.1).sl (vb.set.below h4.1).sl s1.wds s2.wds hNb HK.out).mono ?_
          unfold SetQ
          rintro e j2 ⟨gj2, cj2, Rj2, rfl, hj2, hwj2, hbj2, hD2⟩
          have h5 : Below r1.heap.size r1 j2 ∧ j2.cell? ⟨w.heap.size, 0, none⟩ = some (.int .i64 (N : Int)) ∧ j2.cell? ⟨w.heap.size, 1, none⟩ = some (.slice a n c) ∧ j2.cell? ⟨(w.heap.size + 1), 1, none⟩ = some (.slice a2 n c2) ∧ j2.cell? ⟨v0.heap.size, 0, none⟩ = some (.int .i64 (N : Int)) ∧ j2.cell? ⟨v0.heap.size, 1, none⟩ = some (.slice go0 n co0) ∧ j2.cell? ⟨v1.heap.size, 0, none⟩ = some (.int .i64 (N : Int)) ∧ j2.cell? ⟨v1.heap.size, 1, none⟩ = some (.slice go1 n co1) ∧ j2.cell? ⟨v2.heap.size, 0, none⟩ = some (.int .i64 (N : Int)) ∧ j2.cell? ⟨v2.heap.size, 1, none⟩ = some (.slice go2 n co2) := ⟨bstep h4.1 hD2, (va.two.step (bstep h4.1 hD2)).c0, (va.two.step (bstep h4.1 hD2)).c1, (vb.two.step (bstep h4.1 hD2)).c1, (vo0.two.step (bstep h4.1 hD2)).c0, (vo0.two.step (bstep h4.1 hD2)).c1, (vo1.two.step (bstep h4.1 hD2)).c0, (vo1.two.step (bstep h4.1 hD2)).c1, (vo2.two.step (bstep h4.1 hD2)).c0, (vo2.two.step (bstep h4.1 hD2)).c1⟩
          have HE2 := Lib.hid (same_r (vo2.set.sl.1) hj2.1 HB2.out.1 hwj2 fun i => by rw [HB2.out.2, hbj2]; exact (bits_j hr1 hr2 i).2.2)
          clear hwj2 hbj2
          go_wp2_with fail
          refine hK.out _ _ (h5) (fun hHeld => ?_)
          clear hK K
          try simp only [Act.put, List.setIfInBounds_toArray, List.set_cons_zero, List.set_cons_succ]
          refine wpAnyH_ready (rs := [31]) (by kernel_rfl) (by simp) ?_
          refine AllReadyH.cons (o := { dst := some 156, op := Go.Op.call { callee := Go.Callee.value (Go.Operand.func 51), args := #[Go.Operand.tmp 148, Go.Operand.tmp 155], argTypes := #[24, 31] }, type := 4, pos := "law.go:147", after := #[{ on := 23, ground := Go.Ground.data }, { on := 30, ground := Go.Ground.data }, { on := 30, ground := Go.Ground.chain }, { on := 22, ground := Go.Ground.guard }], guard := some (22, false) }) rfl (fun K hK => ?_) AllReadyH.nil
          go_simp
          refine (is_yes (vo2.set.below h5.1).sl hj2 HE2.out).mono ?_
          rintro e i2 ⟨rfl, hE2⟩
          have h6 : Below r1.heap.size r1 i2 ∧ i2.cell? ⟨w.heap.size, 0, none⟩ = some (.int .i64 (N : Int)) ∧ i2.cell? ⟨w.heap.size, 1, none⟩ = some (.slice a n c) ∧ i2.cell? ⟨(w.heap.size + 1), 1, none⟩ = some (.slice a2 n c2) ∧ i2.cell? ⟨v0.heap.size, 0, none⟩ = some (.int .i64 (N : Int)) ∧ i2.cell? ⟨v0.heap.size, 1, none⟩ = some (.slice go0 n co0) ∧ i2.cell? ⟨v1.heap.size, 0, none⟩ = some (.int .i64 (N : Int)) ∧ i2.cell? ⟨v1.heap.size, 1, none⟩ = some (.slice go1 n co1) ∧ i2.cell? ⟨v2.heap.size, 0, none⟩ = some (.int .i64 (N : Int)) ∧ i2.cell? ⟨v2.heap.size, 1, none⟩ = some (.slice go2 n co2) := ⟨bstep h5.1 hE2, (va.two.step (bstep h5.1 hE2)).c0, (va.two.step (bstep h5.1 hE2)).c1, (vb.two.step (bstep h5.1 hE2)).c1, (vo0.two.step (bstep h5.1 hE2)).c0, (vo0.two.step (bstep h5.1 hE2)).c1, (vo1.two.step (bstep h5.1 hE2)).c0, (vo1.two.step (bstep h5.1 hE2)).c1, (vo2.two.step (bstep h5.1 hE2)).c0, (vo2.two.step (bstep h5.1 hE2)).c1⟩
          clear hj2 HE2
          go_wp2_with fail
          refine hK.out _ _ (h6) (fun hHeld => ?_)
          clear hK K
          try simp only [Act.put, List.setIfInBounds_toArray, List.set_cons_zero, List.set_cons_succ]
          refine wpAnyH_take (i := 32) (oi := { dst := some 157, op := Go.Op.unOp Go.UnOp.not 4 (Go.Operand.tmp 156), type := 4, pos := "law.go:147", after := #[{ on := 31, ground := Go.Ground.data }, { on := 22, ground := Go.Ground.guard }], guard := some (22, false) }) (v := ?v32zj) rfl (by kernel_rfl) (by kernel_rfl) (by kernel_rfl) (fun _ _ _ h => h) (Or.inl ⟨by rfl, ?hy32zj⟩) hHeld ?rest32zj
          case hy32zj =>
            intro w hSw
            try dsimp only at hSw
            go_simp
            try with_reducible rfl
          try simp only [Act.put, List.setIfInBounds_toArray, List.set_cons_zero, List.set_cons_succ]
          refine wpAnyH_take (i := 33) (oi := { dst := some 158, op := Go.Op.pick (Go.Operand.tmp 147) (Go.Operand.const (Go.Value.bool true)) (Go.Operand.tmp 157), type := 4, pos := "law.go:147", after := #[{ on := 22, ground := Go.Ground.data }, { on := 32, ground := Go.Ground.data }], guard := none }) (v := ?v33zj) rfl (by kernel_rfl) (by kernel_rfl) (by kernel_rfl) (fun _ _ _ h => h) (Or.inl ⟨by rfl, ?hy33zj⟩) hHeld ?rest33zj
          case hy33zj =>
            intro w hSw
            try dsimp only at hSw
            go_simp
            try with_reducible rfl
          try simp only [Act.put, List.setIfInBounds_toArray, List.set_cons_zero, List.set_cons_succ]
          refine wpAnyH_done (by kernel_rfl) ?_ _
          refine NoPanic.normal ?_
          have hb9 := h6.1
          clear h0 h1 h2 h3 h4 h5 h6
          have vx := vx.step hb9
          have vy := vy.step hb9
          have va := va.step hb9
          have vb := vb.step hb9
          have vo0 := vo0.step hb9
          have vo1 := vo1.step hb9
          have vo2 := vo2.step hb9
          have hox := ownsRow_below hox hb9
          have hoy := ownsRow_below hoy hb9
          have ho0 := ownsRow_below ho0 hb9
          have ho1 := ownsRow_below ho1 hb9
          have ho2 := ownsRow_below ho2 hb9
          clear hb9
          have dvx1 := vx.two.c1
          have dvy1 := vy.two.c1
          have dvo01 := vo0.two.c1
          have dvo11 := vo1.two.c1
          have dvo21 := vo2.two.c1
          have hC5 : Chain w.heap.size [(g, n, c3, l), (g2, n, c4, l2), (go0, n, co0, Ro0), (go1, n, co1, Ro1), (go2, n, co2, Ro2)] _ := HC.out
          have hn9 : n ≤ 100000 := by omega
          have hox := own_cut s1.sl.1 hox
          have hoy := own_cut s2.sl.1 hoy
          have q := fun cs hcs => apart_list i2 [(g, n, c3, l), (g2, n, c4, l2), (go0, n, co0, Ro0), (go1, n, co1, Ro1), (go2, n, co2, Ro2)] w.heap.size _ 5 cs hC5 (by rintro t ht; simp only [List.mem_cons, List.not_mem_nil, or_false] at ht; rcases ht with rfl | rfl | rfl | rfl | rfl <;> first | exact hox | exact hoy | exact ho0 | exact ho1 | exact ho2) (by rintro t ht; simp only [List.mem_cons, List.not_mem_nil, or_false] at ht; rcases ht with rfl | rfl | rfl | rfl | rfl <;> exact hn9) rfl (by omega) (by omega) vx.bel.size hcs
          clear hC5 HC
          go_wp2_with fail
          refine (q _ rfl).mono ?_
          rintro e u9 ⟨rfl, hE9⟩
          go_wp2_with fail
          go_ret
          exact ⟨rfl, vx.bel.trans hE9⟩
        · have HX := Lib.hid (show XJ 51 N M l l2 from Or.inr ⟨rfl, hr1, hr2, hNM⟩)
          clear hR1 hR2 hm1 hm2
          have dvx0 := vx.two.c0
          have dvx1 := vx.two.c1
          have dvy0 := vy.two.c0
          have dvy1 := vy.two.c1
          have q := orX' _ N M 51 g g2 n c3 n2 c4 l l2 vx.set vy.set HX.out
          unfold SetX at q
          go_wp2_with fail
          refine q.mono ?_
          rintro e v0 ⟨go0, co0, rfl, -, hD⟩
          have hA9 : Below v0.heap.size v0 (v0.alloc (.cells #[.int .i64 0, .slice go0 0 co0] 24)) := (Below.refl _ _).alloc (Nat.le_refl _) _
          have hz0 := Two.new v0 24 (.int .i64 0) (.slice go0 0 co0)
          have vx := (vx.step hD).step hA9
          have vy := (vy.step hD).step hA9
          have va := (va.step hD).step hA9
          have vb := (vb.step hD).step hA9
          have hox := ownsRow_below (ownsRow_below hox hD) hA9
          have hoy := ownsRow_below (ownsRow_below hoy hD) hA9
          clear q hA9 hD dvx0 dvx1 dvy0 dvy1
          have dvx0 := vx.two.c0
          have dvx1 := vx.two.c1
          have dvy0 := vy.two.c0
          have dvy1 := vy.two.c1
          have q := andX' _ N M 51 g g2 n c3 n2 c4 l l2 vx.set vy.set HX.out
          unfold SetX at q
          go_wp2_with fail
          refine q.mono ?_
          rintro e v1 ⟨go1, co1, rfl, -, hD⟩
          have hA9 : Below v1.heap.size v1 (v1.alloc (.cells #[.int .i64 0, .slice go1 0 co1] 24)) := (Below.refl _ _).alloc (Nat.le_refl _) _
          have hz1 := Two.new v1 24 (.int .i64 0) (.slice go1 0 co1)
          have vx := (vx.step hD).step hA9
          have vy := (vy.step hD).step hA9
          have va := (va.step hD).step hA9
          have vb := (vb.step hD).step hA9
          have hox := ownsRow_below (ownsRow_below hox hD) hA9
          have hoy := ownsRow_below (ownsRow_below hoy hD) hA9
          have hz0 := (hz0.step hD).step hA9
          clear q hA9 hD dvx0 dvx1 dvy0 dvy1
          have dvx0 := vx.two.c0
          have dvx1 := vx.two.c1
          have dvy0 := vy.two.c0
          have dvy1 := vy.two.c1
          have q := minusX' _ N M 51 g g2 n c3 n2 c4 l l2 vx.set vy.set HX.out
          unfold SetX at q
          go_wp2_with fail
          refine q.mono ?_
          rintro e v2 ⟨go2, co2, rfl, -, hD⟩
          have hA9 : Below v2.heap.size v2 (v2.alloc (.cells #[.int .i64 0, .slice go2 0 co2] 24)) := (Below.refl _ _).alloc (Nat.le_refl _) _
          have hz2 := Two.new v2 24 (.int .i64 0) (.slice go2 0 co2)
          have vx := (vx.step hD).step hA9
          have vy := (vy.step hD).step hA9
          have va := (va.step hD).step hA9
          have vb := (vb.step hD).step hA9
          have hox := ownsRow_below (ownsRow_below hox hD) hA9
          have hoy := ownsRow_below (ownsRow_below hoy hD) hA9
          have hz0 := (hz0.step hD).step hA9
          have hz1 := (hz1.step hD).step hA9
          clear q hA9 hD dvx0 dvx1 dvy0 dvy1
          have dvx1 := vx.two.c1
          have dva1 := va.two.c1
          have q := keptN_any _ g a c3 n c l w.heap.size hox va.set.sl (by omega)
          go_wp2_with fail
          refine q.mono ?_
          rintro e u0 ⟨rfl, hD⟩
          have vx := vx.step hD
          have vy := vy.step hD
          have va := va.step hD
          have vb := vb.step hD
          have hz0 := hz0.step hD
          have hz1 := hz1.step hD
          have hz2 := hz2.step hD
          have hox := ownsRow_below hox hD
          have hoy := ownsRow_below hoy hD
          clear q hD dvx1 dva1
          have dvy1 := vy.two.c1
          have dvb1 := vb.two.c1
          have q := keptN_any _ g2 a2 c4 n2 c2 l2 w.heap.size hoy vb.set.sl (by omega)
          go_wp2_with fail
          refine q.mono ?_
          rintro e u1 ⟨rfl, hD⟩
          have vx := vx.step hD
          have vy := vy.step hD
          have va := va.step hD
          have vb := vb.step hD
          have hz0 := hz0.step hD
          have hz1 := hz1.step hD
          have hz2 := hz2.step hD
          have hox := ownsRow_below hox hD
          have hoy := ownsRow_below hoy hD
          clear q hD dvy1 dvb1
          have dva0 := va.two.c0
          have dva1 := va.two.c1
          have q := rrB va.set hr1
          go_wp2_with fail
          refine q.mono ?_
          rintro e r0 ⟨rfl, hD⟩
          have vx := vx.step hD
          have vy := vy.step hD
          have va := va.step hD
          have vb := vb.step hD
          have hz0 := hz0.step hD
          have hz1 := hz1.step hD
          have hz2 := hz2.step hD
          clear q hD dva0 dva1
          have dvb0 := vb.two.c0
          have dvb1 := vb.two.c1
          have q := rrB vb.set hr2
          go_wp2_with fail
          refine q.mono ?_
          rintro e r1 ⟨rfl, hD⟩
          have vx := vx.step hD
          have vy := vy.step hD
          have va := va.step hD
          have vb := vb.step hD
          have hz0 := hz0.step hD
          have hz1 := hz1.step hD
          have hz2 := hz2.step hD
          clear q hD dvb0 dvb1
          have n1 : (N != M) = true := by simpa using hNM
          have dva0 := va.two.c0
          have dvb0 := vb.two.c0
          have e00 := hz0.c0
          have e01 := hz0.c1
          have e10 := hz1.c0
          have e11 := hz1.c1
          have e20 := hz2.c0
          have e21 := hz2.c1
          go_wp2_with fail
          go_ret
          exact ⟨rfl, vx.bel⟩
end Go.Proofs.YtcdjfgkjllonhaaDoor
