/-
  The contract of bits' copyFor: a copy of a right set, or an error.
-/
import Derived.Test.YtcdjfgkjllonhaaDoorBzi
namespace Go.Proofs.YtcdjfgkjllonhaaDoor
open Go.RowKit Go.Shelf

theorem below_yes (i n : Int) (h : 0 ≤ i ∧ i < n) (w : World) : Calls Tryd.prog 65 #[.int .i64 i, .int .i64 n] w fun e w' => e = .returned (.bool true) ∧ w' = w := by
  have := below_any i n w
  rw [decide_eq_true h.1, decide_eq_true h.2] at this
  exact this
theorem below_no (i n : Int) (h : i < 0 ∨ n ≤ i) (w : World) : Calls Tryd.prog 65 #[.int .i64 i, .int .i64 n] w fun e w' => e = .returned (.bool false) ∧ w' = w := by
  have := below_any i n w
  have e : (decide (0 ≤ i) && decide (i < n)) = false := by
    rcases h with h | h
    · rw [decide_eq_false (show ¬ 0 ≤ i by omega), Bool.false_and]
    · rw [decide_eq_false (show ¬ i < n by omega), Bool.and_false]
  rw [e] at this
  exact this

/-- A copy of a set's words, with no error. -/
def CopyE (w : World) (N : Int) (n : Nat) (l : List Int) (e : Ending) (w' : World) : Prop :=
  ∃ g c', e = .returned (.tuple #[.agg #[.int .i64 N, .slice g n c'], .int .i64 0]) ∧ w'.ownsRow w.heap.size 30 1 (.slice g n c') n (l.map (Value.int .u64)) ∧ Below w.heap.size w w'
/-- Where a set lies boxed, and the result behind it. -/
theorem boxes (w : World) (x0 x1 : Value) : KSt w w.heap.size x0 x1 ((w.alloc (.cells #[x0, x1] 24)).alloc (.cells #[.int .i64 0, .slice none 0 0] 24)) ∧ Two ((w.alloc (.cells #[x0, x1] 24)).alloc (.cells #[.int .i64 0, .slice none 0 0] 24)) (w.heap.size + 1) 24 (.int .i64 0) (.slice none 0 0) := by
  have hT := (Two.new w 24 x0 x1).alloc (.cells #[.int .i64 0, .slice none 0 0] 24)
  exact ⟨⟨((Below.refl _ w).alloc (Nat.le_refl _) _).alloc (by rw [World.size_alloc]; omega) _, hT.c0, hT.c1⟩, Two.new2 _ _ _ _ _⟩
theorem Two.step {w w' : World} {b : Nat} {t : TypeId} {v0 v1 : Value} (h : Two w b t v0 v1) (hb : Below w.heap.size w w') : Two w' b t v0 v1 := h.below hb h.lt
/-- A store into the result. -/
theorem KSt.put {w0 : World} {v0 v1 : Value} {w' : World} (h : KSt w0 w0.heap.size v0 v1 w') (x y : Value) : KSt w0 w0.heap.size v0 v1 ((w'.setCell ⟨w0.heap.size + 1, 0, none⟩ x).setCell ⟨w0.heap.size + 1, 1, none⟩ y) :=
  ⟨(h.1.setCell (p := ⟨w0.heap.size + 1, 0, none⟩) (Nat.le_succ _) x).setCell (p := ⟨w0.heap.size + 1, 1, none⟩) (Nat.le_succ _) y,
   (World.cell?_setCell_other (w := w'.setCell ⟨w0.heap.size + 1, 0, none⟩ x) (a := ⟨w0.heap.size + 1, 1, none⟩) (b := ⟨w0.heap.size, 0, none⟩) (v := y) (by simp)).trans ((World.cell?_setCell_other (w := w') (a := ⟨w0.heap.size + 1, 0, none⟩) (b := ⟨w0.heap.size, 0, none⟩) (v := x) (by simp)).trans h.2.1),
   (World.cell?_setCell_other (w := w'.setCell ⟨w0.heap.size + 1, 0, none⟩ x) (a := ⟨w0.heap.size + 1, 1, none⟩) (b := ⟨w0.heap.size, 1, none⟩) (v := y) (by simp)).trans ((World.cell?_setCell_other (w := w') (a := ⟨w0.heap.size + 1, 0, none⟩) (b := ⟨w0.heap.size, 1, none⟩) (v := x) (by simp)).trans h.2.2)⟩

set_option maxRecDepth 100000 in
set_option maxHeartbeats 1000000 in
theorem copyX1_any (w : World) (N i : Int) (a : Option Addr) (n c : Nat) (l : List Int) (h : SetIn w N a n c l) (hr : rightB N l = false) :
    Calls Tryd.prog 71 #[.agg #[.int .i64 N, .slice a n c], .int .i64 i] w (SetX w 50) := by
  unfold SetX
  have qr := fun W (hb : Below w.heap.size w W) => right_any W N a n c l (h.below hb)
  simp only [hr] at qr
  obtain ⟨hS, hT⟩ := boxes w (.int .i64 N) (.slice a n c)
  clear h hr
  go_enter Tryd.func71, Tryd.ntmps71
  go_wp2_with fail
  refine (qr _ hS.1).mono ?_
  rintro e w2 ⟨rfl, hB2⟩
  have hS2 := hS.step hB2
  have hT2 := hT.step hB2
  have q0 := hT2.c0
  have q1 := hT2.c1
  have q2 := hT2.f0
  have q3 := hT2.f1
  have hQ3 := hT2.range_set (.int .i64 0) (.slice none 0 0)
  have hS3 := hS2.put (.int .i64 0) (.slice none 0 0)
  clear hS hT hB2
  go_wp2_with fail
  refine bodyPost_cell2 rfl (w.heap.size + 1) rfl _ _ hQ3 Tryd.underlying24 rfl (by kernel_rfl) rfl ?_
  exact ⟨none, 0, rfl, World.ownsRow_nil _ _ _ _, hS3.1⟩

set_option maxRecDepth 100000 in
set_option maxHeartbeats 1000000 in
theorem copyX2_any (w : World) (N i : Int) (a : Option Addr) (n c : Nat) (l : List Int) (h : SetIn w N a n c l) (hr : rightB N l = true) (hi : i < 0 ∨ N ≤ i) :
    Calls Tryd.prog 71 #[.agg #[.int .i64 N, .slice a n c], .int .i64 i] w (SetX w 2) := by
  unfold SetX
  have qr := fun W (hb : Below w.heap.size w W) => right_any W N a n c l (h.below hb)
  have qb := below_no i N hi
  simp only [hr] at qr
  obtain ⟨hS, hT⟩ := boxes w (.int .i64 N) (.slice a n c)
  clear h hr hi
  go_enter Tryd.func71, Tryd.ntmps71
  go_wp2_with fail
  refine (qr _ hS.1).mono ?_
  rintro e w2 ⟨rfl, hB2⟩
  have hS2 := hS.step hB2
  have hT2 := hT.step hB2
  have c0 := hS2.2.1
  have q0 := hT2.c0
  have q1 := hT2.c1
  have q2 := hT2.f0
  have q3 := hT2.f1
  have hQ3 := hT2.range_set (.int .i64 0) (.slice none 0 0)
  have hS3 := hS2.put (.int .i64 0) (.slice none 0 0)
  clear hS hT hB2
  go_wp2_with fail
  refine (qb _).mono ?_
  rintro e w3 ⟨rfl, hE⟩
  rw [hE]
  clear hE
  go_wp2_with fail
  refine bodyPost_cell2 rfl (w.heap.size + 1) rfl _ _ hQ3 Tryd.underlying24 rfl (by kernel_rfl) rfl ?_
  exact ⟨none, 0, rfl, World.ownsRow_nil _ _ _ _, hS3.1⟩

set_option maxRecDepth 100000 in
set_option maxHeartbeats 2000000 in
theorem copyOk_any (w : World) (N i : Int) (a : Option Addr) (n c : Nat) (l : List Int) (h : SetIn w N a n c l) (hr : rightB N l = true) (hi : 0 ≤ i ∧ i < N) :
    Calls Tryd.prog 71 #[.agg #[.int .i64 N, .slice a n c], .int .i64 i] w (CopyE w N n l) := by
  unfold CopyE
  have hnb : n ≤ 1000000 := by
    have h1 := (of_rightB hr).2.1
    have h2 := (of_rightB hr).2.2.1
    have h3 := h.sl.1
    omega
  have qr := fun W (hb : Below w.heap.size w W) => right_any W N a n c l (h.below hb)
  have qc := fun W (hb : Below w.heap.size w W) => clone_any W a n c l (h.sl.below hb) hnb
  have qb := below_yes i N hi
  simp only [hr] at qr
  obtain ⟨hS, hT⟩ := boxes w (.int .i64 N) (.slice a n c)
  clear h hr hi hnb
  go_enter Tryd.func71, Tryd.ntmps71
  go_wp2_with fail
  refine (qr _ hS.1).mono ?_
  rintro e w2 ⟨rfl, hB2⟩
  have hS2 := hS.step hB2
  have hT2 := hT.step hB2
  have c0 := hS2.2.1
  clear hS hT hB2
  go_wp2_with fail
  refine (qb _).mono ?_
  rintro e w3 ⟨rfl, hE⟩
  rw [hE]
  clear hE
  go_wp2_with fail
  refine wp_region_noPanic ?_
  refine wp_region_held_drew (S := fun w' => Below w.heap.size w w' ∧ w'.cell? ⟨w.heap.size, 0, none⟩ = some (.int .i64 N) ∧ w'.cell? ⟨w.heap.size, 1, none⟩ = some (.slice a n c)) (by kernel_rfl) (hS2.drew) (fun hHeld => ?_)
  refine wpAnyH_take (i := 0) (oi := { dst := some 18, op := Go.Op.fieldAddr 24 (Go.Operand.tmp 2) 0, type := 0, pos := "bits.go:225", after := #[], guard := none }) (v := ?v0a) rfl (by kernel_rfl) (by kernel_rfl) (by kernel_rfl) (fun _ _ _ h => h) (Or.inl ⟨by rfl, ?hy0a⟩) hHeld ?rest0a
  case hy0a =>
    intro w hSw
    try dsimp only at hSw
    go_simp
    try with_reducible rfl
  try simp only [Act.put, List.setIfInBounds_toArray, List.set_cons_zero, List.set_cons_succ]
  refine wpAnyH_take (i := 1) (oi := { dst := some 19, op := Go.Op.load 3 (Go.Operand.tmp 18), type := 3, pos := "bits.go:225", after := #[{ on := 0, ground := Go.Ground.data }], guard := none }) (v := ?v1a) rfl (by kernel_rfl) (by kernel_rfl) (by kernel_rfl) (fun _ _ _ h => h) (Or.inl ⟨by rfl, ?hy1a⟩) hHeld ?rest1a
  case hy1a =>
    intro w hSw
    try dsimp only at hSw
    go_simp
    try with_reducible rfl
  try simp only [Act.put, List.setIfInBounds_toArray, List.set_cons_zero, List.set_cons_succ]
  refine wpAnyH_take (i := 2) (oi := { dst := some 20, op := Go.Op.fieldAddr 24 (Go.Operand.tmp 2) 1, type := 0, pos := "bits.go:225", after := #[], guard := none }) (v := ?v2a) rfl (by kernel_rfl) (by kernel_rfl) (by kernel_rfl) (fun _ _ _ h => h) (Or.inl ⟨by rfl, ?hy2a⟩) hHeld ?rest2a
  case hy2a =>
    intro w hSw
    try dsimp only at hSw
    go_simp
    try with_reducible rfl
  try simp only [Act.put, List.setIfInBounds_toArray, List.set_cons_zero, List.set_cons_succ]
  refine wpAnyH_take (i := 3) (oi := { dst := some 21, op := Go.Op.load 22 (Go.Operand.tmp 20), type := 22, pos := "bits.go:225", after := #[{ on := 2, ground := Go.Ground.data }], guard := none }) (v := ?v3a) rfl (by kernel_rfl) (by kernel_rfl) (by kernel_rfl) (fun _ _ _ h => h) (Or.inl ⟨by rfl, ?hy3a⟩) hHeld ?rest3a
  case hy3a =>
    intro w hSw
    try dsimp only at hSw
    go_simp
    try with_reducible rfl
  try simp only [Act.put, List.setIfInBounds_toArray, List.set_cons_zero, List.set_cons_succ]
  refine wpAnyH_ready (rs := [4]) (by kernel_rfl) (by simp) ?_
  refine AllReadyH.cons (o := { dst := some 22, op := Go.Op.call { callee := Go.Callee.value (Go.Operand.func 78), args := #[Go.Operand.tmp 21], argTypes := #[22] }, type := 22, pos := "bits.go:225", after := #[{ on := 3, ground := Go.Ground.data }], guard := none }) rfl (fun K hK => ?_) AllReadyH.nil
  go_simp
  refine (qc _ hS2.drew.1).mono ?_
  rintro e w3 ⟨g, c3, rfl, hown, hD⟩
  have hS3 := hS2.drew.step hD
  have hT3 := (two_drew hT2).step hD
  have q0 := hT3.c0
  have q1 := hT3.c1
  have q2 := hT3.f0
  have q3 := hT3.f1
  have hQ4 := hT3.range_set (.int .i64 N) (.slice g n c3)
  have hS4 := hS3.put (.int .i64 N) (.slice g n c3)
  have hsz2 : w.heap.size + 1 < w2.drew.heap.size := hT2.lt
  have hown4 := own_set (own_set hown (w.heap.size + 1) 0 (.int .i64 N) hsz2) (w.heap.size + 1) 1 (.slice g n c3) hsz2
  have hown5 := own_base hown4 (hS2.1.size)
  go_wp2_with fail
  refine hK.out _ _ (hS3) (fun hHeld => ?_)
  clear hK K
  try simp only [Act.put, List.setIfInBounds_toArray, List.set_cons_zero, List.set_cons_succ]
  refine wpAnyH_take (i := 5) (oi := { dst := some 23, op := Go.Op.build 24 #[(0, Go.Operand.tmp 19), (1, Go.Operand.tmp 22)], type := 24, pos := "bits.go:225", after := #[{ on := 1, ground := Go.Ground.data }, { on := 4, ground := Go.Ground.data }], guard := none }) (v := ?v5a) rfl (by kernel_rfl) (by kernel_rfl) (by kernel_rfl) (fun _ _ _ h => h) (Or.inl ⟨by rfl, ?hy5a⟩) hHeld ?rest5a
  case hy5a =>
    intro w hSw
    try dsimp only at hSw
    go_simp
    try with_reducible rfl
  try simp only [Act.put, List.setIfInBounds_toArray, List.set_cons_zero, List.set_cons_succ]
  refine wpAnyH_ready (rs := [6]) (by kernel_rfl) (by simp) ?_
  refine AllReadyH.cons (o := { dst := none, op := Go.Op.store 24 (Go.Operand.tmp 4) (Go.Operand.tmp 23), type := 0, pos := "bits.go:225", after := #[{ on := 5, ground := Go.Ground.data }, { on := 4, ground := Go.Ground.chain }, { on := 0, ground := Go.Ground.phase }, { on := 1, ground := Go.Ground.phase }, { on := 2, ground := Go.Ground.phase }, { on := 3, ground := Go.Ground.phase }, { on := 4, ground := Go.Ground.phase }, { on := 5, ground := Go.Ground.phase }], guard := none }) rfl (fun K hK => ?_) AllReadyH.nil
  go_simp
  refine hK.out _ _ (hS4) (fun hHeld => ?_)
  clear hK K
  try simp only [Act.put, List.setIfInBounds_toArray, List.set_cons_zero, List.set_cons_succ]
  refine wpAnyH_take (i := 7) (oi := { dst := some 5, op := Go.Op.assign (Go.Operand.const (Go.Value.int Go.IntKind.i64 0)), type := 35, pos := "bits.go:225", after := #[{ on := 6, ground := Go.Ground.chain }, { on := 0, ground := Go.Ground.phase }, { on := 1, ground := Go.Ground.phase }, { on := 2, ground := Go.Ground.phase }, { on := 3, ground := Go.Ground.phase }, { on := 4, ground := Go.Ground.phase }, { on := 5, ground := Go.Ground.phase }, { on := 6, ground := Go.Ground.phase }], guard := none }) (v := ?v7a) rfl (by kernel_rfl) (by kernel_rfl) (by kernel_rfl) (fun _ _ _ h => h) (Or.inl ⟨by rfl, ?hy7a⟩) hHeld ?rest7a
  case hy7a =>
    intro w hSw
    try dsimp only at hSw
    go_simp
    try with_reducible rfl
  try simp only [Act.put, List.setIfInBounds_toArray, List.set_cons_zero, List.set_cons_succ]
  refine wpAnyH_done (by kernel_rfl) ?_ _
  refine NoPanic.normal ?_
  go_wp2_with fail
  refine bodyPost_cell2 rfl (w.heap.size + 1) rfl _ _ hQ4 Tryd.underlying24 rfl (by kernel_rfl) rfl ?_
  exact ⟨g, c3, rfl, hown5, hS4.1⟩
end Go.Proofs.YtcdjfgkjllonhaaDoor
