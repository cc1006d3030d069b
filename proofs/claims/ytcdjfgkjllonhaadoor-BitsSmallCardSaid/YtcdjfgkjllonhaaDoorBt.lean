/-
  The walk of tells, for any set and any integer.
-/
import Derived.Test.YtcdjfgkjllonhaaDoorBjs
import Derived.Deep.CutBlock
namespace Go.Proofs.YtcdjfgkjllonhaaDoor
open Go.RowKit Go.Shelf

/-- An answer in two values: the number and whether there is one. -/
def AsOk (r : Option Nat) (x : Int) (b : Bool) : Prop := x = (match r with | some m => (m : Int) | none => 0) ∧ b = r.isSome ∧ ∀ m, r = some m → m < 65536
theorem pairV_as (r : Option Nat) (h : ∀ m, r = some m → m < 65536) : ∃ x b, pairV r = .tuple #[.int .i64 x, .bool b] ∧ AsOk r x b := by
  cases r with
  | none => exact ⟨0, false, rfl, rfl, rfl, h⟩
  | some m => exact ⟨(m : Int), true, rfl, rfl, rfl, h⟩
theorem askY (W : World) (r : Option Nat) (x y : Int) (b : Bool) (h : AsOk r x b) (hy : y = orNo r) : Calls Tryd.prog 44 #[.int .i64 x, .bool b, .int .i64 y] W fun e w' => e = .returned (.bool true) ∧ Below W.heap.size W w' := by
  obtain ⟨hx, hb, hm⟩ := h
  subst hy hb
  have hm2 : ∀ m, r = some m → m ≤ 9223372036854775807 := fun m h => Nat.le_trans (Nat.le_of_lt (hm m h)) (by decide)
  have q := asked_any r r W hm2 hm2
  rw [decide_eq_true (rfl : r = r)] at q
  cases r with
  | none =>
    have e : x = 0 := hx
    subst e
    exact q.mono fun e w' ⟨he, hw⟩ => ⟨he, by rw [hw]; exact Below.refl _ _⟩
  | some m =>
    have e : x = (m : Int) := hx
    subst e
    exact q.mono fun e w' ⟨he, hw⟩ => ⟨he, by rw [hw]; exact Below.refl _ _⟩
theorem ef_small {N : Int} {l : List Int} {m : Nat} (h : bt (ef N l) m = true) : m < 65536 := by
  have h1 := @ef_len N l
  have h3 : m < 65536 := by
    rcases Nat.lt_or_ge m (64 * (ef N l).length) with h2 | h2
    · omega
    · rw [bt_out h2] at h; cases h
  exact h3
theorem selA (W : World) (N i : Int) (a : Option Addr) (n c : Nat) (l : List Int) (h : SetIn W N a n c l) (hi0 : -9223372036854775808 ≤ i) (hi1 : i ≤ 9223372036854775807) :
    Calls Tryd.prog 20 #[.agg #[.int .i64 N, .slice a n c], .int .i64 i] W fun e w' => ∃ x b, e = .returned (.tuple #[.int .i64 x, .bool b]) ∧ AsOk (selF (ef N l) i) x b ∧ Below W.heap.size W w' := by
  refine (select_any W N i a n c l h hi0 hi1).mono fun e w' ⟨he, hD⟩ => ?_
  obtain ⟨x, b, h1, h2⟩ := pairV_as (selF (ef N l) i) (fun m hm => by
    unfold selF at hm
    split at hm
    · exact ef_small (all_mem.1 (List.mem_of_getElem? hm))
    · cases hm)
  exact ⟨x, b, by rw [he, h1], h2, hD⟩
theorem nextA (W : World) (N i : Int) (a : Option Addr) (n c : Nat) (l : List Int) (h : SetIn W N a n c l) (hi0 : -9223372036854775808 ≤ i) (hi1 : i ≤ 9223372036854775807) :
    Calls Tryd.prog 26 #[.agg #[.int .i64 N, .slice a n c], .int .i64 i] W fun e w' => ∃ x b, e = .returned (.tuple #[.int .i64 x, .bool b]) ∧ (∃ r, NextS (ef N l) i r ∧ AsOk r x b) ∧ Below W.heap.size W w' := by
  refine (next_any W N i a n c l h hi0 hi1).mono fun e w' ⟨⟨r, hr, he⟩, hD⟩ => ?_
  obtain ⟨x, b, h1, h2⟩ := pairV_as r (fun m hm => by subst hm; exact ef_small hr.2.1)
  exact ⟨x, b, by rw [he, h1], ⟨r, hr, h2⟩, hD⟩
theorem befA (W : World) (N i : Int) (a : Option Addr) (n c : Nat) (l : List Int) (h : SetIn W N a n c l) (hi0 : -9223372036854775808 ≤ i) (hi1 : i ≤ 9223372036854775807) :
    Calls Tryd.prog 27 #[.agg #[.int .i64 N, .slice a n c], .int .i64 i] W fun e w' => ∃ x b, e = .returned (.tuple #[.int .i64 x, .bool b]) ∧ (∃ r, BefS (ef N l) i r ∧ AsOk r x b) ∧ Below W.heap.size W w' := by
  refine (before_any W N i a n c l h hi0 hi1).mono fun e w' ⟨⟨r, hr, he⟩, hD⟩ => ?_
  obtain ⟨x, b, h1, h2⟩ := pairV_as r (fun m hm => by subst hm; exact ef_small hr.2.1)
  exact ⟨x, b, by rw [he, h1], ⟨r, hr, h2⟩, hD⟩
theorem rnextA (W : World) (N i : Int) (a : Option Addr) (n c : Nat) (l : List Int) (h : SetIn W N a n c l) :
    Calls Tryd.prog 45 #[.agg #[.int .i64 N, .slice a n c], .int .i64 i] W fun e w' => ∃ y, e = .returned (.int .i64 y) ∧ (∃ r, NextS (ef N l) i r ∧ y = orNo r) ∧ Below W.heap.size W w' :=
  (rnext_any W N i a n c l h.sl h.wds h.high).mono fun _ _ ⟨⟨r, hr, he⟩, hD⟩ => ⟨_, he, ⟨r, hr, rfl⟩, hD⟩
theorem rbefA (W : World) (N i : Int) (a : Option Addr) (n c : Nat) (l : List Int) (h : SetIn W N a n c l) :
    Calls Tryd.prog 46 #[.agg #[.int .i64 N, .slice a n c], .int .i64 i] W fun e w' => ∃ y, e = .returned (.int .i64 y) ∧ (∃ r, BefS (ef N l) i r ∧ y = orNo r) ∧ Below W.heap.size W w' :=
  (rbefore_any W N i a n c l h.sl h.wds h.high).mono fun _ _ ⟨⟨r, hr, he⟩, hD⟩ => ⟨_, he, ⟨r, hr, rfl⟩, hD⟩
theorem askN (W : World) (E : List Int) (i x y : Int) (b : Bool) (h : ∃ r, NextS E i r ∧ AsOk r x b) (hy : ∃ r, NextS E i r ∧ y = orNo r) : Calls Tryd.prog 44 #[.int .i64 x, .bool b, .int .i64 y] W fun e w' => e = .returned (.bool true) ∧ Below W.heap.size W w' := by
  obtain ⟨r, hr, h⟩ := h
  obtain ⟨s, hs, hy⟩ := hy
  rw [← NextS.same hr hs] at hy
  exact askY W r x y b h hy
theorem askB (W : World) (E : List Int) (i x y : Int) (b : Bool) (h : ∃ r, BefS E i r ∧ AsOk r x b) (hy : ∃ r, BefS E i r ∧ y = orNo r) : Calls Tryd.prog 44 #[.int .i64 x, .bool b, .int .i64 y] W fun e w' => e = .returned (.bool true) ∧ Below W.heap.size W w' := by
  obtain ⟨r, hr, h⟩ := h
  obtain ⟨s, hs, hy⟩ := hy
  rw [← BefS.same hr hs] at hy
  exact askY W r x y b h hy
/-- Members and runs, with what reads them. -/
theorem memA (W : World) (N : Int) (a : Option Addr) (n c : Nat) (l : List Int) (h : SetIn W N a n c l) :
    Calls Tryd.prog 24 #[.agg #[.int .i64 N, .slice a n c]] W fun e w' => ∃ g k, e = .returned (.slice g (all (ef N l)).length k) ∧ Sl .i64 w' g (all (ef N l)).length k (ints (all (ef N l))) ∧ Below W.heap.size W w' :=
  (members_any W N a n c l h).mono fun _ _ ⟨g, k, he, ho, hD⟩ => ⟨g, k, he, own_sl ho, hD⟩
theorem rmemA (W : World) (N : Int) (a : Option Addr) (n c : Nat) (l : List Int) (h : SetIn W N a n c l) :
    Calls Tryd.prog 39 #[.agg #[.int .i64 N, .slice a n c]] W fun e w' => ∃ g k, e = .returned (.slice g (all (ef N l)).length k) ∧ Sl .i64 w' g (all (ef N l)).length k (ints (all (ef N l))) ∧ Below W.heap.size W w' :=
  (rmembers_any W N a n c l h.sl h.wds h.high).mono fun _ _ ⟨g, k, he, ho, hD⟩ => ⟨g, k, he, own_sl ho, hD⟩
theorem sameI_yes (W : World) (a a2 : Option Addr) (n c c2 : Nat) (L : List Int) (h : Sl .i64 W a n c L) (h2 : Sl .i64 W a2 n c2 L) : Calls Tryd.prog 42 #[.slice a n c, .slice a2 n c2] W fun e w' => e = .returned (.bool true) ∧ Below W.heap.size W w' :=
  (sameInts_any W a a2 n c n c2 L L h h2).mono fun _ _ ⟨he, hd⟩ => ⟨by rw [he, eqB_yes rfl], hd.below⟩
theorem sameR_yes (W : World) (b1 b2 : Nat) (a a2 : Option Addr) (c c2 : Nat) (E : List Int) (hE : E.length ≤ 1024) (h1 : W.ownsRow b1 50 2 (.slice a (runs E).length c) (runs E).length (pcs (runs E))) (h2 : W.ownsRow b2 50 2 (.slice a2 (runs E).length c2) (runs E).length (pcs (runs E))) :
    Calls Tryd.prog 47 #[.slice a (runs E).length c, .slice a2 (runs E).length c2] W fun e w' => e = .returned (.bool true) ∧ Below W.heap.size W w' :=
  (sameRuns_any W b1 b2 a a2 _ c _ c2 _ _ h1 h2 (by have := rn_len E (64 * E.length); unfold runs; omega)).mono fun _ _ ⟨he, hd⟩ => ⟨by rw [he, eqR_yes rfl], hd.below⟩

set_option maxRecDepth 100000 in
set_option maxHeartbeats 8000000 in
theorem tells_any (w : World) (hT : Tbz w) (N i : Int) (a : Option Addr) (n c : Nat) (l : List Int) (s1 : SetIn w N a n c l) (hi0 : -9223372036854775808 ≤ i) (hi1 : i ≤ 9223372036854775807) :
    Calls Tryd.prog 12 #[.agg #[.int .i64 N, .slice a n c], .int .i64 i] w fun e w' => e = .returned (.bool true) ∧ Below w.heap.size w w' := by
  obtain ⟨hB0, hTa⟩ := box1 w (.int .i64 N) (.slice a n c)
  have a0 := hTa.c0
  have a1 := hTa.c1
  have hn0 := s1.sl.2.2.1
  go_enter Tryd.func12, Tryd.ntmps12
  by_cases hlt : 20 < n
  · have d1 : decide ((20 : Int) < (n : Int)) = true := decide_eq_true (by omega)
    go_wp2_with fail
    go_ret
    exact ⟨rfl, hB0⟩
  have d1 : decide ((20 : Int) < (n : Int)) = false := decide_eq_false (by omega)
  go_upto_region 3 with fail
  clear a0 a1 d1
  obtain ⟨V0, hV0⟩ : ∃ V, V = (w.alloc (.cells #[.int .i64 N, .slice a n c] 24)) := ⟨_, rfl⟩
  rw [← hV0] at hB0 hTa ⊢
  clear hV0
  go_cut [5] from 19 to 25 (fun P wx => ∃ (xb : Nat) (g : Option Addr) (c3 : Nat), P = .pointer (some ⟨xb, 0, none⟩) ∧ Below w.heap.size w wx ∧ Two wx xb 24 (.int .i64 N) (.slice g n c3) ∧ wx.ownsRow w.heap.size 30 1 (.slice g (n + 12) c3) (n + 12) ((l ++ marksF markN 12).map (Value.int .u64)) ∧ Rng g w.heap.size wx.heap.size ∧ Two wx w.heap.size 24 (.int .i64 N) (.slice a n c))
  case first =>
    refine wp_region_noPanic ?_
    refine wp_region_held_drew (S := fun W => Below w.heap.size w W ∧ W.cell? ⟨w.heap.size, 0, none⟩ = some (.int .i64 N) ∧ W.cell? ⟨w.heap.size, 1, none⟩ = some (.slice a n c)) (by kernel_rfl) (⟨hB0.drew, (two_drew hTa).c0, (two_drew hTa).c1⟩) (fun hHeld => ?_)
    obtain ⟨x0, hx00⟩ : ∃ wz, wz = V0.drew := ⟨_, rfl⟩
    have hzx0 : V0.heap.size ≤ x0.heap.size := by rw [hx00]; exact Nat.le_refl _
    have hbx0 : Below w.heap.size w x0 := by rw [hx00]; exact hB0.drew
    have hTax0 : Two x0 w.heap.size 24 (.int .i64 N) (.slice a n c) := by rw [hx00]; exact two_drew hTa
    have hv1 := hTa.lt
    have hw0 := hbx0.size
    rw [← hx00] at hHeld ⊢
    clear hx00 hB0 hTa
    refine wpAnyH_take (i := 0) (oi := { dst := some 19, op := Go.Op.fieldAddr 24 (Go.Operand.tmp 2) 0, type := 0, pos := "law.go:59", after := #[], guard := none }) (v := ?v0x1) rfl (by kernel_rfl) (by kernel_rfl) (by kernel_rfl) (fun _ _ _ h => h) (Or.inl ⟨by rfl, ?hy0x1⟩) hHeld ?rest0x1
    case hy0x1 =>
      intro w hSw
      try dsimp only at hSw
      go_simp
      try with_reducible rfl
    try simp only [Act.put, List.setIfInBounds_toArray, List.set_cons_zero, List.set_cons_succ]
    refine wpAnyH_take (i := 1) (oi := { dst := some 20, op := Go.Op.load 3 (Go.Operand.tmp 19), type := 3, pos := "law.go:59", after := #[{ on := 0, ground := Go.Ground.data }], guard := none }) (v := ?v1x2) rfl (by kernel_rfl) (by kernel_rfl) (by kernel_rfl) (fun _ _ _ h => h) (Or.inl ⟨by rfl, ?hy1x2⟩) hHeld ?rest1x2
    case hy1x2 =>
      intro w hSw
      try dsimp only at hSw
      go_simp
      try with_reducible rfl
    try simp only [Act.put, List.setIfInBounds_toArray, List.set_cons_zero, List.set_cons_succ]
    refine wpAnyH_take (i := 2) (oi := { dst := some 21, op := Go.Op.fieldAddr 24 (Go.Operand.tmp 2) 1, type := 0, pos := "law.go:59", after := #[], guard := none }) (v := ?v2x3) rfl (by kernel_rfl) (by kernel_rfl) (by kernel_rfl) (fun _ _ _ h => h) (Or.inl ⟨by rfl, ?hy2x3⟩) hHeld ?rest2x3
    case hy2x3 =>
      intro w hSw
      try dsimp only at hSw
      go_simp
      try with_reducible rfl
    try simp only [Act.put, List.setIfInBounds_toArray, List.set_cons_zero, List.set_cons_succ]
    refine wpAnyH_take (i := 3) (oi := { dst := some 22, op := Go.Op.load 22 (Go.Operand.tmp 21), type := 22, pos := "law.go:59", after := #[{ on := 2, ground := Go.Ground.data }], guard := none }) (v := ?v3x4) rfl (by kernel_rfl) (by kernel_rfl) (by kernel_rfl) (fun _ _ _ h => h) (Or.inl ⟨by rfl, ?hy3x4⟩) hHeld ?rest3x4
    case hy3x4 =>
      intro w hSw
      try dsimp only at hSw
      go_simp
      try with_reducible rfl
    try simp only [Act.put, List.setIfInBounds_toArray, List.set_cons_zero, List.set_cons_succ]
    refine wpAnyH_ready (rs := [4, 6]) (by kernel_rfl) (by simp) ?_
    refine AllReadyH.cons (o := { dst := some 23, op := Go.Op.call { callee := Go.Callee.value (Go.Operand.func 38), args := #[Go.Operand.tmp 22], argTypes := #[22] }, type := 22, pos := "law.go:59", after := #[{ on := 3, ground := Go.Ground.data }], guard := none }) rfl (fun K hK => ?_) (AllReadyH.cons (o := { dst := some 5, op := Go.Op.alloc 24, type := 0, pos := "law.go:59", after := #[], guard := none }) rfl (fun K hK => ?_) AllReadyH.nil)
    · go_simp
      refine (lentN_any x0 a n c l (s1.sl.below hbx0) (by omega)).mono ?_
      unfold LentN
      rintro e x1 ⟨g4, c4, rfl, ho4x1, hDx1⟩
      have hbx1 := bstep hbx0 hDx1
      have hzx1 := hDx1.size
      have hTax1 := hTax0.step hDx1
      have hq4 := fun q e => own_blk ho4x1 (k := q) e
      have hR4 := Rng.own ho4x1
      go_wp2_with fail
      refine hK.out _ _ (⟨hbx1, hTax1.c0, hTax1.c1⟩) (fun hHeld => ?_)
      clear hK K
      try simp only [Act.put, List.setIfInBounds_toArray, List.set_cons_zero, List.set_cons_succ]
      refine wpAnyH_take (i := 5) (oi := { dst := some 24, op := Go.Op.build 24 #[(0, Go.Operand.tmp 20), (1, Go.Operand.tmp 23)], type := 24, pos := "law.go:59", after := #[{ on := 1, ground := Go.Ground.data }, { on := 4, ground := Go.Ground.data }], guard := none }) (v := ?v5x6) rfl (by kernel_rfl) (by kernel_rfl) (by kernel_rfl) (fun _ _ _ h => h) (Or.inl ⟨by rfl, ?hy5x6⟩) hHeld ?rest5x6
      case hy5x6 =>
        intro w hSw
        try dsimp only at hSw
        go_simp
        try with_reducible rfl
      try simp only [Act.put, List.setIfInBounds_toArray, List.set_cons_zero, List.set_cons_succ]
      refine wpAnyH_ready (rs := [6]) (by kernel_rfl) (by simp) ?_
      refine AllReadyH.cons (o := { dst := some 5, op := Go.Op.alloc 24, type := 0, pos := "law.go:59", after := #[], guard := none }) rfl (fun K hK => ?_) AllReadyH.nil
      · obtain ⟨x2, hwx2⟩ : ∃ wz, wz = x1.alloc (.cells #[.int .i64 0, .slice none 0 0] 24) := ⟨_, rfl⟩
        have hDx2 : Below x1.heap.size x1 x2 := by rw [hwx2]; exact (Below.refl _ _).alloc (Nat.le_refl _) _
        have ht6x2 : Two x2 x1.heap.size 24 (.int .i64 0) (.slice none 0 0) := by rw [hwx2]; exact Two.new _ _ _ _
        have hbx2 := bstep hbx1 hDx2
        have hzx2 := hDx2.size
        have hTax2 := hTax1.step hDx2
        have ho4x2 := ownsRow_below ho4x1 hDx2
        have hk6 := ht6x2.lt
        have hg6 : V0.heap.size ≤ x1.heap.size := by omega
        go_simp
        rw [← hwx2]
        clear hwx2
        refine hK.out _ _ (⟨hbx2, hTax2.c0, hTax2.c1⟩) (fun hHeld => ?_)
        clear hK K
        try simp only [Act.put, List.setIfInBounds_toArray, List.set_cons_zero, List.set_cons_succ]
        refine wpAnyH_ready (rs := [7]) (by kernel_rfl) (by simp) ?_
        refine AllReadyH.cons (o := { dst := none, op := Go.Op.store 24 (Go.Operand.tmp 5) (Go.Operand.tmp 24), type := 0, pos := "law.go:59", after := #[{ on := 6, ground := Go.Ground.data }, { on := 5, ground := Go.Ground.data }, { on := 4, ground := Go.Ground.chain }, { on := 0, ground := Go.Ground.phase }, { on := 1, ground := Go.Ground.phase }, { on := 2, ground := Go.Ground.phase }, { on := 3, ground := Go.Ground.phase }, { on := 4, ground := Go.Ground.phase }, { on := 5, ground := Go.Ground.phase }, { on := 6, ground := Go.Ground.phase }], guard := none }) rfl (fun K hK => ?_) AllReadyH.nil
        · have q0 := ht6x2.c0
          have q1 := ht6x2.c1
          have q2 := ht6x2.f0
          have q3 := ht6x2.f1
          obtain ⟨x3, hwx3⟩ : ∃ wz, wz = ((x2.setCell ⟨x1.heap.size, 0, none⟩ (.int .i64 N)).setCell ⟨x1.heap.size, 1, none⟩ (.slice g4 n c4)) := ⟨_, rfl⟩
          have hbx3 : Below w.heap.size w x3 := by rw [hwx3]; exact (hbx2.setCell (p := ⟨x1.heap.size, 0, none⟩) (by show w.heap.size ≤ x1.heap.size; omega) _).setCell (p := ⟨x1.heap.size, 1, none⟩) (by show w.heap.size ≤ x1.heap.size; omega) _
          have hzx3 : x2.heap.size ≤ x3.heap.size := by rw [hwx3]; simp
          have ht6x3 : Two x3 x1.heap.size 24 (.int .i64 N) (.slice g4 n c4) := by rw [hwx3]; exact put1 (put0 ht6x2 _) _
          have hTax3 : Two x3 w.heap.size 24 (.int .i64 N) (.slice a n c) := by rw [hwx3]; exact two_set (two_set hTax2 (by omega) _ _) (by omega) _ _
          have ho4x3 : x3.ownsRow x0.heap.size 30 1 (.slice g4 (n + 12) c4) (n + 12) ((l ++ marksF markN 12).map (Value.int .u64)) := by rw [hwx3]; exact own_nej (own_nej ho4x2 (fun q e => by have := hq4 q e; omega) _ _) (fun q e => by have := hq4 q e; omega) _ _
          go_simp
          rw [← hwx3]
          clear hwx3 q0 q1 q2 q3
          refine hK.out _ _ (⟨hbx3, hTax3.c0, hTax3.c1⟩) (fun hHeld => ?_)
          clear hK K
          try simp only [Act.put, List.setIfInBounds_toArray, List.set_cons_zero, List.set_cons_succ]
          refine wpAnyH_done (by kernel_rfl) ?_ _
          refine NoPanic.normal ?_
          go_wp2_with fail
          go_meet
          case rel => exact ⟨_, g4, c4, rfl, hbx3, ht6x3, own_base ho4x3 (by omega), (fun q e => by have := hR4 q e; omega), hTax3⟩
    · obtain ⟨x4, hwx4⟩ : ∃ wz, wz = x0.alloc (.cells #[.int .i64 0, .slice none 0 0] 24) := ⟨_, rfl⟩
      have hDx4 : Below x0.heap.size x0 x4 := by rw [hwx4]; exact (Below.refl _ _).alloc (Nat.le_refl _) _
      have ht6x4 : Two x4 x0.heap.size 24 (.int .i64 0) (.slice none 0 0) := by rw [hwx4]; exact Two.new _ _ _ _
      have hbx4 := bstep hbx0 hDx4
      have hzx4 := hDx4.size
      have hTax4 := hTax0.step hDx4
      have hk6 := ht6x4.lt
      have hg6 : V0.heap.size ≤ x0.heap.size := by omega
      go_simp
      rw [← hwx4]
      clear hwx4
      refine hK.out _ _ (⟨hbx4, hTax4.c0, hTax4.c1⟩) (fun hHeld => ?_)
      clear hK K
      try simp only [Act.put, List.setIfInBounds_toArray, List.set_cons_zero, List.set_cons_succ]
      refine wpAnyH_ready (rs := [4]) (by kernel_rfl) (by simp) ?_
      refine AllReadyH.cons (o := { dst := some 23, op := Go.Op.call { callee := Go.Callee.value (Go.Operand.func 38), args := #[Go.Operand.tmp 22], argTypes := #[22] }, type := 22, pos := "law.go:59", after := #[{ on := 3, ground := Go.Ground.data }], guard := none }) rfl (fun K hK => ?_) AllReadyH.nil
      · go_simp
        refine (lentN_any x4 a n c l (s1.sl.below hbx4) (by omega)).mono ?_
        unfold LentN
        rintro e x5 ⟨g4, c4, rfl, ho4x5, hDx5⟩
        have hbx5 := bstep hbx4 hDx5
        have hzx5 := hDx5.size
        have hTax5 := hTax4.step hDx5
        have ht6x5 := ht6x4.step hDx5
        have hq4 := fun q e => own_blk ho4x5 (k := q) e
        have hR4 := Rng.own ho4x5
        go_wp2_with fail
        refine hK.out _ _ (⟨hbx5, hTax5.c0, hTax5.c1⟩) (fun hHeld => ?_)
        clear hK K
        try simp only [Act.put, List.setIfInBounds_toArray, List.set_cons_zero, List.set_cons_succ]
        refine wpAnyH_take (i := 5) (oi := { dst := some 24, op := Go.Op.build 24 #[(0, Go.Operand.tmp 20), (1, Go.Operand.tmp 23)], type := 24, pos := "law.go:59", after := #[{ on := 1, ground := Go.Ground.data }, { on := 4, ground := Go.Ground.data }], guard := none }) (v := ?v5x11) rfl (by kernel_rfl) (by kernel_rfl) (by kernel_rfl) (fun _ _ _ h => h) (Or.inl ⟨by rfl, ?hy5x11⟩) hHeld ?rest5x11
        case hy5x11 =>
          intro w hSw
          try dsimp only at hSw
          go_simp
          try with_reducible rfl
        try simp only [Act.put, List.setIfInBounds_toArray, List.set_cons_zero, List.set_cons_succ]
        refine wpAnyH_ready (rs := [7]) (by kernel_rfl) (by simp) ?_
        refine AllReadyH.cons (o := { dst := none, op := Go.Op.store 24 (Go.Operand.tmp 5) (Go.Operand.tmp 24), type := 0, pos := "law.go:59", after := #[{ on := 6, ground := Go.Ground.data }, { on := 5, ground := Go.Ground.data }, { on := 4, ground := Go.Ground.chain }, { on := 0, ground := Go.Ground.phase }, { on := 1, ground := Go.Ground.phase }, { on := 2, ground := Go.Ground.phase }, { on := 3, ground := Go.Ground.phase }, { on := 4, ground := Go.Ground.phase }, { on := 5, ground := Go.Ground.phase }, { on := 6, ground := Go.Ground.phase }], guard := none }) rfl (fun K hK => ?_) AllReadyH.nil
        · have q0 := ht6x5.c0
          have q1 := ht6x5.c1
          have q2 := ht6x5.f0
          have q3 := ht6x5.f1
          obtain ⟨x6, hwx6⟩ : ∃ wz, wz = ((x5.setCell ⟨x0.heap.size, 0, none⟩ (.int .i64 N)).setCell ⟨x0.heap.size, 1, none⟩ (.slice g4 n c4)) := ⟨_, rfl⟩
          have hbx6 : Below w.heap.size w x6 := by rw [hwx6]; exact (hbx5.setCell (p := ⟨x0.heap.size, 0, none⟩) (by show w.heap.size ≤ x0.heap.size; omega) _).setCell (p := ⟨x0.heap.size, 1, none⟩) (by show w.heap.size ≤ x0.heap.size; omega) _
          have hzx6 : x5.heap.size ≤ x6.heap.size := by rw [hwx6]; simp
          have ht6x6 : Two x6 x0.heap.size 24 (.int .i64 N) (.slice g4 n c4) := by rw [hwx6]; exact put1 (put0 ht6x5 _) _
          have hTax6 : Two x6 w.heap.size 24 (.int .i64 N) (.slice a n c) := by rw [hwx6]; exact two_set (two_set hTax5 (by omega) _ _) (by omega) _ _
          have ho4x6 : x6.ownsRow x4.heap.size 30 1 (.slice g4 (n + 12) c4) (n + 12) ((l ++ marksF markN 12).map (Value.int .u64)) := by rw [hwx6]; exact own_nej (own_nej ho4x5 (fun q e => by have := hq4 q e; omega) _ _) (fun q e => by have := hq4 q e; omega) _ _
          go_simp
          rw [← hwx6]
          clear hwx6 q0 q1 q2 q3
          refine hK.out _ _ (⟨hbx6, hTax6.c0, hTax6.c1⟩) (fun hHeld => ?_)
          clear hK K
          try simp only [Act.put, List.setIfInBounds_toArray, List.set_cons_zero, List.set_cons_succ]
          refine wpAnyH_done (by kernel_rfl) ?_ _
          refine NoPanic.normal ?_
          go_wp2_with fail
          go_meet
          case rel => exact ⟨_, g4, c4, rfl, hbx6, ht6x6, own_base ho4x6 (by omega), (fun q e => by have := hR4 q e; omega), hTax6⟩
  case rest =>
    obtain ⟨xb, g, c3, rfl, bel, tX, oX, -, tA⟩ := hcut
    obtain ⟨V1, hV1⟩ : ∃ V, V = wc := ⟨_, rfl⟩
    rw [← hV1] at bel tX oX tA ⊢
    clear hB0 hTa hV1
    have tR := Two.new V1 31 (.int .i64 N) (.slice a n c)
    have hA9 : Below V1.heap.size V1 (V1.alloc (.cells #[.int .i64 N, .slice a n c] 31)) := (Below.refl _ _).alloc (Nat.le_refl _) _
    have dtA0 := tA.c0
    have dtA1 := tA.c1
    replace bel := bstep bel hA9
    replace tX := tX.step hA9
    replace tA := tA.step hA9
    replace oX := ownsRow_below oX hA9
    clear hA9
    have q := rmemA _ N a n c l (s1.below bel)
    go_wp2_with fail
    refine q.mono ?_
    rintro e v1 ⟨ga, gc, rfl, sM, hD⟩
    replace bel := bstep bel hD
    replace tX := tX.step hD
    replace tA := tA.step hD
    replace tR := tR.step hD
    replace oX := ownsRow_below oX hD
    clear q hD dtA0 dtA1
    have sX : SetIn _ N g n c3 l := ⟨lent_sl s1.sl.1 oX, s1.wds, s1.low, s1.high, hT.step bel⟩
    have dtX0 := tX.c0
    have dtX1 := tX.c1
    have q := selA _ N i g n c3 l sX hi0 hi1
    go_wp2_with fail
    refine q.mono ?_
    rintro e v2 ⟨xK, bK, rfl, hK, hD⟩
    replace bel := bstep bel hD
    replace tX := tX.step hD
    replace tA := tA.step hD
    replace tR := tR.step hD
    replace oX := ownsRow_below oX hD
    replace sM := sM.below hD
    have HK := Lib.hid hK
    clear q hD sX hK dtX0 dtX1
    go_upto_region 8 with fail
    go_cut [45] from 38 to 45 (fun P wx => P = .bool (decide (0 ≤ i) && decide (i < ((all (ef N l)).length : Int))) ∧ wx = v2)
    case first =>
      by_cases h0 : 0 ≤ i
      · by_cases h1 : i < ((all (ef N l)).length : Int)
        · go_wp2_with fail
          go_meet
          case rel => exact ⟨by rw [decide_eq_true h0, decide_eq_true h1]; rfl, rfl⟩
        · go_wp2_with fail
          go_meet
          case rel => exact ⟨by rw [decide_eq_true h0, decide_eq_false (by omega)]; rfl, rfl⟩
      · go_wp2_with fail
        go_meet
        case rel => exact ⟨by rw [decide_eq_false (by omega)]; rfl, rfl⟩
    case rest =>
      obtain ⟨rfl, hw⟩ := hcut
      rw [hw]
      clear hw
      go_upto_if 45 with fail
      go_cut [10] from 45 to 50 (fun P wx => ∃ y, P = .int .i64 y ∧ Hid (y = orNo (selF (ef N l) i)) ∧ wx = v2)
      case first =>
        by_cases h0 : 0 ≤ i ∧ i < ((all (ef N l)).length : Int)
        · obtain ⟨h0, h1⟩ := h0
          obtain ⟨k, hk⟩ : ∃ k : Nat, i = (k : Int) := ⟨i.toNat, by omega⟩
          subst hk
          have hk2 : k < (all (ef N l)).length := by omega
          obtain ⟨bq, oq, hq, hcell⟩ := sM.idx2 hk2
          have hv : Hid ((ints (all (ef N l)))[k]?.getD 0 = orNo (selF (ef N l) (k : Int))) := Lib.hid (by rw [ints_at hk2]; unfold selF; rw [if_pos h0, Int.toNat_natCast, List.getElem?_eq_getElem hk2]; rfl)
          obtain ⟨x, hx⟩ : ∃ x, x = (ints (all (ef N l)))[k]?.getD 0 := ⟨_, rfl⟩
          rw [← hx] at hcell hv
          subst hq
          clear hx
          have hd : (decide (0 ≤ (k : Int)) && decide ((k : Int) < ((all (ef N l)).length : Int))) = true := by rw [decide_eq_true h0, decide_eq_true h1]; rfl
          go_wp2_with fail
          go_meet
          case rel => exact ⟨x, rfl, hv, rfl⟩
        · have hd : (decide (0 ≤ i) && decide (i < ((all (ef N l)).length : Int))) = false := by simp only [Bool.and_eq_false_iff, decide_eq_false_iff_not]; omega
          have hv : Hid (-1 = orNo (selF (ef N l) i)) := Lib.hid (by
          unfold selF
          split
          · rw [List.getElem?_eq_none (by omega)]; rfl
          · rfl)
          go_wp2_with fail
          go_meet
          case rel => exact ⟨-1, rfl, hv, rfl⟩
      case rest =>
        obtain ⟨y, rfl, HY, hw⟩ := hcut
        rw [hw]
        clear hw
        have sX : SetIn _ N g n c3 l := ⟨lent_sl s1.sl.1 oX, s1.wds, s1.low, s1.high, hT.step bel⟩
        have dtX0 := tX.c0
        have dtX1 := tX.c1
        have q := nextA _ N i g n c3 l sX hi0 hi1
        go_wp2_with fail
        refine q.mono ?_
        rintro e v3 ⟨xN, bN, rfl, hN, hD⟩
        replace bel := bstep bel hD
        replace tX := tX.step hD
        replace tA := tA.step hD
        replace tR := tR.step hD
        replace oX := ownsRow_below oX hD
        replace sM := sM.below hD
        have HN := Lib.hid hN
        clear q hD sX hN dtX0 dtX1
        have sX : SetIn _ N g n c3 l := ⟨lent_sl s1.sl.1 oX, s1.wds, s1.low, s1.high, hT.step bel⟩
        have dtX0 := tX.c0
        have dtX1 := tX.c1
        have q := befA _ N i g n c3 l sX hi0 hi1
        go_wp2_with fail
        refine q.mono ?_
        rintro e v4 ⟨xB, bB, rfl, hB, hD⟩
        replace bel := bstep bel hD
        replace tX := tX.step hD
        replace tA := tA.step hD
        replace tR := tR.step hD
        replace oX := ownsRow_below oX hD
        replace sM := sM.below hD
        have HB := Lib.hid hB
        clear q hD sX hB dtX0 dtX1
        have sX : SetIn _ N g n c3 l := ⟨lent_sl s1.sl.1 oX, s1.wds, s1.low, s1.high, hT.step bel⟩
        go_upto_region 12 with fail
        have k0 : Below v4.heap.size v4 v4.drew ∧ v4.drew.cell? ⟨xb, 0, none⟩ = some (.int .i64 N) ∧ v4.drew.cell? ⟨xb, 1, none⟩ = some (.slice g n c3) ∧ v4.drew.cell? ⟨V1.heap.size, 0, none⟩ = some (.int .i64 N) ∧ v4.drew.cell? ⟨V1.heap.size, 1, none⟩ = some (.slice a n c) := ⟨(Below.refl _ _).drew, ((tX).step ((Below.refl _ _).drew)).c0, ((tX).step ((Below.refl _ _).drew)).c1, ((tR).step ((Below.refl _ _).drew)).c0, ((tR).step ((Below.refl _ _).drew)).c1⟩
        refine wp_region_noPanic ?_
        refine wp_region_held_drew (S := fun W => Below v4.heap.size v4 W ∧ W.cell? ⟨xb, 0, none⟩ = some (.int .i64 N) ∧ W.cell? ⟨xb, 1, none⟩ = some (.slice g n c3) ∧ W.cell? ⟨V1.heap.size, 0, none⟩ = some (.int .i64 N) ∧ W.cell? ⟨V1.heap.size, 1, none⟩ = some (.slice a n c)) (by kernel_rfl) (k0) (fun hHeld => ?_)
        refine wpAnyH_take (i := 0) (oi := { dst := some 62, op := Go.Op.load 24 (Go.Operand.tmp 5), type := 24, pos := "law.go:69", after := #[], guard := none }) (v := ?v0ta) rfl (by kernel_rfl) (by kernel_rfl) (by kernel_rfl) (fun _ _ _ h => h) (Or.inl ⟨by rfl, ?hy0ta⟩) hHeld ?rest0ta
        case hy0ta =>
          intro w hSw
          try dsimp only at hSw
          go_simp
          try with_reducible rfl
        try simp only [Act.put, List.setIfInBounds_toArray, List.set_cons_zero, List.set_cons_succ]
        refine wpAnyH_take (i := 2) (oi := { dst := some 64, op := Go.Op.load 31 (Go.Operand.tmp 6), type := 31, pos := "law.go:69", after := #[], guard := none }) (v := ?v2ta) rfl (by kernel_rfl) (by kernel_rfl) (by kernel_rfl) (fun _ _ _ h => h) (Or.inl ⟨by rfl, ?hy2ta⟩) hHeld ?rest2ta
        case hy2ta =>
          intro w hSw
          try dsimp only at hSw
          go_simp
          try with_reducible rfl
        try simp only [Act.put, List.setIfInBounds_toArray, List.set_cons_zero, List.set_cons_succ]
        refine wpAnyH_ready (rs := [1]) (by kernel_rfl) (by simp) ?_
        refine AllReadyH.cons (o := { dst := some 63, op := Go.Op.call { callee := Go.Callee.value (Go.Operand.func 34), args := #[Go.Operand.tmp 62], argTypes := #[24] }, type := 4, pos := "law.go:69", after := #[{ on := 0, ground := Go.Ground.data }], guard := none }) rfl (fun K hK => ?_) AllReadyH.nil
        go_simp
        refine (right_any _ N g n c3 l (sX.below k0.1)).mono ?_
        rintro e j0 ⟨rfl, hD0⟩
        have k1 : Below v4.heap.size v4 j0 ∧ j0.cell? ⟨xb, 0, none⟩ = some (.int .i64 N) ∧ j0.cell? ⟨xb, 1, none⟩ = some (.slice g n c3) ∧ j0.cell? ⟨V1.heap.size, 0, none⟩ = some (.int .i64 N) ∧ j0.cell? ⟨V1.heap.size, 1, none⟩ = some (.slice a n c) := ⟨bstep k0.1 hD0, ((tX).step (bstep k0.1 hD0)).c0, ((tX).step (bstep k0.1 hD0)).c1, ((tR).step (bstep k0.1 hD0)).c0, ((tR).step (bstep k0.1 hD0)).c1⟩
        go_wp2_with fail
        refine hK.out _ _ (k1) (fun hHeld => ?_)
        clear hK K
        try simp only [Act.put, List.setIfInBounds_toArray, List.set_cons_zero, List.set_cons_succ]
        refine wpAnyH_ready (rs := [3]) (by kernel_rfl) (by simp) ?_
        refine AllReadyH.cons (o := { dst := some 65, op := Go.Op.call { callee := Go.Callee.value (Go.Operand.func 40), args := #[Go.Operand.tmp 64], argTypes := #[31] }, type := 4, pos := "law.go:69", after := #[{ on := 2, ground := Go.Ground.data }, { on := 1, ground := Go.Ground.chain }], guard := none }) rfl (fun K hK => ?_) AllReadyH.nil
        go_simp
        refine (rrB ((s1.below bel).below k1.1) rfl).mono ?_
        rintro e j1 ⟨rfl, hD1⟩
        have k2 : Below v4.heap.size v4 j1 ∧ j1.cell? ⟨xb, 0, none⟩ = some (.int .i64 N) ∧ j1.cell? ⟨xb, 1, none⟩ = some (.slice g n c3) ∧ j1.cell? ⟨V1.heap.size, 0, none⟩ = some (.int .i64 N) ∧ j1.cell? ⟨V1.heap.size, 1, none⟩ = some (.slice a n c) := ⟨bstep k1.1 hD1, ((tX).step (bstep k1.1 hD1)).c0, ((tX).step (bstep k1.1 hD1)).c1, ((tR).step (bstep k1.1 hD1)).c0, ((tR).step (bstep k1.1 hD1)).c1⟩
        go_wp2_with fail
        refine hK.out _ _ (k2) (fun hHeld => ?_)
        clear hK K
        try simp only [Act.put, List.setIfInBounds_toArray, List.set_cons_zero, List.set_cons_succ]
        refine wpAnyH_take (i := 4) (oi := { dst := some 66, op := Go.Op.binOp Go.BinOp.neq 4 (Go.Operand.tmp 63) (Go.Operand.tmp 65) 4, type := 4, pos := "law.go:69", after := #[{ on := 1, ground := Go.Ground.data }, { on := 3, ground := Go.Ground.data }], guard := none }) (v := ?v4ta) rfl (by kernel_rfl) (by kernel_rfl) (by kernel_rfl) (fun _ _ _ h => h) (Or.inl ⟨by rfl, ?hy4ta⟩) hHeld ?rest4ta
        case hy4ta =>
          intro w hSw
          try dsimp only at hSw
          go_simp
          try with_reducible rfl
        try simp only [Act.put, List.setIfInBounds_toArray, List.set_cons_zero, List.set_cons_succ]
        refine wpAnyH_take (i := 5) (oi := { dst := some 67, op := Go.Op.move (Go.Operand.tmp 66), type := 4, pos := "law.go:69", after := #[{ on := 4, ground := Go.Ground.data }, { on := 3, ground := Go.Ground.chain }], guard := none }) (v := ?v5ta) rfl (by kernel_rfl) (by kernel_rfl) (by kernel_rfl) (fun _ _ _ h => h) (Or.inl ⟨by rfl, ?hy5ta⟩) hHeld ?rest5ta
        case hy5ta =>
          intro w hSw
          try dsimp only at hSw
          go_simp
          try with_reducible rfl
        try simp only [Act.put, List.setIfInBounds_toArray, List.set_cons_zero, List.set_cons_succ]
        refine wpAnyH_take (i := 6) (oi := { dst := some 68, op := Go.Op.load 24 (Go.Operand.tmp 5), type := 24, pos := "law.go:69", after := #[{ on := 5, ground := Go.Ground.guard }], guard := some (5, false) }) (v := ?v6ta) rfl (by kernel_rfl) (by kernel_rfl) (by kernel_rfl) (fun _ _ _ h => h) (Or.inl ⟨by rfl, ?hy6ta⟩) hHeld ?rest6ta
        case hy6ta =>
          intro w hSw
          try dsimp only at hSw
          go_simp
          try with_reducible rfl
        try simp only [Act.put, List.setIfInBounds_toArray, List.set_cons_zero, List.set_cons_succ]
        refine wpAnyH_take (i := 7) (oi := { dst := some 69, op := Go.Op.move (Go.Operand.tmp 1), type := 3, pos := "law.go:69", after := #[{ on := 5, ground := Go.Ground.guard }], guard := some (5, false) }) (v := ?v7ta) rfl (by kernel_rfl) (by kernel_rfl) (by kernel_rfl) (fun _ _ _ h => h) (Or.inl ⟨by rfl, ?hy7ta⟩) hHeld ?rest7ta
        case hy7ta =>
          intro w hSw
          try dsimp only at hSw
          go_simp
          try with_reducible rfl
        try simp only [Act.put, List.setIfInBounds_toArray, List.set_cons_zero, List.set_cons_succ]
        refine wpAnyH_take (i := 9) (oi := { dst := some 71, op := Go.Op.load 31 (Go.Operand.tmp 6), type := 31, pos := "law.go:69", after := #[{ on := 5, ground := Go.Ground.guard }], guard := some (5, false) }) (v := ?v9ta) rfl (by kernel_rfl) (by kernel_rfl) (by kernel_rfl) (fun _ _ _ h => h) (Or.inl ⟨by rfl, ?hy9ta⟩) hHeld ?rest9ta
        case hy9ta =>
          intro w hSw
          try dsimp only at hSw
          go_simp
          try with_reducible rfl
        try simp only [Act.put, List.setIfInBounds_toArray, List.set_cons_zero, List.set_cons_succ]
        refine wpAnyH_take (i := 10) (oi := { dst := some 72, op := Go.Op.move (Go.Operand.tmp 1), type := 3, pos := "law.go:69", after := #[{ on := 5, ground := Go.Ground.guard }], guard := some (5, false) }) (v := ?v10ta) rfl (by kernel_rfl) (by kernel_rfl) (by kernel_rfl) (fun _ _ _ h => h) (Or.inl ⟨by rfl, ?hy10ta⟩) hHeld ?rest10ta
        case hy10ta =>
          intro w hSw
          try dsimp only at hSw
          go_simp
          try with_reducible rfl
        try simp only [Act.put, List.setIfInBounds_toArray, List.set_cons_zero, List.set_cons_succ]
        refine wpAnyH_ready (rs := [8]) (by kernel_rfl) (by simp) ?_
        refine AllReadyH.cons (o := { dst := some 70, op := Go.Op.call { callee := Go.Callee.value (Go.Operand.func 28), args := #[Go.Operand.tmp 68, Go.Operand.tmp 69], argTypes := #[24, 3] }, type := 4, pos := "law.go:69", after := #[{ on := 6, ground := Go.Ground.data }, { on := 7, ground := Go.Ground.data }, { on := 5, ground := Go.Ground.chain }, { on := 5, ground := Go.Ground.guard }], guard := some (5, false) }) rfl (fun K hK => ?_) AllReadyH.nil
        go_simp
        refine (has_any _ N i g n c3 l (sX.below k2.1) hi0 hi1).mono ?_
        rintro e j2 ⟨rfl, hD2⟩
        have k3 : Below v4.heap.size v4 j2 ∧ j2.cell? ⟨xb, 0, none⟩ = some (.int .i64 N) ∧ j2.cell? ⟨xb, 1, none⟩ = some (.slice g n c3) ∧ j2.cell? ⟨V1.heap.size, 0, none⟩ = some (.int .i64 N) ∧ j2.cell? ⟨V1.heap.size, 1, none⟩ = some (.slice a n c) := ⟨bstep k2.1 hD2, ((tX).step (bstep k2.1 hD2)).c0, ((tX).step (bstep k2.1 hD2)).c1, ((tR).step (bstep k2.1 hD2)).c0, ((tR).step (bstep k2.1 hD2)).c1⟩
        go_wp2_with fail
        refine hK.out _ _ (k3) (fun hHeld => ?_)
        clear hK K
        try simp only [Act.put, List.setIfInBounds_toArray, List.set_cons_zero, List.set_cons_succ]
        refine wpAnyH_ready (rs := [11]) (by kernel_rfl) (by simp) ?_
        refine AllReadyH.cons (o := { dst := some 73, op := Go.Op.call { callee := Go.Callee.value (Go.Operand.func 41), args := #[Go.Operand.tmp 71, Go.Operand.tmp 72], argTypes := #[31, 3] }, type := 4, pos := "law.go:69", after := #[{ on := 9, ground := Go.Ground.data }, { on := 10, ground := Go.Ground.data }, { on := 8, ground := Go.Ground.chain }, { on := 5, ground := Go.Ground.guard }], guard := some (5, false) }) rfl (fun K hK => ?_) AllReadyH.nil
        go_simp
        refine (rhas_any _ N i a n c l ((s1.below bel).below k3.1).sl s1.wds s1.high).mono ?_
        rintro e j3 ⟨rfl, hD3⟩
        have k4 : Below v4.heap.size v4 j3 ∧ j3.cell? ⟨xb, 0, none⟩ = some (.int .i64 N) ∧ j3.cell? ⟨xb, 1, none⟩ = some (.slice g n c3) ∧ j3.cell? ⟨V1.heap.size, 0, none⟩ = some (.int .i64 N) ∧ j3.cell? ⟨V1.heap.size, 1, none⟩ = some (.slice a n c) := ⟨bstep k3.1 hD3, ((tX).step (bstep k3.1 hD3)).c0, ((tX).step (bstep k3.1 hD3)).c1, ((tR).step (bstep k3.1 hD3)).c0, ((tR).step (bstep k3.1 hD3)).c1⟩
        go_wp2_with fail
        refine hK.out _ _ (k4) (fun hHeld => ?_)
        clear hK K
        try simp only [Act.put, List.setIfInBounds_toArray, List.set_cons_zero, List.set_cons_succ]
        refine wpAnyH_take (i := 12) (oi := { dst := some 74, op := Go.Op.binOp Go.BinOp.neq 4 (Go.Operand.tmp 70) (Go.Operand.tmp 73) 4, type := 4, pos := "law.go:69", after := #[{ on := 8, ground := Go.Ground.data }, { on := 11, ground := Go.Ground.data }, { on := 5, ground := Go.Ground.guard }], guard := some (5, false) }) (v := ?v12ta) rfl (by kernel_rfl) (by kernel_rfl) (by kernel_rfl) (fun _ _ _ h => h) (Or.inl ⟨by rfl, ?hy12ta⟩) hHeld ?rest12ta
        case hy12ta =>
          intro w hSw
          try dsimp only at hSw
          go_simp
          try with_reducible rfl
        try simp only [Act.put, List.setIfInBounds_toArray, List.set_cons_zero, List.set_cons_succ]
        refine wpAnyH_take (i := 13) (oi := { dst := some 75, op := Go.Op.pick (Go.Operand.tmp 67) (Go.Operand.const (Go.Value.bool true)) (Go.Operand.tmp 74), type := 4, pos := "law.go:69", after := #[{ on := 5, ground := Go.Ground.data }, { on := 12, ground := Go.Ground.data }], guard := none }) (v := ?v13ta) rfl (by kernel_rfl) (by kernel_rfl) (by kernel_rfl) (fun _ _ _ h => h) (Or.inl ⟨by rfl, ?hy13ta⟩) hHeld ?rest13ta
        case hy13ta =>
          intro w hSw
          try dsimp only at hSw
          go_simp
          try with_reducible rfl
        try simp only [Act.put, List.setIfInBounds_toArray, List.set_cons_zero, List.set_cons_succ]
        refine wpAnyH_take (i := 14) (oi := { dst := some 76, op := Go.Op.move (Go.Operand.tmp 75), type := 4, pos := "law.go:69", after := #[{ on := 13, ground := Go.Ground.data }, { on := 11, ground := Go.Ground.chain }], guard := none }) (v := ?v14ta) rfl (by kernel_rfl) (by kernel_rfl) (by kernel_rfl) (fun _ _ _ h => h) (Or.inl ⟨by rfl, ?hy14ta⟩) hHeld ?rest14ta
        case hy14ta =>
          intro w hSw
          try dsimp only at hSw
          go_simp
          try with_reducible rfl
        try simp only [Act.put, List.setIfInBounds_toArray, List.set_cons_zero, List.set_cons_succ]
        refine wpAnyH_take (i := 15) (oi := { dst := some 77, op := Go.Op.load 24 (Go.Operand.tmp 5), type := 24, pos := "law.go:69", after := #[{ on := 14, ground := Go.Ground.guard }], guard := some (14, false) }) (v := ?v15ta) rfl (by kernel_rfl) (by kernel_rfl) (by kernel_rfl) (fun _ _ _ h => h) (Or.inl ⟨by rfl, ?hy15ta⟩) hHeld ?rest15ta
        case hy15ta =>
          intro w hSw
          try dsimp only at hSw
          go_simp
          try with_reducible rfl
        try simp only [Act.put, List.setIfInBounds_toArray, List.set_cons_zero, List.set_cons_succ]
        refine wpAnyH_take (i := 17) (oi := { dst := some 79, op := Go.Op.move (Go.Operand.tmp 7), type := 27, pos := "law.go:69", after := #[{ on := 14, ground := Go.Ground.guard }], guard := some (14, false) }) (v := ?v17ta) rfl (by kernel_rfl) (by kernel_rfl) (by kernel_rfl) (fun _ _ _ h => h) (Or.inl ⟨by rfl, ?hy17ta⟩) hHeld ?rest17ta
        case hy17ta =>
          intro w hSw
          try dsimp only at hSw
          go_simp
          try with_reducible rfl
        try simp only [Act.put, List.setIfInBounds_toArray, List.set_cons_zero, List.set_cons_succ]
        refine wpAnyH_take (i := 18) (oi := { dst := some 80, op := Go.Op.call { callee := Go.Callee.builtin Go.Builtin.len, args := #[Go.Operand.tmp 79], argTypes := #[27] }, type := 3, pos := "law.go:69", after := #[{ on := 17, ground := Go.Ground.data }, { on := 14, ground := Go.Ground.guard }], guard := some (14, false) }) (v := ?v18ta) rfl (by kernel_rfl) (by kernel_rfl) (by kernel_rfl) (fun _ _ _ h => h) (Or.inl ⟨by rfl, ?hy18ta⟩) hHeld ?rest18ta
        case hy18ta =>
          intro w hSw
          try dsimp only at hSw
          go_simp
          try with_reducible rfl
        try simp only [Act.put, List.setIfInBounds_toArray, List.set_cons_zero, List.set_cons_succ]
        refine wpAnyH_ready (rs := [16]) (by kernel_rfl) (by simp) ?_
        refine AllReadyH.cons (o := { dst := some 78, op := Go.Op.call { callee := Go.Callee.value (Go.Operand.func 21), args := #[Go.Operand.tmp 77], argTypes := #[24] }, type := 3, pos := "law.go:69", after := #[{ on := 15, ground := Go.Ground.data }, { on := 14, ground := Go.Ground.chain }, { on := 14, ground := Go.Ground.guard }], guard := some (14, false) }) rfl (fun K hK => ?_) AllReadyH.nil
        go_simp
        refine (count_any _ N g n c3 l (sX.below k4.1)).mono ?_
        rintro e j4 ⟨rfl, hD4⟩
        have k5 : Below v4.heap.size v4 j4 ∧ j4.cell? ⟨xb, 0, none⟩ = some (.int .i64 N) ∧ j4.cell? ⟨xb, 1, none⟩ = some (.slice g n c3) ∧ j4.cell? ⟨V1.heap.size, 0, none⟩ = some (.int .i64 N) ∧ j4.cell? ⟨V1.heap.size, 1, none⟩ = some (.slice a n c) := ⟨bstep k4.1 hD4, ((tX).step (bstep k4.1 hD4)).c0, ((tX).step (bstep k4.1 hD4)).c1, ((tR).step (bstep k4.1 hD4)).c0, ((tR).step (bstep k4.1 hD4)).c1⟩
        go_wp2_with fail
        refine hK.out _ _ (k5) (fun hHeld => ?_)
        clear hK K
        try simp only [Act.put, List.setIfInBounds_toArray, List.set_cons_zero, List.set_cons_succ]
        refine wpAnyH_take (i := 19) (oi := { dst := some 81, op := Go.Op.binOp Go.BinOp.neq 3 (Go.Operand.tmp 78) (Go.Operand.tmp 80) 3, type := 4, pos := "law.go:69", after := #[{ on := 16, ground := Go.Ground.data }, { on := 18, ground := Go.Ground.data }, { on := 14, ground := Go.Ground.guard }], guard := some (14, false) }) (v := ?v19ta) rfl (by kernel_rfl) (by kernel_rfl) (by kernel_rfl) (fun _ _ _ h => h) (Or.inl ⟨by rfl, ?hy19ta⟩) hHeld ?rest19ta
        case hy19ta =>
          intro w hSw
          try dsimp only at hSw
          go_simp
          try with_reducible rfl
        try simp only [Act.put, List.setIfInBounds_toArray, List.set_cons_zero, List.set_cons_succ]
        refine wpAnyH_take (i := 20) (oi := { dst := some 82, op := Go.Op.pick (Go.Operand.tmp 76) (Go.Operand.const (Go.Value.bool true)) (Go.Operand.tmp 81), type := 4, pos := "law.go:69", after := #[{ on := 14, ground := Go.Ground.data }, { on := 19, ground := Go.Ground.data }], guard := none }) (v := ?v20ta) rfl (by kernel_rfl) (by kernel_rfl) (by kernel_rfl) (fun _ _ _ h => h) (Or.inl ⟨by rfl, ?hy20ta⟩) hHeld ?rest20ta
        case hy20ta =>
          intro w hSw
          try dsimp only at hSw
          go_simp
          try with_reducible rfl
        try simp only [Act.put, List.setIfInBounds_toArray, List.set_cons_zero, List.set_cons_succ]
        refine wpAnyH_take (i := 21) (oi := { dst := some 83, op := Go.Op.move (Go.Operand.tmp 82), type := 4, pos := "law.go:69", after := #[{ on := 20, ground := Go.Ground.data }, { on := 16, ground := Go.Ground.chain }], guard := none }) (v := ?v21ta) rfl (by kernel_rfl) (by kernel_rfl) (by kernel_rfl) (fun _ _ _ h => h) (Or.inl ⟨by rfl, ?hy21ta⟩) hHeld ?rest21ta
        case hy21ta =>
          intro w hSw
          try dsimp only at hSw
          go_simp
          try with_reducible rfl
        try simp only [Act.put, List.setIfInBounds_toArray, List.set_cons_zero, List.set_cons_succ]
        refine wpAnyH_take (i := 22) (oi := { dst := some 84, op := Go.Op.load 24 (Go.Operand.tmp 5), type := 24, pos := "law.go:69", after := #[{ on := 21, ground := Go.Ground.guard }], guard := some (21, false) }) (v := ?v22ta) rfl (by kernel_rfl) (by kernel_rfl) (by kernel_rfl) (fun _ _ _ h => h) (Or.inl ⟨by rfl, ?hy22ta⟩) hHeld ?rest22ta
        case hy22ta =>
          intro w hSw
          try dsimp only at hSw
          go_simp
          try with_reducible rfl
        try simp only [Act.put, List.setIfInBounds_toArray, List.set_cons_zero, List.set_cons_succ]
        refine wpAnyH_take (i := 24) (oi := { dst := some 86, op := Go.Op.move (Go.Operand.tmp 7), type := 27, pos := "law.go:69", after := #[{ on := 21, ground := Go.Ground.guard }], guard := some (21, false) }) (v := ?v24ta) rfl (by kernel_rfl) (by kernel_rfl) (by kernel_rfl) (fun _ _ _ h => h) (Or.inl ⟨by rfl, ?hy24ta⟩) hHeld ?rest24ta
        case hy24ta =>
          intro w hSw
          try dsimp only at hSw
          go_simp
          try with_reducible rfl
        try simp only [Act.put, List.setIfInBounds_toArray, List.set_cons_zero, List.set_cons_succ]
        refine wpAnyH_ready (rs := [23]) (by kernel_rfl) (by simp) ?_
        refine AllReadyH.cons (o := { dst := some 85, op := Go.Op.call { callee := Go.Callee.value (Go.Operand.func 24), args := #[Go.Operand.tmp 84], argTypes := #[24] }, type := 27, pos := "law.go:69", after := #[{ on := 22, ground := Go.Ground.data }, { on := 21, ground := Go.Ground.chain }, { on := 21, ground := Go.Ground.guard }], guard := some (21, false) }) rfl (fun K hK => ?_) AllReadyH.nil
        go_simp
        refine (memA _ N g n c3 l (sX.below k5.1)).mono ?_
        rintro e j5 ⟨gm, km, rfl, hm, hD5⟩
        have k6 : Below v4.heap.size v4 j5 ∧ j5.cell? ⟨xb, 0, none⟩ = some (.int .i64 N) ∧ j5.cell? ⟨xb, 1, none⟩ = some (.slice g n c3) ∧ j5.cell? ⟨V1.heap.size, 0, none⟩ = some (.int .i64 N) ∧ j5.cell? ⟨V1.heap.size, 1, none⟩ = some (.slice a n c) := ⟨bstep k5.1 hD5, ((tX).step (bstep k5.1 hD5)).c0, ((tX).step (bstep k5.1 hD5)).c1, ((tR).step (bstep k5.1 hD5)).c0, ((tR).step (bstep k5.1 hD5)).c1⟩
        go_wp2_with fail
        refine hK.out _ _ (k6) (fun hHeld => ?_)
        clear hK K
        try simp only [Act.put, List.setIfInBounds_toArray, List.set_cons_zero, List.set_cons_succ]
        refine wpAnyH_ready (rs := [25]) (by kernel_rfl) (by simp) ?_
        refine AllReadyH.cons (o := { dst := some 87, op := Go.Op.call { callee := Go.Callee.value (Go.Operand.func 42), args := #[Go.Operand.tmp 85, Go.Operand.tmp 86], argTypes := #[27, 27] }, type := 4, pos := "law.go:69", after := #[{ on := 23, ground := Go.Ground.data }, { on := 24, ground := Go.Ground.data }, { on := 23, ground := Go.Ground.chain }, { on := 21, ground := Go.Ground.guard }], guard := some (21, false) }) rfl (fun K hK => ?_) AllReadyH.nil
        go_simp
        refine (sameI_yes _ gm ga _ km gc _ hm (sM.below k6.1)).mono ?_
        rintro e j6 ⟨rfl, hD6⟩
        have k7 : Below v4.heap.size v4 j6 ∧ j6.cell? ⟨xb, 0, none⟩ = some (.int .i64 N) ∧ j6.cell? ⟨xb, 1, none⟩ = some (.slice g n c3) ∧ j6.cell? ⟨V1.heap.size, 0, none⟩ = some (.int .i64 N) ∧ j6.cell? ⟨V1.heap.size, 1, none⟩ = some (.slice a n c) := ⟨bstep k6.1 hD6, ((tX).step (bstep k6.1 hD6)).c0, ((tX).step (bstep k6.1 hD6)).c1, ((tR).step (bstep k6.1 hD6)).c0, ((tR).step (bstep k6.1 hD6)).c1⟩
        clear hm
        go_wp2_with fail
        refine hK.out _ _ (k7) (fun hHeld => ?_)
        clear hK K
        try simp only [Act.put, List.setIfInBounds_toArray, List.set_cons_zero, List.set_cons_succ]
        refine wpAnyH_take (i := 26) (oi := { dst := some 88, op := Go.Op.unOp Go.UnOp.not 4 (Go.Operand.tmp 87), type := 4, pos := "law.go:69", after := #[{ on := 25, ground := Go.Ground.data }, { on := 21, ground := Go.Ground.guard }], guard := some (21, false) }) (v := ?v26ta) rfl (by kernel_rfl) (by kernel_rfl) (by kernel_rfl) (fun _ _ _ h => h) (Or.inl ⟨by rfl, ?hy26ta⟩) hHeld ?rest26ta
        case hy26ta =>
          intro w hSw
          try dsimp only at hSw
          go_simp
          try with_reducible rfl
        try simp only [Act.put, List.setIfInBounds_toArray, List.set_cons_zero, List.set_cons_succ]
        refine wpAnyH_take (i := 27) (oi := { dst := some 89, op := Go.Op.pick (Go.Operand.tmp 83) (Go.Operand.const (Go.Value.bool true)) (Go.Operand.tmp 88), type := 4, pos := "law.go:69", after := #[{ on := 21, ground := Go.Ground.data }, { on := 26, ground := Go.Ground.data }], guard := none }) (v := ?v27ta) rfl (by kernel_rfl) (by kernel_rfl) (by kernel_rfl) (fun _ _ _ h => h) (Or.inl ⟨by rfl, ?hy27ta⟩) hHeld ?rest27ta
        case hy27ta =>
          intro w hSw
          try dsimp only at hSw
          go_simp
          try with_reducible rfl
        try simp only [Act.put, List.setIfInBounds_toArray, List.set_cons_zero, List.set_cons_succ]
        refine wpAnyH_take (i := 28) (oi := { dst := some 90, op := Go.Op.move (Go.Operand.tmp 89), type := 4, pos := "law.go:69", after := #[{ on := 27, ground := Go.Ground.data }, { on := 25, ground := Go.Ground.chain }], guard := none }) (v := ?v28ta) rfl (by kernel_rfl) (by kernel_rfl) (by kernel_rfl) (fun _ _ _ h => h) (Or.inl ⟨by rfl, ?hy28ta⟩) hHeld ?rest28ta
        case hy28ta =>
          intro w hSw
          try dsimp only at hSw
          go_simp
          try with_reducible rfl
        try simp only [Act.put, List.setIfInBounds_toArray, List.set_cons_zero, List.set_cons_succ]
        refine wpAnyH_take (i := 29) (oi := { dst := some 91, op := Go.Op.load 24 (Go.Operand.tmp 5), type := 24, pos := "law.go:69", after := #[{ on := 28, ground := Go.Ground.guard }], guard := some (28, false) }) (v := ?v29ta) rfl (by kernel_rfl) (by kernel_rfl) (by kernel_rfl) (fun _ _ _ h => h) (Or.inl ⟨by rfl, ?hy29ta⟩) hHeld ?rest29ta
        case hy29ta =>
          intro w hSw
          try dsimp only at hSw
          go_simp
          try with_reducible rfl
        try simp only [Act.put, List.setIfInBounds_toArray, List.set_cons_zero, List.set_cons_succ]
        refine wpAnyH_take (i := 30) (oi := { dst := some 92, op := Go.Op.move (Go.Operand.tmp 1), type := 3, pos := "law.go:69", after := #[{ on := 28, ground := Go.Ground.guard }], guard := some (28, false) }) (v := ?v30ta) rfl (by kernel_rfl) (by kernel_rfl) (by kernel_rfl) (fun _ _ _ h => h) (Or.inl ⟨by rfl, ?hy30ta⟩) hHeld ?rest30ta
        case hy30ta =>
          intro w hSw
          try dsimp only at hSw
          go_simp
          try with_reducible rfl
        try simp only [Act.put, List.setIfInBounds_toArray, List.set_cons_zero, List.set_cons_succ]
        refine wpAnyH_take (i := 32) (oi := { dst := some 94, op := Go.Op.load 31 (Go.Operand.tmp 6), type := 31, pos := "law.go:69", after := #[{ on := 28, ground := Go.Ground.guard }], guard := some (28, false) }) (v := ?v32ta) rfl (by kernel_rfl) (by kernel_rfl) (by kernel_rfl) (fun _ _ _ h => h) (Or.inl ⟨by rfl, ?hy32ta⟩) hHeld ?rest32ta
        case hy32ta =>
          intro w hSw
          try dsimp only at hSw
          go_simp
          try with_reducible rfl
        try simp only [Act.put, List.setIfInBounds_toArray, List.set_cons_zero, List.set_cons_succ]
        refine wpAnyH_take (i := 33) (oi := { dst := some 95, op := Go.Op.move (Go.Operand.tmp 1), type := 3, pos := "law.go:69", after := #[{ on := 28, ground := Go.Ground.guard }], guard := some (28, false) }) (v := ?v33ta) rfl (by kernel_rfl) (by kernel_rfl) (by kernel_rfl) (fun _ _ _ h => h) (Or.inl ⟨by rfl, ?hy33ta⟩) hHeld ?rest33ta
        case hy33ta =>
          intro w hSw
          try dsimp only at hSw
          go_simp
          try with_reducible rfl
        try simp only [Act.put, List.setIfInBounds_toArray, List.set_cons_zero, List.set_cons_succ]
        refine wpAnyH_ready (rs := [31]) (by kernel_rfl) (by simp) ?_
        refine AllReadyH.cons (o := { dst := some 93, op := Go.Op.call { callee := Go.Callee.value (Go.Operand.func 25), args := #[Go.Operand.tmp 91, Go.Operand.tmp 92], argTypes := #[24, 3] }, type := 3, pos := "law.go:69", after := #[{ on := 29, ground := Go.Ground.data }, { on := 30, ground := Go.Ground.data }, { on := 28, ground := Go.Ground.chain }, { on := 28, ground := Go.Ground.guard }], guard := some (28, false) }) rfl (fun K hK => ?_) AllReadyH.nil
        go_simp
        refine (rank_any _ N i g n c3 l (sX.below k7.1) hi0 hi1).mono ?_
        rintro e j7 ⟨rfl, hD7⟩
        have k8 : Below v4.heap.size v4 j7 ∧ j7.cell? ⟨xb, 0, none⟩ = some (.int .i64 N) ∧ j7.cell? ⟨xb, 1, none⟩ = some (.slice g n c3) ∧ j7.cell? ⟨V1.heap.size, 0, none⟩ = some (.int .i64 N) ∧ j7.cell? ⟨V1.heap.size, 1, none⟩ = some (.slice a n c) := ⟨bstep k7.1 hD7, ((tX).step (bstep k7.1 hD7)).c0, ((tX).step (bstep k7.1 hD7)).c1, ((tR).step (bstep k7.1 hD7)).c0, ((tR).step (bstep k7.1 hD7)).c1⟩
        go_wp2_with fail
        refine hK.out _ _ (k8) (fun hHeld => ?_)
        clear hK K
        try simp only [Act.put, List.setIfInBounds_toArray, List.set_cons_zero, List.set_cons_succ]
        refine wpAnyH_ready (rs := [34]) (by kernel_rfl) (by simp) ?_
        refine AllReadyH.cons (o := { dst := some 96, op := Go.Op.call { callee := Go.Callee.value (Go.Operand.func 43), args := #[Go.Operand.tmp 94, Go.Operand.tmp 95], argTypes := #[31, 3] }, type := 3, pos := "law.go:69", after := #[{ on := 32, ground := Go.Ground.data }, { on := 33, ground := Go.Ground.data }, { on := 31, ground := Go.Ground.chain }, { on := 28, ground := Go.Ground.guard }], guard := some (28, false) }) rfl (fun K hK => ?_) AllReadyH.nil
        go_simp
        refine (rrank_any _ N i a n c l ((s1.below bel).below k8.1).sl s1.wds s1.high).mono ?_
        rintro e j8 ⟨rfl, hD8⟩
        have k9 : Below v4.heap.size v4 j8 ∧ j8.cell? ⟨xb, 0, none⟩ = some (.int .i64 N) ∧ j8.cell? ⟨xb, 1, none⟩ = some (.slice g n c3) ∧ j8.cell? ⟨V1.heap.size, 0, none⟩ = some (.int .i64 N) ∧ j8.cell? ⟨V1.heap.size, 1, none⟩ = some (.slice a n c) := ⟨bstep k8.1 hD8, ((tX).step (bstep k8.1 hD8)).c0, ((tX).step (bstep k8.1 hD8)).c1, ((tR).step (bstep k8.1 hD8)).c0, ((tR).step (bstep k8.1 hD8)).c1⟩
        go_wp2_with fail
        refine hK.out _ _ (k9) (fun hHeld => ?_)
        clear hK K
        try simp only [Act.put, List.setIfInBounds_toArray, List.set_cons_zero, List.set_cons_succ]
        refine wpAnyH_take (i := 35) (oi := { dst := some 97, op := Go.Op.binOp Go.BinOp.neq 3 (Go.Operand.tmp 93) (Go.Operand.tmp 96) 3, type := 4, pos := "law.go:69", after := #[{ on := 31, ground := Go.Ground.data }, { on := 34, ground := Go.Ground.data }, { on := 28, ground := Go.Ground.guard }], guard := some (28, false) }) (v := ?v35ta) rfl (by kernel_rfl) (by kernel_rfl) (by kernel_rfl) (fun _ _ _ h => h) (Or.inl ⟨by rfl, ?hy35ta⟩) hHeld ?rest35ta
        case hy35ta =>
          intro w hSw
          try dsimp only at hSw
          go_simp
          try with_reducible rfl
        try simp only [Act.put, List.setIfInBounds_toArray, List.set_cons_zero, List.set_cons_succ]
        refine wpAnyH_take (i := 36) (oi := { dst := some 98, op := Go.Op.pick (Go.Operand.tmp 90) (Go.Operand.const (Go.Value.bool true)) (Go.Operand.tmp 97), type := 4, pos := "law.go:69", after := #[{ on := 28, ground := Go.Ground.data }, { on := 35, ground := Go.Ground.data }], guard := none }) (v := ?v36ta) rfl (by kernel_rfl) (by kernel_rfl) (by kernel_rfl) (fun _ _ _ h => h) (Or.inl ⟨by rfl, ?hy36ta⟩) hHeld ?rest36ta
        case hy36ta =>
          intro w hSw
          try dsimp only at hSw
          go_simp
          try with_reducible rfl
        try simp only [Act.put, List.setIfInBounds_toArray, List.set_cons_zero, List.set_cons_succ]
        refine wpAnyH_take (i := 37) (oi := { dst := some 99, op := Go.Op.move (Go.Operand.tmp 98), type := 4, pos := "law.go:69", after := #[{ on := 36, ground := Go.Ground.data }, { on := 34, ground := Go.Ground.chain }], guard := none }) (v := ?v37ta) rfl (by kernel_rfl) (by kernel_rfl) (by kernel_rfl) (fun _ _ _ h => h) (Or.inl ⟨by rfl, ?hy37ta⟩) hHeld ?rest37ta
        case hy37ta =>
          intro w hSw
          try dsimp only at hSw
          go_simp
          try with_reducible rfl
        try simp only [Act.put, List.setIfInBounds_toArray, List.set_cons_zero, List.set_cons_succ]
        refine wpAnyH_take (i := 38) (oi := { dst := some 100, op := Go.Op.move (Go.Operand.tmp 8), type := 3, pos := "law.go:69", after := #[{ on := 37, ground := Go.Ground.guard }], guard := some (37, false) }) (v := ?v38ta) rfl (by kernel_rfl) (by kernel_rfl) (by kernel_rfl) (fun _ _ _ h => h) (Or.inl ⟨by rfl, ?hy38ta⟩) hHeld ?rest38ta
        case hy38ta =>
          intro w hSw
          try dsimp only at hSw
          go_simp
          try with_reducible rfl
        try simp only [Act.put, List.setIfInBounds_toArray, List.set_cons_zero, List.set_cons_succ]
        refine wpAnyH_take (i := 39) (oi := { dst := some 101, op := Go.Op.move (Go.Operand.tmp 9), type := 4, pos := "law.go:69", after := #[{ on := 37, ground := Go.Ground.guard }], guard := some (37, false) }) (v := ?v39ta) rfl (by kernel_rfl) (by kernel_rfl) (by kernel_rfl) (fun _ _ _ h => h) (Or.inl ⟨by rfl, ?hy39ta⟩) hHeld ?rest39ta
        case hy39ta =>
          intro w hSw
          try dsimp only at hSw
          go_simp
          try with_reducible rfl
        try simp only [Act.put, List.setIfInBounds_toArray, List.set_cons_zero, List.set_cons_succ]
        refine wpAnyH_take (i := 40) (oi := { dst := some 102, op := Go.Op.move (Go.Operand.tmp 10), type := 3, pos := "law.go:69", after := #[{ on := 37, ground := Go.Ground.guard }], guard := some (37, false) }) (v := ?v40ta) rfl (by kernel_rfl) (by kernel_rfl) (by kernel_rfl) (fun _ _ _ h => h) (Or.inl ⟨by rfl, ?hy40ta⟩) hHeld ?rest40ta
        case hy40ta =>
          intro w hSw
          try dsimp only at hSw
          go_simp
          try with_reducible rfl
        try simp only [Act.put, List.setIfInBounds_toArray, List.set_cons_zero, List.set_cons_succ]
        refine wpAnyH_ready (rs := [41]) (by kernel_rfl) (by simp) ?_
        refine AllReadyH.cons (o := { dst := some 103, op := Go.Op.call { callee := Go.Callee.value (Go.Operand.func 44), args := #[Go.Operand.tmp 100, Go.Operand.tmp 101, Go.Operand.tmp 102], argTypes := #[3, 4, 3] }, type := 4, pos := "law.go:69", after := #[{ on := 38, ground := Go.Ground.data }, { on := 39, ground := Go.Ground.data }, { on := 40, ground := Go.Ground.data }, { on := 37, ground := Go.Ground.chain }, { on := 37, ground := Go.Ground.guard }], guard := some (37, false) }) rfl (fun K hK => ?_) AllReadyH.nil
        go_simp
        refine (askY _ _ xK y bK HK.out HY.out).mono ?_
        rintro e j9 ⟨rfl, hD9⟩
        have k10 : Below v4.heap.size v4 j9 ∧ j9.cell? ⟨xb, 0, none⟩ = some (.int .i64 N) ∧ j9.cell? ⟨xb, 1, none⟩ = some (.slice g n c3) ∧ j9.cell? ⟨V1.heap.size, 0, none⟩ = some (.int .i64 N) ∧ j9.cell? ⟨V1.heap.size, 1, none⟩ = some (.slice a n c) := ⟨bstep k9.1 hD9, ((tX).step (bstep k9.1 hD9)).c0, ((tX).step (bstep k9.1 hD9)).c1, ((tR).step (bstep k9.1 hD9)).c0, ((tR).step (bstep k9.1 hD9)).c1⟩
        go_wp2_with fail
        refine hK.out _ _ (k10) (fun hHeld => ?_)
        clear hK K
        try simp only [Act.put, List.setIfInBounds_toArray, List.set_cons_zero, List.set_cons_succ]
        refine wpAnyH_take (i := 42) (oi := { dst := some 104, op := Go.Op.unOp Go.UnOp.not 4 (Go.Operand.tmp 103), type := 4, pos := "law.go:69", after := #[{ on := 41, ground := Go.Ground.data }, { on := 37, ground := Go.Ground.guard }], guard := some (37, false) }) (v := ?v42ta) rfl (by kernel_rfl) (by kernel_rfl) (by kernel_rfl) (fun _ _ _ h => h) (Or.inl ⟨by rfl, ?hy42ta⟩) hHeld ?rest42ta
        case hy42ta =>
          intro w hSw
          try dsimp only at hSw
          go_simp
          try with_reducible rfl
        try simp only [Act.put, List.setIfInBounds_toArray, List.set_cons_zero, List.set_cons_succ]
        refine wpAnyH_take (i := 43) (oi := { dst := some 105, op := Go.Op.pick (Go.Operand.tmp 99) (Go.Operand.const (Go.Value.bool true)) (Go.Operand.tmp 104), type := 4, pos := "law.go:69", after := #[{ on := 37, ground := Go.Ground.data }, { on := 42, ground := Go.Ground.data }], guard := none }) (v := ?v43ta) rfl (by kernel_rfl) (by kernel_rfl) (by kernel_rfl) (fun _ _ _ h => h) (Or.inl ⟨by rfl, ?hy43ta⟩) hHeld ?rest43ta
        case hy43ta =>
          intro w hSw
          try dsimp only at hSw
          go_simp
          try with_reducible rfl
        try simp only [Act.put, List.setIfInBounds_toArray, List.set_cons_zero, List.set_cons_succ]
        refine wpAnyH_done (by kernel_rfl) ?_ _
        refine NoPanic.normal ?_
        have hB8 := k10.1
        clear k0 k1 k2 k3 k4 k5 k6 k7 k8 k9 k10
        replace bel := bstep bel hB8
        replace tX := tX.step hB8
        replace tA := tA.step hB8
        replace tR := tR.step hB8
        replace oX := ownsRow_below oX hB8
        replace sX := sX.below hB8
        clear hB8 sM HK HY
        go_upto_region 14 with fail
        have k0 : Below j9.heap.size j9 j9.drew ∧ j9.drew.cell? ⟨xb, 0, none⟩ = some (.int .i64 N) ∧ j9.drew.cell? ⟨xb, 1, none⟩ = some (.slice g n c3) ∧ j9.drew.cell? ⟨V1.heap.size, 0, none⟩ = some (.int .i64 N) ∧ j9.drew.cell? ⟨V1.heap.size, 1, none⟩ = some (.slice a n c) ∧ j9.drew.cell? ⟨w.heap.size, 1, none⟩ = some (.slice a n c) := ⟨(Below.refl _ _).drew, ((tX).step ((Below.refl _ _).drew)).c0, ((tX).step ((Below.refl _ _).drew)).c1, ((tR).step ((Below.refl _ _).drew)).c0, ((tR).step ((Below.refl _ _).drew)).c1, ((tA).step ((Below.refl _ _).drew)).c1⟩
        refine wp_region_noPanic ?_
        refine wp_region_held_drew (S := fun W => Below j9.heap.size j9 W ∧ W.cell? ⟨xb, 0, none⟩ = some (.int .i64 N) ∧ W.cell? ⟨xb, 1, none⟩ = some (.slice g n c3) ∧ W.cell? ⟨V1.heap.size, 0, none⟩ = some (.int .i64 N) ∧ W.cell? ⟨V1.heap.size, 1, none⟩ = some (.slice a n c) ∧ W.cell? ⟨w.heap.size, 1, none⟩ = some (.slice a n c)) (by kernel_rfl) (k0) (fun hHeld => ?_)
        refine wpAnyH_take (i := 0) (oi := { dst := some 106, op := Go.Op.move (Go.Operand.tmp 11), type := 3, pos := "law.go:72", after := #[], guard := none }) (v := ?v0tb) rfl (by kernel_rfl) (by kernel_rfl) (by kernel_rfl) (fun _ _ _ h => h) (Or.inl ⟨by rfl, ?hy0tb⟩) hHeld ?rest0tb
        case hy0tb =>
          intro w hSw
          try dsimp only at hSw
          go_simp
          try with_reducible rfl
        try simp only [Act.put, List.setIfInBounds_toArray, List.set_cons_zero, List.set_cons_succ]
        refine wpAnyH_take (i := 1) (oi := { dst := some 107, op := Go.Op.move (Go.Operand.tmp 12), type := 4, pos := "law.go:72", after := #[], guard := none }) (v := ?v1tb) rfl (by kernel_rfl) (by kernel_rfl) (by kernel_rfl) (fun _ _ _ h => h) (Or.inl ⟨by rfl, ?hy1tb⟩) hHeld ?rest1tb
        case hy1tb =>
          intro w hSw
          try dsimp only at hSw
          go_simp
          try with_reducible rfl
        try simp only [Act.put, List.setIfInBounds_toArray, List.set_cons_zero, List.set_cons_succ]
        refine wpAnyH_take (i := 2) (oi := { dst := some 108, op := Go.Op.load 31 (Go.Operand.tmp 6), type := 31, pos := "law.go:72", after := #[], guard := none }) (v := ?v2tb) rfl (by kernel_rfl) (by kernel_rfl) (by kernel_rfl) (fun _ _ _ h => h) (Or.inl ⟨by rfl, ?hy2tb⟩) hHeld ?rest2tb
        case hy2tb =>
          intro w hSw
          try dsimp only at hSw
          go_simp
          try with_reducible rfl
        try simp only [Act.put, List.setIfInBounds_toArray, List.set_cons_zero, List.set_cons_succ]
        refine wpAnyH_take (i := 3) (oi := { dst := some 109, op := Go.Op.move (Go.Operand.tmp 1), type := 3, pos := "law.go:72", after := #[], guard := none }) (v := ?v3tb) rfl (by kernel_rfl) (by kernel_rfl) (by kernel_rfl) (fun _ _ _ h => h) (Or.inl ⟨by rfl, ?hy3tb⟩) hHeld ?rest3tb
        case hy3tb =>
          intro w hSw
          try dsimp only at hSw
          go_simp
          try with_reducible rfl
        try simp only [Act.put, List.setIfInBounds_toArray, List.set_cons_zero, List.set_cons_succ]
        refine wpAnyH_ready (rs := [4]) (by kernel_rfl) (by simp) ?_
        refine AllReadyH.cons (o := { dst := some 110, op := Go.Op.call { callee := Go.Callee.value (Go.Operand.func 45), args := #[Go.Operand.tmp 108, Go.Operand.tmp 109], argTypes := #[31, 3] }, type := 3, pos := "law.go:72", after := #[{ on := 2, ground := Go.Ground.data }, { on := 3, ground := Go.Ground.data }], guard := none }) rfl (fun K hK => ?_) AllReadyH.nil
        go_simp
        refine (rnextA _ N i a n c l ((s1.below bel).below k0.1)).mono ?_
        rintro e m0 ⟨yN, rfl, hyN, hD0⟩
        have k1 : Below j9.heap.size j9 m0 ∧ m0.cell? ⟨xb, 0, none⟩ = some (.int .i64 N) ∧ m0.cell? ⟨xb, 1, none⟩ = some (.slice g n c3) ∧ m0.cell? ⟨V1.heap.size, 0, none⟩ = some (.int .i64 N) ∧ m0.cell? ⟨V1.heap.size, 1, none⟩ = some (.slice a n c) ∧ m0.cell? ⟨w.heap.size, 1, none⟩ = some (.slice a n c) := ⟨bstep k0.1 hD0, ((tX).step (bstep k0.1 hD0)).c0, ((tX).step (bstep k0.1 hD0)).c1, ((tR).step (bstep k0.1 hD0)).c0, ((tR).step (bstep k0.1 hD0)).c1, ((tA).step (bstep k0.1 hD0)).c1⟩
        have HyN := Lib.hid hyN
        clear hyN
        go_wp2_with fail
        refine hK.out _ _ (k1) (fun hHeld => ?_)
        clear hK K
        try simp only [Act.put, List.setIfInBounds_toArray, List.set_cons_zero, List.set_cons_succ]
        refine wpAnyH_ready (rs := [5]) (by kernel_rfl) (by simp) ?_
        refine AllReadyH.cons (o := { dst := some 111, op := Go.Op.call { callee := Go.Callee.value (Go.Operand.func 44), args := #[Go.Operand.tmp 106, Go.Operand.tmp 107, Go.Operand.tmp 110], argTypes := #[3, 4, 3] }, type := 4, pos := "law.go:72", after := #[{ on := 0, ground := Go.Ground.data }, { on := 1, ground := Go.Ground.data }, { on := 4, ground := Go.Ground.data }, { on := 4, ground := Go.Ground.chain }], guard := none }) rfl (fun K hK => ?_) AllReadyH.nil
        go_simp
        refine (askN _ (ef N l) i xN yN bN HN.out HyN.out).mono ?_
        rintro e m1 ⟨rfl, hD1⟩
        have k2 : Below j9.heap.size j9 m1 ∧ m1.cell? ⟨xb, 0, none⟩ = some (.int .i64 N) ∧ m1.cell? ⟨xb, 1, none⟩ = some (.slice g n c3) ∧ m1.cell? ⟨V1.heap.size, 0, none⟩ = some (.int .i64 N) ∧ m1.cell? ⟨V1.heap.size, 1, none⟩ = some (.slice a n c) ∧ m1.cell? ⟨w.heap.size, 1, none⟩ = some (.slice a n c) := ⟨bstep k1.1 hD1, ((tX).step (bstep k1.1 hD1)).c0, ((tX).step (bstep k1.1 hD1)).c1, ((tR).step (bstep k1.1 hD1)).c0, ((tR).step (bstep k1.1 hD1)).c1, ((tA).step (bstep k1.1 hD1)).c1⟩
        go_wp2_with fail
        refine hK.out _ _ (k2) (fun hHeld => ?_)
        clear hK K
        try simp only [Act.put, List.setIfInBounds_toArray, List.set_cons_zero, List.set_cons_succ]
        refine wpAnyH_take (i := 6) (oi := { dst := some 112, op := Go.Op.move (Go.Operand.tmp 111), type := 4, pos := "law.go:72", after := #[{ on := 5, ground := Go.Ground.data }, { on := 5, ground := Go.Ground.chain }], guard := none }) (v := ?v6tb) rfl (by kernel_rfl) (by kernel_rfl) (by kernel_rfl) (fun _ _ _ h => h) (Or.inl ⟨by rfl, ?hy6tb⟩) hHeld ?rest6tb
        case hy6tb =>
          intro w hSw
          try dsimp only at hSw
          go_simp
          try with_reducible rfl
        try simp only [Act.put, List.setIfInBounds_toArray, List.set_cons_zero, List.set_cons_succ]
        refine wpAnyH_take (i := 7) (oi := { dst := some 113, op := Go.Op.move (Go.Operand.tmp 13), type := 3, pos := "law.go:72", after := #[{ on := 6, ground := Go.Ground.guard }], guard := some (6, true) }) (v := ?v7tb) rfl (by kernel_rfl) (by kernel_rfl) (by kernel_rfl) (fun _ _ _ h => h) (Or.inl ⟨by rfl, ?hy7tb⟩) hHeld ?rest7tb
        case hy7tb =>
          intro w hSw
          try dsimp only at hSw
          go_simp
          try with_reducible rfl
        try simp only [Act.put, List.setIfInBounds_toArray, List.set_cons_zero, List.set_cons_succ]
        refine wpAnyH_take (i := 8) (oi := { dst := some 114, op := Go.Op.move (Go.Operand.tmp 14), type := 4, pos := "law.go:72", after := #[{ on := 6, ground := Go.Ground.guard }], guard := some (6, true) }) (v := ?v8tb) rfl (by kernel_rfl) (by kernel_rfl) (by kernel_rfl) (fun _ _ _ h => h) (Or.inl ⟨by rfl, ?hy8tb⟩) hHeld ?rest8tb
        case hy8tb =>
          intro w hSw
          try dsimp only at hSw
          go_simp
          try with_reducible rfl
        try simp only [Act.put, List.setIfInBounds_toArray, List.set_cons_zero, List.set_cons_succ]
        refine wpAnyH_take (i := 9) (oi := { dst := some 115, op := Go.Op.load 31 (Go.Operand.tmp 6), type := 31, pos := "law.go:72", after := #[{ on := 6, ground := Go.Ground.guard }], guard := some (6, true) }) (v := ?v9tb) rfl (by kernel_rfl) (by kernel_rfl) (by kernel_rfl) (fun _ _ _ h => h) (Or.inl ⟨by rfl, ?hy9tb⟩) hHeld ?rest9tb
        case hy9tb =>
          intro w hSw
          try dsimp only at hSw
          go_simp
          try with_reducible rfl
        try simp only [Act.put, List.setIfInBounds_toArray, List.set_cons_zero, List.set_cons_succ]
        refine wpAnyH_take (i := 10) (oi := { dst := some 116, op := Go.Op.move (Go.Operand.tmp 1), type := 3, pos := "law.go:72", after := #[{ on := 6, ground := Go.Ground.guard }], guard := some (6, true) }) (v := ?v10tb) rfl (by kernel_rfl) (by kernel_rfl) (by kernel_rfl) (fun _ _ _ h => h) (Or.inl ⟨by rfl, ?hy10tb⟩) hHeld ?rest10tb
        case hy10tb =>
          intro w hSw
          try dsimp only at hSw
          go_simp
          try with_reducible rfl
        try simp only [Act.put, List.setIfInBounds_toArray, List.set_cons_zero, List.set_cons_succ]
        refine wpAnyH_ready (rs := [11]) (by kernel_rfl) (by simp) ?_
        refine AllReadyH.cons (o := { dst := some 117, op := Go.Op.call { callee := Go.Callee.value (Go.Operand.func 46), args := #[Go.Operand.tmp 115, Go.Operand.tmp 116], argTypes := #[31, 3] }, type := 3, pos := "law.go:72", after := #[{ on := 9, ground := Go.Ground.data }, { on := 10, ground := Go.Ground.data }, { on := 6, ground := Go.Ground.chain }, { on := 6, ground := Go.Ground.guard }], guard := some (6, true) }) rfl (fun K hK => ?_) AllReadyH.nil
        go_simp
        refine (rbefA _ N i a n c l ((s1.below bel).below k2.1)).mono ?_
        rintro e m2 ⟨yB, rfl, hyB, hD2⟩
        have k3 : Below j9.heap.size j9 m2 ∧ m2.cell? ⟨xb, 0, none⟩ = some (.int .i64 N) ∧ m2.cell? ⟨xb, 1, none⟩ = some (.slice g n c3) ∧ m2.cell? ⟨V1.heap.size, 0, none⟩ = some (.int .i64 N) ∧ m2.cell? ⟨V1.heap.size, 1, none⟩ = some (.slice a n c) ∧ m2.cell? ⟨w.heap.size, 1, none⟩ = some (.slice a n c) := ⟨bstep k2.1 hD2, ((tX).step (bstep k2.1 hD2)).c0, ((tX).step (bstep k2.1 hD2)).c1, ((tR).step (bstep k2.1 hD2)).c0, ((tR).step (bstep k2.1 hD2)).c1, ((tA).step (bstep k2.1 hD2)).c1⟩
        have HyB := Lib.hid hyB
        clear hyB
        go_wp2_with fail
        refine hK.out _ _ (k3) (fun hHeld => ?_)
        clear hK K
        try simp only [Act.put, List.setIfInBounds_toArray, List.set_cons_zero, List.set_cons_succ]
        refine wpAnyH_ready (rs := [12]) (by kernel_rfl) (by simp) ?_
        refine AllReadyH.cons (o := { dst := some 118, op := Go.Op.call { callee := Go.Callee.value (Go.Operand.func 44), args := #[Go.Operand.tmp 113, Go.Operand.tmp 114, Go.Operand.tmp 117], argTypes := #[3, 4, 3] }, type := 4, pos := "law.go:72", after := #[{ on := 7, ground := Go.Ground.data }, { on := 8, ground := Go.Ground.data }, { on := 11, ground := Go.Ground.data }, { on := 11, ground := Go.Ground.chain }, { on := 6, ground := Go.Ground.guard }], guard := some (6, true) }) rfl (fun K hK => ?_) AllReadyH.nil
        go_simp
        refine (askB _ (ef N l) i xB yB bB HB.out HyB.out).mono ?_
        rintro e m3 ⟨rfl, hD3⟩
        have k4 : Below j9.heap.size j9 m3 ∧ m3.cell? ⟨xb, 0, none⟩ = some (.int .i64 N) ∧ m3.cell? ⟨xb, 1, none⟩ = some (.slice g n c3) ∧ m3.cell? ⟨V1.heap.size, 0, none⟩ = some (.int .i64 N) ∧ m3.cell? ⟨V1.heap.size, 1, none⟩ = some (.slice a n c) ∧ m3.cell? ⟨w.heap.size, 1, none⟩ = some (.slice a n c) := ⟨bstep k3.1 hD3, ((tX).step (bstep k3.1 hD3)).c0, ((tX).step (bstep k3.1 hD3)).c1, ((tR).step (bstep k3.1 hD3)).c0, ((tR).step (bstep k3.1 hD3)).c1, ((tA).step (bstep k3.1 hD3)).c1⟩
        go_wp2_with fail
        refine hK.out _ _ (k4) (fun hHeld => ?_)
        clear hK K
        try simp only [Act.put, List.setIfInBounds_toArray, List.set_cons_zero, List.set_cons_succ]
        refine wpAnyH_take (i := 13) (oi := { dst := some 119, op := Go.Op.pick (Go.Operand.tmp 112) (Go.Operand.tmp 118) (Go.Operand.const (Go.Value.bool false)), type := 4, pos := "law.go:72", after := #[{ on := 6, ground := Go.Ground.data }, { on := 12, ground := Go.Ground.data }], guard := none }) (v := ?v13tb) rfl (by kernel_rfl) (by kernel_rfl) (by kernel_rfl) (fun _ _ _ h => h) (Or.inl ⟨by rfl, ?hy13tb⟩) hHeld ?rest13tb
        case hy13tb =>
          intro w hSw
          try dsimp only at hSw
          go_simp
          try with_reducible rfl
        try simp only [Act.put, List.setIfInBounds_toArray, List.set_cons_zero, List.set_cons_succ]
        refine wpAnyH_take (i := 14) (oi := { dst := some 120, op := Go.Op.move (Go.Operand.tmp 119), type := 4, pos := "law.go:72", after := #[{ on := 13, ground := Go.Ground.data }, { on := 12, ground := Go.Ground.chain }], guard := none }) (v := ?v14tb) rfl (by kernel_rfl) (by kernel_rfl) (by kernel_rfl) (fun _ _ _ h => h) (Or.inl ⟨by rfl, ?hy14tb⟩) hHeld ?rest14tb
        case hy14tb =>
          intro w hSw
          try dsimp only at hSw
          go_simp
          try with_reducible rfl
        try simp only [Act.put, List.setIfInBounds_toArray, List.set_cons_zero, List.set_cons_succ]
        refine wpAnyH_take (i := 15) (oi := { dst := some 121, op := Go.Op.load 24 (Go.Operand.tmp 5), type := 24, pos := "law.go:72", after := #[{ on := 14, ground := Go.Ground.guard }], guard := some (14, true) }) (v := ?v15tb) rfl (by kernel_rfl) (by kernel_rfl) (by kernel_rfl) (fun _ _ _ h => h) (Or.inl ⟨by rfl, ?hy15tb⟩) hHeld ?rest15tb
        case hy15tb =>
          intro w hSw
          try dsimp only at hSw
          go_simp
          try with_reducible rfl
        try simp only [Act.put, List.setIfInBounds_toArray, List.set_cons_zero, List.set_cons_succ]
        refine wpAnyH_take (i := 17) (oi := { dst := some 123, op := Go.Op.load 31 (Go.Operand.tmp 6), type := 31, pos := "law.go:72", after := #[{ on := 14, ground := Go.Ground.guard }], guard := some (14, true) }) (v := ?v17tb) rfl (by kernel_rfl) (by kernel_rfl) (by kernel_rfl) (fun _ _ _ h => h) (Or.inl ⟨by rfl, ?hy17tb⟩) hHeld ?rest17tb
        case hy17tb =>
          intro w hSw
          try dsimp only at hSw
          go_simp
          try with_reducible rfl
        try simp only [Act.put, List.setIfInBounds_toArray, List.set_cons_zero, List.set_cons_succ]
        refine wpAnyH_ready (rs := [16]) (by kernel_rfl) (by simp) ?_
        refine AllReadyH.cons (o := { dst := some 122, op := Go.Op.call { callee := Go.Callee.value (Go.Operand.func 22), args := #[Go.Operand.tmp 121], argTypes := #[24] }, type := 42, pos := "law.go:72", after := #[{ on := 15, ground := Go.Ground.data }, { on := 14, ground := Go.Ground.chain }, { on := 14, ground := Go.Ground.guard }], guard := some (14, true) }) rfl (fun K hK => ?_) AllReadyH.nil
        go_simp
        refine (runs_any _ N g n c3 l (sX.below k4.1)).mono ?_
        unfold GivesR
        rintro e m4 ⟨g4, kq4, rfl, ho4, hD4⟩
        have k5 : Below j9.heap.size j9 m4 ∧ m4.cell? ⟨xb, 0, none⟩ = some (.int .i64 N) ∧ m4.cell? ⟨xb, 1, none⟩ = some (.slice g n c3) ∧ m4.cell? ⟨V1.heap.size, 0, none⟩ = some (.int .i64 N) ∧ m4.cell? ⟨V1.heap.size, 1, none⟩ = some (.slice a n c) ∧ m4.cell? ⟨w.heap.size, 1, none⟩ = some (.slice a n c) := ⟨bstep k4.1 hD4, ((tX).step (bstep k4.1 hD4)).c0, ((tX).step (bstep k4.1 hD4)).c1, ((tR).step (bstep k4.1 hD4)).c0, ((tR).step (bstep k4.1 hD4)).c1, ((tA).step (bstep k4.1 hD4)).c1⟩
        go_wp2_with fail
        refine hK.out _ _ (k5) (fun hHeld => ?_)
        clear hK K
        try simp only [Act.put, List.setIfInBounds_toArray, List.set_cons_zero, List.set_cons_succ]
        refine wpAnyH_ready (rs := [18]) (by kernel_rfl) (by simp) ?_
        refine AllReadyH.cons (o := { dst := some 124, op := Go.Op.call { callee := Go.Callee.value (Go.Operand.func 48), args := #[Go.Operand.tmp 123], argTypes := #[31] }, type := 42, pos := "law.go:72", after := #[{ on := 17, ground := Go.Ground.data }, { on := 16, ground := Go.Ground.chain }, { on := 14, ground := Go.Ground.guard }], guard := some (14, true) }) rfl (fun K hK => ?_) AllReadyH.nil
        go_simp
        refine (rruns_any _ N a n c l ((s1.below bel).below k5.1).sl s1.wds s1.high).mono ?_
        unfold GivesR
        rintro e m5 ⟨g5, kq5, rfl, ho5, hD5⟩
        have k6 : Below j9.heap.size j9 m5 ∧ m5.cell? ⟨xb, 0, none⟩ = some (.int .i64 N) ∧ m5.cell? ⟨xb, 1, none⟩ = some (.slice g n c3) ∧ m5.cell? ⟨V1.heap.size, 0, none⟩ = some (.int .i64 N) ∧ m5.cell? ⟨V1.heap.size, 1, none⟩ = some (.slice a n c) ∧ m5.cell? ⟨w.heap.size, 1, none⟩ = some (.slice a n c) := ⟨bstep k5.1 hD5, ((tX).step (bstep k5.1 hD5)).c0, ((tX).step (bstep k5.1 hD5)).c1, ((tR).step (bstep k5.1 hD5)).c0, ((tR).step (bstep k5.1 hD5)).c1, ((tA).step (bstep k5.1 hD5)).c1⟩
        replace ho4 := ownsRow_below ho4 hD5
        go_wp2_with fail
        refine hK.out _ _ (k6) (fun hHeld => ?_)
        clear hK K
        try simp only [Act.put, List.setIfInBounds_toArray, List.set_cons_zero, List.set_cons_succ]
        refine wpAnyH_ready (rs := [19]) (by kernel_rfl) (by simp) ?_
        refine AllReadyH.cons (o := { dst := some 125, op := Go.Op.call { callee := Go.Callee.value (Go.Operand.func 47), args := #[Go.Operand.tmp 122, Go.Operand.tmp 124], argTypes := #[42, 42] }, type := 4, pos := "law.go:72", after := #[{ on := 16, ground := Go.Ground.data }, { on := 18, ground := Go.Ground.data }, { on := 18, ground := Go.Ground.chain }, { on := 14, ground := Go.Ground.guard }], guard := some (14, true) }) rfl (fun K hK => ?_) AllReadyH.nil
        go_simp
        refine (sameR_yes _ _ _ g4 g5 kq4 kq5 (ef N l) ef_len ho4 ho5).mono ?_
        rintro e m6 ⟨rfl, hD6⟩
        have k7 : Below j9.heap.size j9 m6 ∧ m6.cell? ⟨xb, 0, none⟩ = some (.int .i64 N) ∧ m6.cell? ⟨xb, 1, none⟩ = some (.slice g n c3) ∧ m6.cell? ⟨V1.heap.size, 0, none⟩ = some (.int .i64 N) ∧ m6.cell? ⟨V1.heap.size, 1, none⟩ = some (.slice a n c) ∧ m6.cell? ⟨w.heap.size, 1, none⟩ = some (.slice a n c) := ⟨bstep k6.1 hD6, ((tX).step (bstep k6.1 hD6)).c0, ((tX).step (bstep k6.1 hD6)).c1, ((tR).step (bstep k6.1 hD6)).c0, ((tR).step (bstep k6.1 hD6)).c1, ((tA).step (bstep k6.1 hD6)).c1⟩
        clear ho4 ho5
        go_wp2_with fail
        refine hK.out _ _ (k7) (fun hHeld => ?_)
        clear hK K
        try simp only [Act.put, List.setIfInBounds_toArray, List.set_cons_zero, List.set_cons_succ]
        refine wpAnyH_take (i := 20) (oi := { dst := some 126, op := Go.Op.pick (Go.Operand.tmp 120) (Go.Operand.tmp 125) (Go.Operand.const (Go.Value.bool false)), type := 4, pos := "law.go:72", after := #[{ on := 14, ground := Go.Ground.data }, { on := 19, ground := Go.Ground.data }], guard := none }) (v := ?v20tb) rfl (by kernel_rfl) (by kernel_rfl) (by kernel_rfl) (fun _ _ _ h => h) (Or.inl ⟨by rfl, ?hy20tb⟩) hHeld ?rest20tb
        case hy20tb =>
          intro w hSw
          try dsimp only at hSw
          go_simp
          try with_reducible rfl
        try simp only [Act.put, List.setIfInBounds_toArray, List.set_cons_zero, List.set_cons_succ]
        refine wpAnyH_take (i := 21) (oi := { dst := some 127, op := Go.Op.move (Go.Operand.tmp 126), type := 4, pos := "law.go:72", after := #[{ on := 20, ground := Go.Ground.data }, { on := 19, ground := Go.Ground.chain }], guard := none }) (v := ?v21tb) rfl (by kernel_rfl) (by kernel_rfl) (by kernel_rfl) (fun _ _ _ h => h) (Or.inl ⟨by rfl, ?hy21tb⟩) hHeld ?rest21tb
        case hy21tb =>
          intro w hSw
          try dsimp only at hSw
          go_simp
          try with_reducible rfl
        try simp only [Act.put, List.setIfInBounds_toArray, List.set_cons_zero, List.set_cons_succ]
        refine wpAnyH_take (i := 22) (oi := { dst := some 128, op := Go.Op.fieldAddr 24 (Go.Operand.tmp 5) 1, type := 0, pos := "law.go:72", after := #[{ on := 21, ground := Go.Ground.guard }], guard := some (21, true) }) (v := ?v22tb) rfl (by kernel_rfl) (by kernel_rfl) (by kernel_rfl) (fun _ _ _ h => h) (Or.inl ⟨by rfl, ?hy22tb⟩) hHeld ?rest22tb
        case hy22tb =>
          intro w hSw
          try dsimp only at hSw
          go_simp
          try with_reducible rfl
        try simp only [Act.put, List.setIfInBounds_toArray, List.set_cons_zero, List.set_cons_succ]
        refine wpAnyH_take (i := 23) (oi := { dst := some 129, op := Go.Op.load 22 (Go.Operand.tmp 128), type := 22, pos := "law.go:72", after := #[{ on := 22, ground := Go.Ground.data }, { on := 21, ground := Go.Ground.guard }], guard := some (21, true) }) (v := ?v23tb) rfl (by kernel_rfl) (by kernel_rfl) (by kernel_rfl) (fun _ _ _ h => h) (Or.inl ⟨by rfl, ?hy23tb⟩) hHeld ?rest23tb
        case hy23tb =>
          intro w hSw
          try dsimp only at hSw
          go_simp
          try with_reducible rfl
        try simp only [Act.put, List.setIfInBounds_toArray, List.set_cons_zero, List.set_cons_succ]
        refine wpAnyH_take (i := 24) (oi := { dst := some 130, op := Go.Op.fieldAddr 24 (Go.Operand.tmp 2) 1, type := 0, pos := "law.go:72", after := #[{ on := 21, ground := Go.Ground.guard }], guard := some (21, true) }) (v := ?v24tb) rfl (by kernel_rfl) (by kernel_rfl) (by kernel_rfl) (fun _ _ _ h => h) (Or.inl ⟨by rfl, ?hy24tb⟩) hHeld ?rest24tb
        case hy24tb =>
          intro w hSw
          try dsimp only at hSw
          go_simp
          try with_reducible rfl
        try simp only [Act.put, List.setIfInBounds_toArray, List.set_cons_zero, List.set_cons_succ]
        refine wpAnyH_take (i := 25) (oi := { dst := some 131, op := Go.Op.load 22 (Go.Operand.tmp 130), type := 22, pos := "law.go:72", after := #[{ on := 24, ground := Go.Ground.data }, { on := 21, ground := Go.Ground.guard }], guard := some (21, true) }) (v := ?v25tb) rfl (by kernel_rfl) (by kernel_rfl) (by kernel_rfl) (fun _ _ _ h => h) (Or.inl ⟨by rfl, ?hy25tb⟩) hHeld ?rest25tb
        case hy25tb =>
          intro w hSw
          try dsimp only at hSw
          go_simp
          try with_reducible rfl
        try simp only [Act.put, List.setIfInBounds_toArray, List.set_cons_zero, List.set_cons_succ]
        refine wpAnyH_ready (rs := [26]) (by kernel_rfl) (by simp) ?_
        refine AllReadyH.cons (o := { dst := some 132, op := Go.Op.call { callee := Go.Callee.value (Go.Operand.func 49), args := #[Go.Operand.tmp 129, Go.Operand.tmp 131], argTypes := #[22, 22] }, type := 4, pos := "law.go:72", after := #[{ on := 23, ground := Go.Ground.data }, { on := 25, ground := Go.Ground.data }, { on := 21, ground := Go.Ground.chain }, { on := 21, ground := Go.Ground.guard }], guard := some (21, true) }) rfl (fun K hK => ?_) AllReadyH.nil
        go_simp
        refine (keptN_any _ g a c3 n c l w.heap.size (ownsRow_below oX k7.1) ((s1.below bel).below k7.1).sl (by omega)).mono ?_
        rintro e m7 ⟨rfl, hD7⟩
        have k8 : Below j9.heap.size j9 m7 ∧ m7.cell? ⟨xb, 0, none⟩ = some (.int .i64 N) ∧ m7.cell? ⟨xb, 1, none⟩ = some (.slice g n c3) ∧ m7.cell? ⟨V1.heap.size, 0, none⟩ = some (.int .i64 N) ∧ m7.cell? ⟨V1.heap.size, 1, none⟩ = some (.slice a n c) ∧ m7.cell? ⟨w.heap.size, 1, none⟩ = some (.slice a n c) := ⟨bstep k7.1 hD7, ((tX).step (bstep k7.1 hD7)).c0, ((tX).step (bstep k7.1 hD7)).c1, ((tR).step (bstep k7.1 hD7)).c0, ((tR).step (bstep k7.1 hD7)).c1, ((tA).step (bstep k7.1 hD7)).c1⟩
        go_wp2_with fail
        refine hK.out _ _ (k8) (fun hHeld => ?_)
        clear hK K
        try simp only [Act.put, List.setIfInBounds_toArray, List.set_cons_zero, List.set_cons_succ]
        refine wpAnyH_take (i := 27) (oi := { dst := some 133, op := Go.Op.pick (Go.Operand.tmp 127) (Go.Operand.tmp 132) (Go.Operand.const (Go.Value.bool false)), type := 4, pos := "law.go:72", after := #[{ on := 21, ground := Go.Ground.data }, { on := 26, ground := Go.Ground.data }], guard := none }) (v := ?v27tb) rfl (by kernel_rfl) (by kernel_rfl) (by kernel_rfl) (fun _ _ _ h => h) (Or.inl ⟨by rfl, ?hy27tb⟩) hHeld ?rest27tb
        case hy27tb =>
          intro w hSw
          try dsimp only at hSw
          go_simp
          try with_reducible rfl
        try simp only [Act.put, List.setIfInBounds_toArray, List.set_cons_zero, List.set_cons_succ]
        refine wpAnyH_take (i := 28) (oi := { dst := some 4, op := Go.Op.assign (Go.Operand.tmp 133), type := 4, pos := "law.go:72", after := #[{ on := 27, ground := Go.Ground.data }, { on := 26, ground := Go.Ground.chain }, { on := 0, ground := Go.Ground.phase }, { on := 1, ground := Go.Ground.phase }, { on := 2, ground := Go.Ground.phase }, { on := 3, ground := Go.Ground.phase }, { on := 4, ground := Go.Ground.phase }, { on := 5, ground := Go.Ground.phase }, { on := 6, ground := Go.Ground.phase }, { on := 7, ground := Go.Ground.phase }, { on := 8, ground := Go.Ground.phase }, { on := 9, ground := Go.Ground.phase }, { on := 10, ground := Go.Ground.phase }, { on := 11, ground := Go.Ground.phase }, { on := 12, ground := Go.Ground.phase }, { on := 13, ground := Go.Ground.phase }, { on := 14, ground := Go.Ground.phase }, { on := 15, ground := Go.Ground.phase }, { on := 16, ground := Go.Ground.phase }, { on := 17, ground := Go.Ground.phase }, { on := 18, ground := Go.Ground.phase }, { on := 19, ground := Go.Ground.phase }, { on := 20, ground := Go.Ground.phase }, { on := 21, ground := Go.Ground.phase }, { on := 22, ground := Go.Ground.phase }, { on := 23, ground := Go.Ground.phase }, { on := 24, ground := Go.Ground.phase }, { on := 25, ground := Go.Ground.phase }, { on := 26, ground := Go.Ground.phase }, { on := 27, ground := Go.Ground.phase }], guard := none }) (v := ?v28tb) rfl (by kernel_rfl) (by kernel_rfl) (by kernel_rfl) (fun _ _ _ h => h) (Or.inl ⟨by rfl, ?hy28tb⟩) hHeld ?rest28tb
        case hy28tb =>
          intro w hSw
          try dsimp only at hSw
          go_simp
          try with_reducible rfl
        try simp only [Act.put, List.setIfInBounds_toArray, List.set_cons_zero, List.set_cons_succ]
        refine wpAnyH_done (by kernel_rfl) ?_ _
        refine NoPanic.normal ?_
        have hB8 := bstep bel (k8.1)
        clear k0 k1 k2 k3 k4 k5 k6 k7 k8
        go_wp2_with fail
        go_ret
        exact ⟨rfl, hB8⟩
end Go.Proofs.YtcdjfgkjllonhaaDoor
