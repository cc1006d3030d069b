/-
  The walk of changes, for any set, any integers and any list.
-/
import Derived.Test.YtcdjfgkjllonhaaDoorBcs
import Derived.Deep.CutBlock
namespace Go.Proofs.YtcdjfgkjllonhaaDoor
open Go.RowKit Go.Shelf

theorem one_sl (W : World) (x : Int) : Sl .i64 (W.alloc (.cells #[.int .i64 x] 3)) (some ⟨W.heap.size, 0, none⟩) 1 1 [x] := (Blk.new .i64 3 W [x]).sl (by simp)
theorem field1 (M : Int) (g : Option Addr) (n c : Nat) (W : World) : (Instr.field 31 (.agg #[.int .i64 M, .slice g n c]) 1).run Tryd.prog W = .ok (.slice g n c) W := by kernel_rfl
theorem not_j {N : Nat} {l : List Int} (i : Nat) : (decide ((i : Int) < (N : Int)) && !bt l i) = (decide (i < N) && jn true false false false (bt l i) (bt [] i)) := by
  rw [bt_nil, show decide ((i : Int) < (N : Int)) = decide (i < N) from decide_eq_decide.2 (by omega)]
  cases bt l i <;> simp [jn]
theorem one_j {N : Nat} {l : List Int} {x : Int} (h : rightB (N : Int) l = true) (h1 : x < (N : Int)) (i : Nat) :
    ((bt l i || decide ((i : Int) = x)) = (decide (i < N) && jn false true true true (bt l i) ([x].contains (i : Int)))) ∧ ((bt l i && !decide ((i : Int) = x)) = (decide (i < N) && jn false true false false (bt l i) ([x].contains (i : Int)))) := by
  have e : [x].contains (i : Int) = decide ((i : Int) = x) := by simp
  rw [e]
  by_cases hi : i < N
  · rw [decide_eq_true hi]
    cases bt l i <;> cases decide ((i : Int) = x) <;> simp [jn]
  · rw [decide_eq_false hi, (of_rightB h).out (by omega), decide_eq_false (show ¬ (i : Int) = x by omega)]
    simp

set_option maxRecDepth 100000 in
set_option maxHeartbeats 8000000 in
theorem changes_any (w : World) (hT : Tbz w) (N i m : Int) (a : Option Addr) (n c : Nat) (l : List Int) (al : Option Addr) (nl cl : Nat) (L : List Int) (s1 : SetIn w N a n c l) (hL : Sl .i64 w al nl cl L) :
    Calls Tryd.prog 14 #[.agg #[.int .i64 N, .slice a n c], .int .i64 i, .int .i64 m, .slice al nl cl] w fun e w' => e = .returned (.bool true) ∧ Below w.heap.size w w' := by
  obtain ⟨hB0, hTa⟩ := box1 w (.int .i64 N) (.slice a n c)
  have a0 := hTa.c0
  have a1 := hTa.c1
  have hn0 := s1.sl.2.2.1
  have hn1 := hL.2.2.1
  go_enter Tryd.func14, Tryd.ntmps14
  by_cases hlt : 20 < n
  · have d1 : decide ((20 : Int) < (n : Int)) = true := decide_eq_true (by omega)
    go_wp2_with fail
    go_ret
    exact ⟨rfl, hB0⟩
  have d1 : decide ((20 : Int) < (n : Int)) = false := decide_eq_false (by omega)
  by_cases hlt2 : 100 < nl
  · have d2 : decide ((100 : Int) < (nl : Int)) = true := decide_eq_true (by omega)
    go_wp2_with fail
    go_ret
    exact ⟨rfl, hB0⟩
  have d2 : decide ((100 : Int) < (nl : Int)) = false := decide_eq_false (by omega)
  go_upto_region 3 with fail
  clear a0 a1 d1 d2
  obtain ⟨V0, hV0⟩ : ∃ V, V = (w.alloc (.cells #[.int .i64 N, .slice a n c] 24)) := ⟨_, rfl⟩
  rw [← hV0] at hB0 hTa ⊢
  clear hV0
  go_cut [9] from 35 to 41 (fun P wx => ∃ (xb : Nat) (g : Option Addr) (c3 : Nat), P = .pointer (some ⟨xb, 0, none⟩) ∧ Below w.heap.size w wx ∧ Two wx xb 24 (.int .i64 N) (.slice g n c3) ∧ wx.ownsRow w.heap.size 30 1 (.slice g (n + 12) c3) (n + 12) ((l ++ marksF markN 12).map (Value.int .u64)) ∧ Rng g w.heap.size wx.heap.size ∧ Two wx w.heap.size 24 (.int .i64 N) (.slice a n c))
  case first =>
    refine wp_region_noPanic ?_
    refine wp_region_held_drew (S := fun W => Below w.heap.size w W ∧ W.cell? ⟨w.heap.size, 0, none⟩ = some (.int .i64 N) ∧ W.cell? ⟨w.heap.size, 1, none⟩ = some (.slice a n c)) (by kernel_rfl) (⟨hB0.drew, (two_drew hTa).c0, (two_drew hTa).c1⟩) (fun hHeld => ?_)
    obtain ⟨x0, hx00⟩ : ∃ wz, wz = V0.drew := ⟨_, rfl⟩
    have hzx0 : V0.heap.size ≤ x0.heap.size := by rw [hx00]; exact Nat.le_refl _
    have hbx0 : Below w.heap.size w x0 := by rw [hx00]; exact hB0.drew
    have hTax0 : Two x0 w.heap.size 24 (.int .i64 N) (.slice a n c) := by rw [hx00]; exact two_drew hTa
    have hv1 := hTa.lt
    have hw0 := hbx0.size
    rw [← hx00] at hHeld ⊢
    clear hx00 hB0 hTa
    refine wpAnyH_take (i := 0) (oi := { dst := some 35, op := Go.Op.fieldAddr 24 (Go.Operand.tmp 4) 0, type := 0, pos := "law.go:83", after := #[], guard := none }) (v := ?v0x1) rfl (by kernel_rfl) (by kernel_rfl) (by kernel_rfl) (fun _ _ _ h => h) (Or.inl ⟨by rfl, ?hy0x1⟩) hHeld ?rest0x1
    case hy0x1 =>
      intro w hSw
      try dsimp only at hSw
      go_simp
      try with_reducible rfl
    try simp only [Act.put, List.setIfInBounds_toArray, List.set_cons_zero, List.set_cons_succ]
    refine wpAnyH_take (i := 1) (oi := { dst := some 36, op := Go.Op.load 3 (Go.Operand.tmp 35), type := 3, pos := "law.go:83", after := #[{ on := 0, ground := Go.Ground.data }], guard := none }) (v := ?v1x2) rfl (by kernel_rfl) (by kernel_rfl) (by kernel_rfl) (fun _ _ _ h => h) (Or.inl ⟨by rfl, ?hy1x2⟩) hHeld ?rest1x2
    case hy1x2 =>
      intro w hSw
      try dsimp only at hSw
      go_simp
      try with_reducible rfl
    try simp only [Act.put, List.setIfInBounds_toArray, List.set_cons_zero, List.set_cons_succ]
    refine wpAnyH_take (i := 2) (oi := { dst := some 37, op := Go.Op.fieldAddr 24 (Go.Operand.tmp 4) 1, type := 0, pos := "law.go:83", after := #[], guard := none }) (v := ?v2x3) rfl (by kernel_rfl) (by kernel_rfl) (by kernel_rfl) (fun _ _ _ h => h) (Or.inl ⟨by rfl, ?hy2x3⟩) hHeld ?rest2x3
    case hy2x3 =>
      intro w hSw
      try dsimp only at hSw
      go_simp
      try with_reducible rfl
    try simp only [Act.put, List.setIfInBounds_toArray, List.set_cons_zero, List.set_cons_succ]
    refine wpAnyH_take (i := 3) (oi := { dst := some 38, op := Go.Op.load 22 (Go.Operand.tmp 37), type := 22, pos := "law.go:83", after := #[{ on := 2, ground := Go.Ground.data }], guard := none }) (v := ?v3x4) rfl (by kernel_rfl) (by kernel_rfl) (by kernel_rfl) (fun _ _ _ h => h) (Or.inl ⟨by rfl, ?hy3x4⟩) hHeld ?rest3x4
    case hy3x4 =>
      intro w hSw
      try dsimp only at hSw
      go_simp
      try with_reducible rfl
    try simp only [Act.put, List.setIfInBounds_toArray, List.set_cons_zero, List.set_cons_succ]
    refine wpAnyH_ready (rs := [4, 6]) (by kernel_rfl) (by simp) ?_
    refine AllReadyH.cons (o := { dst := some 39, op := Go.Op.call { callee := Go.Callee.value (Go.Operand.func 38), args := #[Go.Operand.tmp 38], argTypes := #[22] }, type := 22, pos := "law.go:83", after := #[{ on := 3, ground := Go.Ground.data }], guard := none }) rfl (fun K hK => ?_) (AllReadyH.cons (o := { dst := some 9, op := Go.Op.alloc 24, type := 0, pos := "law.go:83", after := #[], guard := none }) rfl (fun K hK => ?_) AllReadyH.nil)
    · go_simp
      refine (lentN_any x0 a n c l (s1.sl.below hbx0) (by omega)).mono ?_
      unfold LentN
      rintro e x1 ⟨g4, c4, rfl, ho4x1, hDx1⟩
      have hbx1 := bstep hbx0 hDx1
      have hzx1 := hDx1.size
      have hTax1 := hTax0.step hDx1
      have hq4 := fun q e => own_blk ho4x1 (k := q) e
      have hR4 := Rng.own ho4x1
      go_wp2_with fail
      refine hK.out _ _ (⟨hbx1, hTax1.c0, hTax1.c1⟩) (fun hHeld => ?_)
      clear hK K
      try simp only [Act.put, List.setIfInBounds_toArray, List.set_cons_zero, List.set_cons_succ]
      refine wpAnyH_take (i := 5) (oi := { dst := some 40, op := Go.Op.build 24 #[(0, Go.Operand.tmp 36), (1, Go.Operand.tmp 39)], type := 24, pos := "law.go:83", after := #[{ on := 1, ground := Go.Ground.data }, { on := 4, ground := Go.Ground.data }], guard := none }) (v := ?v5x6) rfl (by kernel_rfl) (by kernel_rfl) (by kernel_rfl) (fun _ _ _ h => h) (Or.inl ⟨by rfl, ?hy5x6⟩) hHeld ?rest5x6
      case hy5x6 =>
        intro w hSw
        try dsimp only at hSw
        go_simp
        try with_reducible rfl
      try simp only [Act.put, List.setIfInBounds_toArray, List.set_cons_zero, List.set_cons_succ]
      refine wpAnyH_ready (rs := [6]) (by kernel_rfl) (by simp) ?_
      refine AllReadyH.cons (o := { dst := some 9, op := Go.Op.alloc 24, type := 0, pos := "law.go:83", after := #[], guard := none }) rfl (fun K hK => ?_) AllReadyH.nil
      · obtain ⟨x2, hwx2⟩ : ∃ wz, wz = x1.alloc (.cells #[.int .i64 0, .slice none 0 0] 24) := ⟨_, rfl⟩
        have hDx2 : Below x1.heap.size x1 x2 := by rw [hwx2]; exact (Below.refl _ _).alloc (Nat.le_refl _) _
        have ht6x2 : Two x2 x1.heap.size 24 (.int .i64 0) (.slice none 0 0) := by rw [hwx2]; exact Two.new _ _ _ _
        have hbx2 := bstep hbx1 hDx2
        have hzx2 := hDx2.size
        have hTax2 := hTax1.step hDx2
        have ho4x2 := ownsRow_below ho4x1 hDx2
        have hk6 := ht6x2.lt
        have hg6 : V0.heap.size ≤ x1.heap.size := by omega
        go_simp
        rw [← hwx2]
        clear hwx2
        refine hK.out _ _ (⟨hbx2, hTax2.c0, hTax2.c1⟩) (fun hHeld => ?_)
        clear hK K
        try simp only [Act.put, List.setIfInBounds_toArray, List.set_cons_zero, List.set_cons_succ]
        refine wpAnyH_ready (rs := [7]) (by kernel_rfl) (by simp) ?_
        refine AllReadyH.cons (o := { dst := none, op := Go.Op.store 24 (Go.Operand.tmp 9) (Go.Operand.tmp 40), type := 0, pos := "law.go:83", after := #[{ on := 6, ground := Go.Ground.data }, { on := 5, ground := Go.Ground.data }, { on := 4, ground := Go.Ground.chain }, { on := 0, ground := Go.Ground.phase }, { on := 1, ground := Go.Ground.phase }, { on := 2, ground := Go.Ground.phase }, { on := 3, ground := Go.Ground.phase }, { on := 4, ground := Go.Ground.phase }, { on := 5, ground := Go.Ground.phase }, { on := 6, ground := Go.Ground.phase }], guard := none }) rfl (fun K hK => ?_) AllReadyH.nil
        · have q0 := ht6x2.c0
          have q1 := ht6x2.c1
          have q2 := ht6x2.f0
          have q3 := ht6x2.f1
          obtain ⟨x3, hwx3⟩ : ∃ wz, wz = ((x2.setCell ⟨x1.heap.size, 0, none⟩ (.int .i64 N)).setCell ⟨x1.heap.size, 1, none⟩ (.slice g4 n c4)) := ⟨_, rfl⟩
          have hbx3 : Below w.heap.size w x3 := by rw [hwx3]; exact (hbx2.setCell (p := ⟨x1.heap.size, 0, none⟩) (by show w.heap.size ≤ x1.heap.size; omega) _).setCell (p := ⟨x1.heap.size, 1, none⟩) (by show w.heap.size ≤ x1.heap.size; omega) _
          have hzx3 : x2.heap.size ≤ x3.heap.size := by rw [hwx3]; simp
          have ht6x3 : Two x3 x1.heap.size 24 (.int .i64 N) (.slice g4 n c4) := by rw [hwx3]; exact put1 (put0 ht6x2 _) _
          have hTax3 : Two x3 w.heap.size 24 (.int .i64 N) (.slice a n c) := by rw [hwx3]; exact two_set (two_set hTax2 (by omega) _ _) (by omega) _ _
          have ho4x3 : x3.ownsRow x0.heap.size 30 1 (.slice g4 (n + 12) c4) (n + 12) ((l ++ marksF markN 12).map (Value.int .u64)) := by rw [hwx3]; exact own_nej (own_nej ho4x2 (fun q e => by have := hq4 q e; omega) _ _) (fun q e => by have := hq4 q e; omega) _ _
          go_simp
          rw [← hwx3]
          clear hwx3 q0 q1 q2 q3
          refine hK.out _ _ (⟨hbx3, hTax3.c0, hTax3.c1⟩) (fun hHeld => ?_)
          clear hK K
          try simp only [Act.put, List.setIfInBounds_toArray, List.set_cons_zero, List.set_cons_succ]
          refine wpAnyH_done (by kernel_rfl) ?_ _
          refine NoPanic.normal ?_
          go_wp2_with fail
          go_meet
          case rel => exact ⟨_, g4, c4, rfl, hbx3, ht6x3, own_base ho4x3 (by omega), (fun q e => by have := hR4 q e; omega), hTax3⟩
    · obtain ⟨x4, hwx4⟩ : ∃ wz, wz = x0.alloc (.cells #[.int .i64 0, .slice none 0 0] 24) := ⟨_, rfl⟩
      have hDx4 : Below x0.heap.size x0 x4 := by rw [hwx4]; exact (Below.refl _ _).alloc (Nat.le_refl _) _
      have ht6x4 : Two x4 x0.heap.size 24 (.int .i64 0) (.slice none 0 0) := by rw [hwx4]; exact Two.new _ _ _ _
      have hbx4 := bstep hbx0 hDx4
      have hzx4 := hDx4.size
      have hTax4 := hTax0.step hDx4
      have hk6 := ht6x4.lt
      have hg6 : V0.heap.size ≤ x0.heap.size := by omega
      go_simp
      rw [← hwx4]
      clear hwx4
      refine hK.out _ _ (⟨hbx4, hTax4.c0, hTax4.c1⟩) (fun hHeld => ?_)
      clear hK K
      try simp only [Act.put, List.setIfInBounds_toArray, List.set_cons_zero, List.set_cons_succ]
      refine wpAnyH_ready (rs := [4]) (by kernel_rfl) (by simp) ?_
      refine AllReadyH.cons (o := { dst := some 39, op := Go.Op.call { callee := Go.Callee.value (Go.Operand.func 38), args := #[Go.Operand.tmp 38], argTypes := #[22] }, type := 22, pos := "law.go:83", after := #[{ on := 3, ground := Go.Ground.data }], guard := none }) rfl (fun K hK => ?_) AllReadyH.nil
      · go_simp
        refine (lentN_any x4 a n c l (s1.sl.below hbx4) (by omega)).mono ?_
        unfold LentN
        rintro e x5 ⟨g4, c4, rfl, ho4x5, hDx5⟩
        have hbx5 := bstep hbx4 hDx5
        have hzx5 := hDx5.size
        have hTax5 := hTax4.step hDx5
        have ht6x5 := ht6x4.step hDx5
        have hq4 := fun q e => own_blk ho4x5 (k := q) e
        have hR4 := Rng.own ho4x5
        go_wp2_with fail
        refine hK.out _ _ (⟨hbx5, hTax5.c0, hTax5.c1⟩) (fun hHeld => ?_)
        clear hK K
        try simp only [Act.put, List.setIfInBounds_toArray, List.set_cons_zero, List.set_cons_succ]
        refine wpAnyH_take (i := 5) (oi := { dst := some 40, op := Go.Op.build 24 #[(0, Go.Operand.tmp 36), (1, Go.Operand.tmp 39)], type := 24, pos := "law.go:83", after := #[{ on := 1, ground := Go.Ground.data }, { on := 4, ground := Go.Ground.data }], guard := none }) (v := ?v5x11) rfl (by kernel_rfl) (by kernel_rfl) (by kernel_rfl) (fun _ _ _ h => h) (Or.inl ⟨by rfl, ?hy5x11⟩) hHeld ?rest5x11
        case hy5x11 =>
          intro w hSw
          try dsimp only at hSw
          go_simp
          try with_reducible rfl
        try simp only [Act.put, List.setIfInBounds_toArray, List.set_cons_zero, List.set_cons_succ]
        refine wpAnyH_ready (rs := [7]) (by kernel_rfl) (by simp) ?_
        refine AllReadyH.cons (o := { dst := none, op := Go.Op.store 24 (Go.Operand.tmp 9) (Go.Operand.tmp 40), type := 0, pos := "law.go:83", after := #[{ on := 6, ground := Go.Ground.data }, { on := 5, ground := Go.Ground.data }, { on := 4, ground := Go.Ground.chain }, { on := 0, ground := Go.Ground.phase }, { on := 1, ground := Go.Ground.phase }, { on := 2, ground := Go.Ground.phase }, { on := 3, ground := Go.Ground.phase }, { on := 4, ground := Go.Ground.phase }, { on := 5, ground := Go.Ground.phase }, { on := 6, ground := Go.Ground.phase }], guard := none }) rfl (fun K hK => ?_) AllReadyH.nil
        · have q0 := ht6x5.c0
          have q1 := ht6x5.c1
          have q2 := ht6x5.f0
          have q3 := ht6x5.f1
          obtain ⟨x6, hwx6⟩ : ∃ wz, wz = ((x5.setCell ⟨x0.heap.size, 0, none⟩ (.int .i64 N)).setCell ⟨x0.heap.size, 1, none⟩ (.slice g4 n c4)) := ⟨_, rfl⟩
          have hbx6 : Below w.heap.size w x6 := by rw [hwx6]; exact (hbx5.setCell (p := ⟨x0.heap.size, 0, none⟩) (by show w.heap.size ≤ x0.heap.size; omega) _).setCell (p := ⟨x0.heap.size, 1, none⟩) (by show w.heap.size ≤ x0.heap.size; omega) _
          have hzx6 : x5.heap.size ≤ x6.heap.size := by rw [hwx6]; simp
          have ht6x6 : Two x6 x0.heap.size 24 (.int .i64 N) (.slice g4 n c4) := by rw [hwx6]; exact put1 (put0 ht6x5 _) _
          have hTax6 : Two x6 w.heap.size 24 (.int .i64 N) (.slice a n c) := by rw [hwx6]; exact two_set (two_set hTax5 (by omega) _ _) (by omega) _ _
          have ho4x6 : x6.ownsRow x4.heap.size 30 1 (.slice g4 (n + 12) c4) (n + 12) ((l ++ marksF markN 12).map (Value.int .u64)) := by rw [hwx6]; exact own_nej (own_nej ho4x5 (fun q e => by have := hq4 q e; omega) _ _) (fun q e => by have := hq4 q e; omega) _ _
          go_simp
          rw [← hwx6]
          clear hwx6 q0 q1 q2 q3
          refine hK.out _ _ (⟨hbx6, hTax6.c0, hTax6.c1⟩) (fun hHeld => ?_)
          clear hK K
          try simp only [Act.put, List.setIfInBounds_toArray, List.set_cons_zero, List.set_cons_succ]
          refine wpAnyH_done (by kernel_rfl) ?_ _
          refine NoPanic.normal ?_
          go_wp2_with fail
          go_meet
          case rel => exact ⟨_, g4, c4, rfl, hbx6, ht6x6, own_base ho4x6 (by omega), (fun q e => by have := hR4 q e; omega), hTax6⟩
  case rest =>
    obtain ⟨xb, g, c3, rfl, bel, tX, oX, hRg, tA⟩ := hcut
    clear hB0 hTa
    have HC : Hid (Chain w.heap.size [(g, n, c3, l)] _) := Lib.hid ⟨_, bel.size, hRg, Nat.le_refl _⟩
    have hs9 := Nat.le_refl wc.heap.size
    clear hRg
    have q := lentI_any _ al nl cl L (hL.below bel) (by omega)
    go_wp2_with fail
    refine q.mono ?_
    rintro e v1 ⟨gl, c5, rfl, sL, hD⟩
    have hs9 := Nat.le_trans hs9 hD.size
    replace bel := bstep bel hD
    replace tX := tX.step hD
    replace tA := tA.step hD
    replace oX := ownsRow_below oX hD
    clear q hD
    have tR := Two.new v1 31 (.int .i64 N) (.slice a n c)
    have hA9 : Below v1.heap.size v1 (v1.alloc (.cells #[.int .i64 N, .slice a n c] 31)) := (Below.refl _ _).alloc (Nat.le_refl _) _
    have hs9 := Nat.le_trans hs9 hA9.size
    have dtA0 := tA.c0
    have dtA1 := tA.c1
    replace bel := bstep bel hA9
    replace tX := tX.step hA9
    replace tA := tA.step hA9
    replace oX := ownsRow_below oX hA9
    replace sL := sL.below hA9
    clear hA9
    have q := newA (v1.alloc (.cells #[.int .i64 N, .slice a n c] 31)) m
    unfold AnsE at q
    go_wp2_with fail
    refine q.mono ?_
    rintro e uN ⟨NN, gN, kN, cN, RN, xN, rfl, hO, hw, hP, hD⟩
    have hA9 : Below uN.heap.size uN (uN.alloc (.cells #[.int .i64 NN, .slice gN kN cN] 24)) := (Below.refl _ _).alloc (Nat.le_refl _) _
    have HC2 := HC.out.snoc (t := (gN, kN, cN, RN)) hD.size hs9 (Rng.own hO)
    clear HC
    have HC := Lib.hid HC2
    have HPN := Lib.hid (And.intro hw hP)
    have hb9 := bel.size
    have vN : AnV w _ uN.heap.size NN gN kN cN RN := ⟨Two.new _ _ _ _, ownsRow_below (own_base hO hb9) hA9⟩
    replace bel := bstep bel hD
    replace tX := tX.step hD
    replace tA := tA.step hD
    replace tR := tR.step hD
    replace oX := ownsRow_below oX hD
    replace sL := sL.below hD
    replace bel := bstep bel hA9
    replace tX := tX.step hA9
    replace tA := tA.step hA9
    replace tR := tR.step hA9
    replace oX := ownsRow_below oX hA9
    replace sL := sL.below hA9
    clear hs9
    have hs9 := hA9.size
    clear q hA9 hD hO hw hP HC2 hb9 dtA0 dtA1
    have q := ofA _ m gl nl c5 L (sl_cut hL.1 sL)
    unfold AnsE at q
    go_wp2_with fail
    refine q.mono ?_
    rintro e uO ⟨NO, gO, kO, cO, RO, xO, rfl, hO, hw, hP, hD⟩
    have hA9 : Below uO.heap.size uO (uO.alloc (.cells #[.int .i64 NO, .slice gO kO cO] 24)) := (Below.refl _ _).alloc (Nat.le_refl _) _
    have HC2 := HC.out.snoc (t := (gO, kO, cO, RO)) hD.size hs9 (Rng.own hO)
    clear HC
    have HC := Lib.hid HC2
    have HPO := Lib.hid (And.intro hw hP)
    have hb9 := bel.size
    have vO : AnV w _ uO.heap.size NO gO kO cO RO := ⟨Two.new _ _ _ _, ownsRow_below (own_base hO hb9) hA9⟩
    replace bel := bstep bel hD
    replace tX := tX.step hD
    replace tA := tA.step hD
    replace tR := tR.step hD
    replace vN := vN.step hD
    replace oX := ownsRow_below oX hD
    replace sL := sL.below hD
    replace bel := bstep bel hA9
    replace tX := tX.step hA9
    replace tA := tA.step hA9
    replace tR := tR.step hA9
    replace vN := vN.step hA9
    replace oX := ownsRow_below oX hA9
    replace sL := sL.below hA9
    clear hs9
    have hs9 := hA9.size
    clear q hA9 hD hO hw hP HC2 hb9
    have sX : SetIn _ N g n c3 l := ⟨lent_sl s1.sl.1 oX, s1.wds, s1.low, s1.high, hT.step bel⟩
    have dtX0 := tX.c0
    have dtX1 := tX.c1
    have q := withA _ N i g n c3 l sX
    unfold AnsE at q
    go_wp2_with fail
    refine q.mono ?_
    rintro e uW ⟨NW, gW, kW, cW, RW, xW, rfl, hO, hw, hP, hD⟩
    have hA9 : Below uW.heap.size uW (uW.alloc (.cells #[.int .i64 NW, .slice gW kW cW] 24)) := (Below.refl _ _).alloc (Nat.le_refl _) _
    have HC2 := HC.out.snoc (t := (gW, kW, cW, RW)) hD.size hs9 (Rng.own hO)
    clear HC
    have HC := Lib.hid HC2
    have HPW := Lib.hid (And.intro hw hP)
    have hb9 := bel.size
    have vW : AnV w _ uW.heap.size NW gW kW cW RW := ⟨Two.new _ _ _ _, ownsRow_below (own_base hO hb9) hA9⟩
    replace bel := bstep bel hD
    replace tX := tX.step hD
    replace tA := tA.step hD
    replace tR := tR.step hD
    replace vN := vN.step hD
    replace vO := vO.step hD
    replace oX := ownsRow_below oX hD
    replace sL := sL.below hD
    replace bel := bstep bel hA9
    replace tX := tX.step hA9
    replace tA := tA.step hA9
    replace tR := tR.step hA9
    replace vN := vN.step hA9
    replace vO := vO.step hA9
    replace oX := ownsRow_below oX hA9
    replace sL := sL.below hA9
    clear hs9
    have hs9 := hA9.size
    clear q hA9 hD hO hw hP HC2 hb9 dtX0 dtX1 sX
    have sX : SetIn _ N g n c3 l := ⟨lent_sl s1.sl.1 oX, s1.wds, s1.low, s1.high, hT.step bel⟩
    have dtX0 := tX.c0
    have dtX1 := tX.c1
    have q := withoutA _ N i g n c3 l sX
    unfold AnsE at q
    go_wp2_with fail
    refine q.mono ?_
    rintro e uS ⟨NS, gS, kS, cS, RS, xS, rfl, hO, hw, hP, hD⟩
    have hA9 : Below uS.heap.size uS (uS.alloc (.cells #[.int .i64 NS, .slice gS kS cS] 24)) := (Below.refl _ _).alloc (Nat.le_refl _) _
    have HC2 := HC.out.snoc (t := (gS, kS, cS, RS)) hD.size hs9 (Rng.own hO)
    clear HC
    have HC := Lib.hid HC2
    have HPS := Lib.hid (And.intro hw hP)
    have hb9 := bel.size
    have vS : AnV w _ uS.heap.size NS gS kS cS RS := ⟨Two.new _ _ _ _, ownsRow_below (own_base hO hb9) hA9⟩
    replace bel := bstep bel hD
    replace tX := tX.step hD
    replace tA := tA.step hD
    replace tR := tR.step hD
    replace vN := vN.step hD
    replace vO := vO.step hD
    replace vW := vW.step hD
    replace oX := ownsRow_below oX hD
    replace sL := sL.below hD
    replace bel := bstep bel hA9
    replace tX := tX.step hA9
    replace tA := tA.step hA9
    replace tR := tR.step hA9
    replace vN := vN.step hA9
    replace vO := vO.step hA9
    replace vW := vW.step hA9
    replace oX := ownsRow_below oX hA9
    replace sL := sL.below hA9
    clear hs9
    have hs9 := hA9.size
    clear q hA9 hD hO hw hP HC2 hb9 dtX0 dtX1 sX
    have sX : SetIn _ N g n c3 l := ⟨lent_sl s1.sl.1 oX, s1.wds, s1.low, s1.high, hT.step bel⟩
    have dtX0 := tX.c0
    have dtX1 := tX.c1
    have q := notA _ N g n c3 l sX
    unfold AnsE at q
    go_wp2_with fail
    refine q.mono ?_
    rintro e uT ⟨NT, gT, kT, cT, RT, xT, rfl, hO, hw, hP, hD⟩
    have hA9 : Below uT.heap.size uT (uT.alloc (.cells #[.int .i64 NT, .slice gT kT cT] 24)) := (Below.refl _ _).alloc (Nat.le_refl _) _
    have HC2 := HC.out.snoc (t := (gT, kT, cT, RT)) hD.size hs9 (Rng.own hO)
    clear HC
    have HC := Lib.hid HC2
    have HPT := Lib.hid (And.intro hw hP)
    have hb9 := bel.size
    have vT : AnV w _ uT.heap.size NT gT kT cT RT := ⟨Two.new _ _ _ _, ownsRow_below (own_base hO hb9) hA9⟩
    replace bel := bstep bel hD
    replace tX := tX.step hD
    replace tA := tA.step hD
    replace tR := tR.step hD
    replace vN := vN.step hD
    replace vO := vO.step hD
    replace vW := vW.step hD
    replace vS := vS.step hD
    replace oX := ownsRow_below oX hD
    replace sL := sL.below hD
    replace bel := bstep bel hA9
    replace tX := tX.step hA9
    replace tA := tA.step hA9
    replace tR := tR.step hA9
    replace vN := vN.step hA9
    replace vO := vO.step hA9
    replace vW := vW.step hA9
    replace vS := vS.step hA9
    replace oX := ownsRow_below oX hA9
    replace sL := sL.below hA9
    clear hs9
    have hs9 := hA9.size
    clear q hA9 hD hO hw hP HC2 hb9 dtX0 dtX1 sX
    clear hs9
    go_upto_region 11 with fail
    obtain ⟨V6, hV6⟩ : ∃ V, V = (uT.alloc (.cells #[.int .i64 NT, .slice gT kT cT] 24)) := ⟨_, rfl⟩
    rw [← hV6] at bel tX tA tR vN vO vW vS vT oX sL ⊢
    clear hV6
    go_cut [22] from 76 to 82 (fun P wx => P = .bool (inB m) ∧ wx = V6)
    case first =>
      by_cases h0 : 0 ≤ m
      · by_cases h1 : m ≤ 65536
        · go_wp2_with fail
          go_meet
          case rel => exact ⟨by simp [inB, h0, h1], rfl⟩
        · go_wp2_with fail
          go_meet
          case rel => exact ⟨by simp [inB, h0, h1], rfl⟩
      · go_wp2_with fail
        go_meet
        case rel => exact ⟨by unfold inB; rw [decide_eq_false (show ¬ 0 ≤ m by omega)]; rfl, rfl⟩
    case rest =>
      obtain ⟨rfl, hw⟩ := hcut
      rw [hw]
      clear hw
      go_upto_region 12 with fail
      go_cut [22, 109] from 82 to 109 (fun B P wx => B = .bool (inB m) ∧ P = .bool false ∧ Below V6.heap.size V6 wx)
      case first =>
        cases hin : inB m with
        | true =>
          have HIN := Lib.hid hin
          obtain ⟨hwN, hPN⟩ := HPN.out
          obtain ⟨e1, e2, hkN, hbN⟩ := hPN.1 hin
          replace e2 := e2.symm
          subst e1 e2
          obtain ⟨hm0, hm6⟩ := inB_yes hin
          obtain ⟨M, hM⟩ : ∃ k : Nat, m = (k : Int) := ⟨m.toNat, by omega⟩
          subst hM
          have hM6 : M ≤ 65536 := by omega
          rw [Int.toNat_natCast] at hkN
          have HwN := Lib.hid (And.intro hwN hbN)
          clear hwN hbN hPN HPN hin
          have HkN := Lib.hid hkN
          clear hkN
          have k0 : Below V6.heap.size V6 V6.drew ∧ V6.drew.cell? ⟨uN.heap.size, 0, none⟩ = some (.int .i64 (M : Int)) ∧ V6.drew.cell? ⟨uN.heap.size, 1, none⟩ = some (.slice gN kN cN) := ⟨(Below.refl _ _).drew, ((vN.two).step ((Below.refl _ _).drew)).c0, ((vN.two).step ((Below.refl _ _).drew)).c1⟩
          refine wp_region_noPanic ?_
          refine wp_region_held_drew (S := fun W => Below V6.heap.size V6 W ∧ W.cell? ⟨uN.heap.size, 0, none⟩ = some (.int .i64 (M : Int)) ∧ W.cell? ⟨uN.heap.size, 1, none⟩ = some (.slice gN kN cN)) (by kernel_rfl) (k0) (fun hHeld => ?_)
          refine wpAnyH_take (i := 0) (oi := { dst := some 82, op := Go.Op.move (Go.Operand.tmp 22), type := 4, pos := "law.go:92", after := #[], guard := none }) (v := ?v0za) rfl (by kernel_rfl) (by kernel_rfl) (by kernel_rfl) (fun _ _ _ h => h) (Or.inl ⟨by rfl, ?hy0za⟩) hHeld ?rest0za
          case hy0za =>
            intro w hSw
            try dsimp only at hSw
            go_simp
            try with_reducible rfl
          try simp only [Act.put, List.setIfInBounds_toArray, List.set_cons_zero, List.set_cons_succ]
          refine wpAnyH_take (i := 1) (oi := { dst := some 83, op := Go.Op.move (Go.Operand.tmp 13), type := 35, pos := "law.go:92", after := #[], guard := none }) (v := ?v1za) rfl (by kernel_rfl) (by kernel_rfl) (by kernel_rfl) (fun _ _ _ h => h) (Or.inl ⟨by rfl, ?hy1za⟩) hHeld ?rest1za
          case hy1za =>
            intro w hSw
            try dsimp only at hSw
            go_simp
            try with_reducible rfl
          try simp only [Act.put, List.setIfInBounds_toArray, List.set_cons_zero, List.set_cons_succ]
          refine wpAnyH_take (i := 2) (oi := { dst := some 84, op := Go.Op.binOp Go.BinOp.eql 35 (Go.Operand.tmp 83) (Go.Operand.const (Go.Value.int Go.IntKind.i64 0)) 35, type := 4, pos := "law.go:92", after := #[{ on := 1, ground := Go.Ground.data }], guard := none }) (v := ?v2za) rfl (by kernel_rfl) (by kernel_rfl) (by kernel_rfl) (fun _ _ _ h => h) (Or.inl ⟨by rfl, ?hy2za⟩) hHeld ?rest2za
          case hy2za =>
            intro w hSw
            try dsimp only at hSw
            go_simp
            try with_reducible rfl
          try simp only [Act.put, List.setIfInBounds_toArray, List.set_cons_zero, List.set_cons_succ]
          refine wpAnyH_take (i := 3) (oi := { dst := some 85, op := Go.Op.binOp Go.BinOp.neq 4 (Go.Operand.tmp 82) (Go.Operand.tmp 84) 4, type := 4, pos := "law.go:92", after := #[{ on := 0, ground := Go.Ground.data }, { on := 2, ground := Go.Ground.data }], guard := none }) (v := ?v3za) rfl (by kernel_rfl) (by kernel_rfl) (by kernel_rfl) (fun _ _ _ h => h) (Or.inl ⟨by rfl, ?hy3za⟩) hHeld ?rest3za
          case hy3za =>
            intro w hSw
            try dsimp only at hSw
            go_simp
            try with_reducible rfl
          try simp only [Act.put, List.setIfInBounds_toArray, List.set_cons_zero, List.set_cons_succ]
          refine wpAnyH_take (i := 4) (oi := { dst := some 86, op := Go.Op.move (Go.Operand.tmp 85), type := 4, pos := "law.go:92", after := #[{ on := 3, ground := Go.Ground.data }], guard := none }) (v := ?v4za) rfl (by kernel_rfl) (by kernel_rfl) (by kernel_rfl) (fun _ _ _ h => h) (Or.inl ⟨by rfl, ?hy4za⟩) hHeld ?rest4za
          case hy4za =>
            intro w hSw
            try dsimp only at hSw
            go_simp
            try with_reducible rfl
          try simp only [Act.put, List.setIfInBounds_toArray, List.set_cons_zero, List.set_cons_succ]
          refine wpAnyH_take (i := 5) (oi := { dst := some 87, op := Go.Op.move (Go.Operand.tmp 22), type := 4, pos := "law.go:92", after := #[{ on := 4, ground := Go.Ground.guard }], guard := some (4, false) }) (v := ?v5za) rfl (by kernel_rfl) (by kernel_rfl) (by kernel_rfl) (fun _ _ _ h => h) (Or.inl ⟨by rfl, ?hy5za⟩) hHeld ?rest5za
          case hy5za =>
            intro w hSw
            try dsimp only at hSw
            go_simp
            try with_reducible rfl
          try simp only [Act.put, List.setIfInBounds_toArray, List.set_cons_zero, List.set_cons_succ]
          refine wpAnyH_take (i := 6) (oi := { dst := some 88, op := Go.Op.move (Go.Operand.tmp 87), type := 4, pos := "law.go:92", after := #[{ on := 5, ground := Go.Ground.data }, { on := 4, ground := Go.Ground.chain }, { on := 4, ground := Go.Ground.guard }], guard := some (4, false) }) (v := ?v6za) rfl (by kernel_rfl) (by kernel_rfl) (by kernel_rfl) (fun _ _ _ h => h) (Or.inl ⟨by rfl, ?hy6za⟩) hHeld ?rest6za
          case hy6za =>
            intro w hSw
            try dsimp only at hSw
            go_simp
            try with_reducible rfl
          try simp only [Act.put, List.setIfInBounds_toArray, List.set_cons_zero, List.set_cons_succ]
          refine wpAnyH_take (i := 7) (oi := { dst := some 89, op := Go.Op.load 24 (Go.Operand.tmp 12), type := 24, pos := "law.go:92", after := #[{ on := 6, ground := Go.Ground.guard }], guard := some (6, true) }) (v := ?v7za) rfl (by kernel_rfl) (by kernel_rfl) (by kernel_rfl) (fun _ _ _ h => h) (Or.inl ⟨by rfl, ?hy7za⟩) hHeld ?rest7za
          case hy7za =>
            intro w hSw
            try dsimp only at hSw
            go_simp
            try with_reducible rfl
          try simp only [Act.put, List.setIfInBounds_toArray, List.set_cons_zero, List.set_cons_succ]
          refine wpAnyH_take (i := 8) (oi := { dst := some 90, op := Go.Op.move (Go.Operand.tmp 2), type := 3, pos := "law.go:92", after := #[{ on := 6, ground := Go.Ground.guard }], guard := some (6, true) }) (v := ?v8za) rfl (by kernel_rfl) (by kernel_rfl) (by kernel_rfl) (fun _ _ _ h => h) (Or.inl ⟨by rfl, ?hy8za⟩) hHeld ?rest8za
          case hy8za =>
            intro w hSw
            try dsimp only at hSw
            go_simp
            try with_reducible rfl
          try simp only [Act.put, List.setIfInBounds_toArray, List.set_cons_zero, List.set_cons_succ]
          refine wpAnyH_ready (rs := [9]) (by kernel_rfl) (by simp) ?_
          refine AllReadyH.cons (o := { dst := some 91, op := Go.Op.call { callee := Go.Callee.value (Go.Operand.func 16), args := #[Go.Operand.tmp 90, Go.Operand.const (Go.Value.slice none 0 0)], argTypes := #[3, 27] }, type := 31, pos := "law.go:92", after := #[{ on := 8, ground := Go.Ground.data }, { on := 6, ground := Go.Ground.chain }, { on := 6, ground := Go.Ground.guard }], guard := some (6, true) }) rfl (fun K hK => ?_) AllReadyH.nil
          go_simp
          refine (rofQ _ M kN none 0 0 [] (Sl.nil _ _) hM6 (by simp) HkN.out).mono ?_
          unfold SetQ
          rintro e j0 ⟨gj, cj, Rj, rfl, hj, hwj, hbj, hD0⟩
          have k1 : Below V6.heap.size V6 j0 ∧ j0.cell? ⟨uN.heap.size, 0, none⟩ = some (.int .i64 (M : Int)) ∧ j0.cell? ⟨uN.heap.size, 1, none⟩ = some (.slice gN kN cN) := ⟨bstep k0.1 hD0, ((vN.two).step (bstep k0.1 hD0)).c0, ((vN.two).step (bstep k0.1 hD0)).c1⟩
          have HE := Lib.hid (same_r vN.len hj.1 HwN.out.1 hwj fun i => by rw [HwN.out.2, hbj]; simp)
          clear hwj hbj
          go_wp2_with fail
          refine hK.out _ _ (k1) (fun hHeld => ?_)
          clear hK K
          try simp only [Act.put, List.setIfInBounds_toArray, List.set_cons_zero, List.set_cons_succ]
          refine wpAnyH_ready (rs := [10]) (by kernel_rfl) (by simp) ?_
          refine AllReadyH.cons (o := { dst := some 92, op := Go.Op.call { callee := Go.Callee.value (Go.Operand.func 51), args := #[Go.Operand.tmp 89, Go.Operand.tmp 91], argTypes := #[24, 31] }, type := 4, pos := "law.go:92", after := #[{ on := 7, ground := Go.Ground.data }, { on := 9, ground := Go.Ground.data }, { on := 9, ground := Go.Ground.chain }, { on := 6, ground := Go.Ground.guard }], guard := some (6, true) }) rfl (fun K hK => ?_) AllReadyH.nil
          go_simp
          refine (is_yes (vN.sl.below k1.1) hj HE.out).mono ?_
          rintro e i0 ⟨rfl, hE0⟩
          have k2 : Below V6.heap.size V6 i0 ∧ i0.cell? ⟨uN.heap.size, 0, none⟩ = some (.int .i64 (M : Int)) ∧ i0.cell? ⟨uN.heap.size, 1, none⟩ = some (.slice gN kN cN) := ⟨bstep k1.1 hE0, ((vN.two).step (bstep k1.1 hE0)).c0, ((vN.two).step (bstep k1.1 hE0)).c1⟩
          clear hj HE
          go_wp2_with fail
          refine hK.out _ _ (k2) (fun hHeld => ?_)
          clear hK K
          try simp only [Act.put, List.setIfInBounds_toArray, List.set_cons_zero, List.set_cons_succ]
          refine wpAnyH_take (i := 11) (oi := { dst := some 93, op := Go.Op.unOp Go.UnOp.not 4 (Go.Operand.tmp 92), type := 4, pos := "law.go:92", after := #[{ on := 10, ground := Go.Ground.data }, { on := 6, ground := Go.Ground.guard }], guard := some (6, true) }) (v := ?v11za) rfl (by kernel_rfl) (by kernel_rfl) (by kernel_rfl) (fun _ _ _ h => h) (Or.inl ⟨by rfl, ?hy11za⟩) hHeld ?rest11za
          case hy11za =>
            intro w hSw
            try dsimp only at hSw
            go_simp
            try with_reducible rfl
          try simp only [Act.put, List.setIfInBounds_toArray, List.set_cons_zero, List.set_cons_succ]
          refine wpAnyH_take (i := 12) (oi := { dst := some 94, op := Go.Op.pick (Go.Operand.tmp 88) (Go.Operand.tmp 93) (Go.Operand.const (Go.Value.bool false)), type := 4, pos := "law.go:92", after := #[{ on := 6, ground := Go.Ground.data }, { on := 11, ground := Go.Ground.data }, { on := 4, ground := Go.Ground.guard }], guard := some (4, false) }) (v := ?v12za) rfl (by kernel_rfl) (by kernel_rfl) (by kernel_rfl) (fun _ _ _ h => h) (Or.inl ⟨by rfl, ?hy12za⟩) hHeld ?rest12za
          case hy12za =>
            intro w hSw
            try dsimp only at hSw
            go_simp
            try with_reducible rfl
          try simp only [Act.put, List.setIfInBounds_toArray, List.set_cons_zero, List.set_cons_succ]
          refine wpAnyH_take (i := 13) (oi := { dst := some 95, op := Go.Op.pick (Go.Operand.tmp 86) (Go.Operand.const (Go.Value.bool true)) (Go.Operand.tmp 94), type := 4, pos := "law.go:92", after := #[{ on := 4, ground := Go.Ground.data }, { on := 12, ground := Go.Ground.data }], guard := none }) (v := ?v13za) rfl (by kernel_rfl) (by kernel_rfl) (by kernel_rfl) (fun _ _ _ h => h) (Or.inl ⟨by rfl, ?hy13za⟩) hHeld ?rest13za
          case hy13za =>
            intro w hSw
            try dsimp only at hSw
            go_simp
            try with_reducible rfl
          try simp only [Act.put, List.setIfInBounds_toArray, List.set_cons_zero, List.set_cons_succ]
          refine wpAnyH_take (i := 14) (oi := { dst := some 96, op := Go.Op.move (Go.Operand.tmp 95), type := 4, pos := "law.go:92", after := #[{ on := 13, ground := Go.Ground.data }, { on := 10, ground := Go.Ground.chain }], guard := none }) (v := ?v14za) rfl (by kernel_rfl) (by kernel_rfl) (by kernel_rfl) (fun _ _ _ h => h) (Or.inl ⟨by rfl, ?hy14za⟩) hHeld ?rest14za
          case hy14za =>
            intro w hSw
            try dsimp only at hSw
            go_simp
            try with_reducible rfl
          try simp only [Act.put, List.setIfInBounds_toArray, List.set_cons_zero, List.set_cons_succ]
          refine wpAnyH_take (i := 15) (oi := { dst := some 97, op := Go.Op.move (Go.Operand.tmp 22), type := 4, pos := "law.go:92", after := #[{ on := 14, ground := Go.Ground.guard }], guard := some (14, false) }) (v := ?v15za) rfl (by kernel_rfl) (by kernel_rfl) (by kernel_rfl) (fun _ _ _ h => h) (Or.inl ⟨by rfl, ?hy15za⟩) hHeld ?rest15za
          case hy15za =>
            intro w hSw
            try dsimp only at hSw
            go_simp
            try with_reducible rfl
          try simp only [Act.put, List.setIfInBounds_toArray, List.set_cons_zero, List.set_cons_succ]
          refine wpAnyH_take (i := 16) (oi := { dst := some 98, op := Go.Op.unOp Go.UnOp.not 4 (Go.Operand.tmp 97), type := 4, pos := "law.go:92", after := #[{ on := 15, ground := Go.Ground.data }, { on := 14, ground := Go.Ground.guard }], guard := some (14, false) }) (v := ?v16za) rfl (by kernel_rfl) (by kernel_rfl) (by kernel_rfl) (fun _ _ _ h => h) (Or.inl ⟨by rfl, ?hy16za⟩) hHeld ?rest16za
          case hy16za =>
            intro w hSw
            try dsimp only at hSw
            go_simp
            try with_reducible rfl
          try simp only [Act.put, List.setIfInBounds_toArray, List.set_cons_zero, List.set_cons_succ]
          refine wpAnyH_take (i := 17) (oi := { dst := some 99, op := Go.Op.move (Go.Operand.tmp 98), type := 4, pos := "law.go:92", after := #[{ on := 16, ground := Go.Ground.data }, { on := 14, ground := Go.Ground.chain }, { on := 14, ground := Go.Ground.guard }], guard := some (14, false) }) (v := ?v17za) rfl (by kernel_rfl) (by kernel_rfl) (by kernel_rfl) (fun _ _ _ h => h) (Or.inl ⟨by rfl, ?hy17za⟩) hHeld ?rest17za
          case hy17za =>
            intro w hSw
            try dsimp only at hSw
            go_simp
            try with_reducible rfl
          try simp only [Act.put, List.setIfInBounds_toArray, List.set_cons_zero, List.set_cons_succ]
          refine wpAnyH_take (i := 18) (oi := { dst := some 100, op := Go.Op.move (Go.Operand.tmp 13), type := 35, pos := "law.go:92", after := #[{ on := 17, ground := Go.Ground.guard }], guard := some (17, true) }) (v := undef) rfl (by kernel_rfl) (by kernel_rfl) (by kernel_rfl) (fun _ _ _ h => h) (Or.inr ⟨by rfl, rfl⟩) hHeld ?_
          try simp only [Act.put, List.setIfInBounds_toArray, List.set_cons_zero, List.set_cons_succ]
          refine wpAnyH_take (i := 19) (oi := { dst := some 101, op := Go.Op.binOp Go.BinOp.neq 35 (Go.Operand.tmp 100) (Go.Operand.const (Go.Value.int Go.IntKind.i64 2)) 35, type := 4, pos := "law.go:92", after := #[{ on := 18, ground := Go.Ground.data }, { on := 17, ground := Go.Ground.guard }], guard := some (17, true) }) (v := undef) rfl (by kernel_rfl) (by kernel_rfl) (by kernel_rfl) (fun _ _ _ h => h) (Or.inr ⟨by rfl, rfl⟩) hHeld ?_
          try simp only [Act.put, List.setIfInBounds_toArray, List.set_cons_zero, List.set_cons_succ]
          refine wpAnyH_take (i := 20) (oi := { dst := some 102, op := Go.Op.move (Go.Operand.tmp 101), type := 4, pos := "law.go:92", after := #[{ on := 19, ground := Go.Ground.data }, { on := 17, ground := Go.Ground.chain }, { on := 17, ground := Go.Ground.guard }], guard := some (17, true) }) (v := undef) rfl (by kernel_rfl) (by kernel_rfl) (by kernel_rfl) (fun _ _ _ h => h) (Or.inr ⟨by rfl, rfl⟩) hHeld ?_
          try simp only [Act.put, List.setIfInBounds_toArray, List.set_cons_zero, List.set_cons_succ]
          refine wpAnyH_take (i := 21) (oi := { dst := some 103, op := Go.Op.load 24 (Go.Operand.tmp 12), type := 24, pos := "law.go:92", after := #[{ on := 20, ground := Go.Ground.guard }], guard := some (20, false) }) (v := undef) rfl (by kernel_rfl) (by kernel_rfl) (by kernel_rfl) (fun _ _ _ h => h) (Or.inr ⟨by rfl, rfl⟩) hHeld ?_
          try simp only [Act.put, List.setIfInBounds_toArray, List.set_cons_zero, List.set_cons_succ]
          refine wpAnyH_take (i := 22) (oi := { dst := some 104, op := Go.Op.build 31 #[], type := 31, pos := "law.go:92", after := #[{ on := 20, ground := Go.Ground.guard }], guard := some (20, false) }) (v := undef) rfl (by kernel_rfl) (by kernel_rfl) (by kernel_rfl) (fun _ _ _ h => h) (Or.inr ⟨by rfl, rfl⟩) hHeld ?_
          try simp only [Act.put, List.setIfInBounds_toArray, List.set_cons_zero, List.set_cons_succ]
          refine wpAnyH_take (i := 23) (oi := { dst := some 105, op := Go.Op.call { callee := Go.Callee.value (Go.Operand.func 51), args := #[Go.Operand.tmp 103, Go.Operand.tmp 104], argTypes := #[24, 31] }, type := 4, pos := "law.go:92", after := #[{ on := 21, ground := Go.Ground.data }, { on := 22, ground := Go.Ground.data }, { on := 20, ground := Go.Ground.chain }, { on := 20, ground := Go.Ground.guard }], guard := some (20, false) }) (v := undef) rfl (by kernel_rfl) (by kernel_rfl) (by kernel_rfl) (fun _ _ _ h => h) (Or.inr ⟨by rfl, rfl⟩) hHeld ?_
          try simp only [Act.put, List.setIfInBounds_toArray, List.set_cons_zero, List.set_cons_succ]
          refine wpAnyH_take (i := 24) (oi := { dst := some 106, op := Go.Op.unOp Go.UnOp.not 4 (Go.Operand.tmp 105), type := 4, pos := "law.go:92", after := #[{ on := 23, ground := Go.Ground.data }, { on := 20, ground := Go.Ground.guard }], guard := some (20, false) }) (v := undef) rfl (by kernel_rfl) (by kernel_rfl) (by kernel_rfl) (fun _ _ _ h => h) (Or.inr ⟨by rfl, rfl⟩) hHeld ?_
          try simp only [Act.put, List.setIfInBounds_toArray, List.set_cons_zero, List.set_cons_succ]
          refine wpAnyH_take (i := 25) (oi := { dst := some 107, op := Go.Op.pick (Go.Operand.tmp 102) (Go.Operand.const (Go.Value.bool true)) (Go.Operand.tmp 106), type := 4, pos := "law.go:92", after := #[{ on := 20, ground := Go.Ground.data }, { on := 24, ground := Go.Ground.data }, { on := 17, ground := Go.Ground.guard }], guard := some (17, true) }) (v := undef) rfl (by kernel_rfl) (by kernel_rfl) (by kernel_rfl) (fun _ _ _ h => h) (Or.inr ⟨by rfl, rfl⟩) hHeld ?_
          try simp only [Act.put, List.setIfInBounds_toArray, List.set_cons_zero, List.set_cons_succ]
          refine wpAnyH_take (i := 26) (oi := { dst := some 108, op := Go.Op.pick (Go.Operand.tmp 99) (Go.Operand.tmp 107) (Go.Operand.const (Go.Value.bool false)), type := 4, pos := "law.go:92", after := #[{ on := 17, ground := Go.Ground.data }, { on := 25, ground := Go.Ground.data }, { on := 14, ground := Go.Ground.guard }], guard := some (14, false) }) (v := ?v26za) rfl (by kernel_rfl) (by kernel_rfl) (by kernel_rfl) (fun _ _ _ h => h) (Or.inl ⟨by rfl, ?hy26za⟩) hHeld ?rest26za
          case hy26za =>
            intro w hSw
            try dsimp only at hSw
            go_simp
            try with_reducible rfl
          try simp only [Act.put, List.setIfInBounds_toArray, List.set_cons_zero, List.set_cons_succ]
          refine wpAnyH_take (i := 27) (oi := { dst := some 109, op := Go.Op.pick (Go.Operand.tmp 96) (Go.Operand.const (Go.Value.bool true)) (Go.Operand.tmp 108), type := 4, pos := "law.go:92", after := #[{ on := 14, ground := Go.Ground.data }, { on := 26, ground := Go.Ground.data }], guard := none }) (v := ?v27za) rfl (by kernel_rfl) (by kernel_rfl) (by kernel_rfl) (fun _ _ _ h => h) (Or.inl ⟨by rfl, ?hy27za⟩) hHeld ?rest27za
          case hy27za =>
            intro w hSw
            try dsimp only at hSw
            go_simp
            try with_reducible rfl
          try simp only [Act.put, List.setIfInBounds_toArray, List.set_cons_zero, List.set_cons_succ]
          refine wpAnyH_done (by kernel_rfl) ?_ _
          refine NoPanic.normal ?_
          go_wp2_with fail
          go_meet
          case rel => exact ⟨by rw [HIN.out], rfl, k2.1⟩
        | false =>
          have HIN := Lib.hid hin
          obtain ⟨hwN, hPN⟩ := HPN.out
          obtain ⟨e1, e2, e3⟩ := hPN.2 hin
          subst e1 e2 e3
          have hz := vN.zero
          subst hz
          clear hwN hPN HPN hin
          have k0 : Below V6.heap.size V6 V6.drew ∧ V6.drew.cell? ⟨uN.heap.size, 0, none⟩ = some (.int .i64 0) ∧ V6.drew.cell? ⟨uN.heap.size, 1, none⟩ = some (.slice gN 0 cN) := ⟨(Below.refl _ _).drew, ((vN.two).step ((Below.refl _ _).drew)).c0, ((vN.two).step ((Below.refl _ _).drew)).c1⟩
          refine wp_region_noPanic ?_
          refine wp_region_held_drew (S := fun W => Below V6.heap.size V6 W ∧ W.cell? ⟨uN.heap.size, 0, none⟩ = some (.int .i64 0) ∧ W.cell? ⟨uN.heap.size, 1, none⟩ = some (.slice gN 0 cN)) (by kernel_rfl) (k0) (fun hHeld => ?_)
          refine wpAnyH_take (i := 0) (oi := { dst := some 82, op := Go.Op.move (Go.Operand.tmp 22), type := 4, pos := "law.go:92", after := #[], guard := none }) (v := ?v0zb) rfl (by kernel_rfl) (by kernel_rfl) (by kernel_rfl) (fun _ _ _ h => h) (Or.inl ⟨by rfl, ?hy0zb⟩) hHeld ?rest0zb
          case hy0zb =>
            intro w hSw
            try dsimp only at hSw
            go_simp
            try with_reducible rfl
          try simp only [Act.put, List.setIfInBounds_toArray, List.set_cons_zero, List.set_cons_succ]
          refine wpAnyH_take (i := 1) (oi := { dst := some 83, op := Go.Op.move (Go.Operand.tmp 13), type := 35, pos := "law.go:92", after := #[], guard := none }) (v := ?v1zb) rfl (by kernel_rfl) (by kernel_rfl) (by kernel_rfl) (fun _ _ _ h => h) (Or.inl ⟨by rfl, ?hy1zb⟩) hHeld ?rest1zb
          case hy1zb =>
            intro w hSw
            try dsimp only at hSw
            go_simp
            try with_reducible rfl
          try simp only [Act.put, List.setIfInBounds_toArray, List.set_cons_zero, List.set_cons_succ]
          refine wpAnyH_take (i := 2) (oi := { dst := some 84, op := Go.Op.binOp Go.BinOp.eql 35 (Go.Operand.tmp 83) (Go.Operand.const (Go.Value.int Go.IntKind.i64 0)) 35, type := 4, pos := "law.go:92", after := #[{ on := 1, ground := Go.Ground.data }], guard := none }) (v := ?v2zb) rfl (by kernel_rfl) (by kernel_rfl) (by kernel_rfl) (fun _ _ _ h => h) (Or.inl ⟨by rfl, ?hy2zb⟩) hHeld ?rest2zb
          case hy2zb =>
            intro w hSw
            try dsimp only at hSw
            go_simp
            try with_reducible rfl
          try simp only [Act.put, List.setIfInBounds_toArray, List.set_cons_zero, List.set_cons_succ]
          refine wpAnyH_take (i := 3) (oi := { dst := some 85, op := Go.Op.binOp Go.BinOp.neq 4 (Go.Operand.tmp 82) (Go.Operand.tmp 84) 4, type := 4, pos := "law.go:92", after := #[{ on := 0, ground := Go.Ground.data }, { on := 2, ground := Go.Ground.data }], guard := none }) (v := ?v3zb) rfl (by kernel_rfl) (by kernel_rfl) (by kernel_rfl) (fun _ _ _ h => h) (Or.inl ⟨by rfl, ?hy3zb⟩) hHeld ?rest3zb
          case hy3zb =>
            intro w hSw
            try dsimp only at hSw
            go_simp
            try with_reducible rfl
          try simp only [Act.put, List.setIfInBounds_toArray, List.set_cons_zero, List.set_cons_succ]
          refine wpAnyH_take (i := 4) (oi := { dst := some 86, op := Go.Op.move (Go.Operand.tmp 85), type := 4, pos := "law.go:92", after := #[{ on := 3, ground := Go.Ground.data }], guard := none }) (v := ?v4zb) rfl (by kernel_rfl) (by kernel_rfl) (by kernel_rfl) (fun _ _ _ h => h) (Or.inl ⟨by rfl, ?hy4zb⟩) hHeld ?rest4zb
          case hy4zb =>
            intro w hSw
            try dsimp only at hSw
            go_simp
            try with_reducible rfl
          try simp only [Act.put, List.setIfInBounds_toArray, List.set_cons_zero, List.set_cons_succ]
          refine wpAnyH_take (i := 5) (oi := { dst := some 87, op := Go.Op.move (Go.Operand.tmp 22), type := 4, pos := "law.go:92", after := #[{ on := 4, ground := Go.Ground.guard }], guard := some (4, false) }) (v := ?v5zb) rfl (by kernel_rfl) (by kernel_rfl) (by kernel_rfl) (fun _ _ _ h => h) (Or.inl ⟨by rfl, ?hy5zb⟩) hHeld ?rest5zb
          case hy5zb =>
            intro w hSw
            try dsimp only at hSw
            go_simp
            try with_reducible rfl
          try simp only [Act.put, List.setIfInBounds_toArray, List.set_cons_zero, List.set_cons_succ]
          refine wpAnyH_take (i := 6) (oi := { dst := some 88, op := Go.Op.move (Go.Operand.tmp 87), type := 4, pos := "law.go:92", after := #[{ on := 5, ground := Go.Ground.data }, { on := 4, ground := Go.Ground.chain }, { on := 4, ground := Go.Ground.guard }], guard := some (4, false) }) (v := ?v6zb) rfl (by kernel_rfl) (by kernel_rfl) (by kernel_rfl) (fun _ _ _ h => h) (Or.inl ⟨by rfl, ?hy6zb⟩) hHeld ?rest6zb
          case hy6zb =>
            intro w hSw
            try dsimp only at hSw
            go_simp
            try with_reducible rfl
          try simp only [Act.put, List.setIfInBounds_toArray, List.set_cons_zero, List.set_cons_succ]
          refine wpAnyH_take (i := 7) (oi := { dst := some 89, op := Go.Op.load 24 (Go.Operand.tmp 12), type := 24, pos := "law.go:92", after := #[{ on := 6, ground := Go.Ground.guard }], guard := some (6, true) }) (v := undef) rfl (by kernel_rfl) (by kernel_rfl) (by kernel_rfl) (fun _ _ _ h => h) (Or.inr ⟨by rfl, rfl⟩) hHeld ?_
          try simp only [Act.put, List.setIfInBounds_toArray, List.set_cons_zero, List.set_cons_succ]
          refine wpAnyH_take (i := 8) (oi := { dst := some 90, op := Go.Op.move (Go.Operand.tmp 2), type := 3, pos := "law.go:92", after := #[{ on := 6, ground := Go.Ground.guard }], guard := some (6, true) }) (v := undef) rfl (by kernel_rfl) (by kernel_rfl) (by kernel_rfl) (fun _ _ _ h => h) (Or.inr ⟨by rfl, rfl⟩) hHeld ?_
          try simp only [Act.put, List.setIfInBounds_toArray, List.set_cons_zero, List.set_cons_succ]
          refine wpAnyH_take (i := 9) (oi := { dst := some 91, op := Go.Op.call { callee := Go.Callee.value (Go.Operand.func 16), args := #[Go.Operand.tmp 90, Go.Operand.const (Go.Value.slice none 0 0)], argTypes := #[3, 27] }, type := 31, pos := "law.go:92", after := #[{ on := 8, ground := Go.Ground.data }, { on := 6, ground := Go.Ground.chain }, { on := 6, ground := Go.Ground.guard }], guard := some (6, true) }) (v := undef) rfl (by kernel_rfl) (by kernel_rfl) (by kernel_rfl) (fun _ _ _ h => h) (Or.inr ⟨by rfl, rfl⟩) hHeld ?_
          try simp only [Act.put, List.setIfInBounds_toArray, List.set_cons_zero, List.set_cons_succ]
          refine wpAnyH_take (i := 10) (oi := { dst := some 92, op := Go.Op.call { callee := Go.Callee.value (Go.Operand.func 51), args := #[Go.Operand.tmp 89, Go.Operand.tmp 91], argTypes := #[24, 31] }, type := 4, pos := "law.go:92", after := #[{ on := 7, ground := Go.Ground.data }, { on := 9, ground := Go.Ground.data }, { on := 9, ground := Go.Ground.chain }, { on := 6, ground := Go.Ground.guard }], guard := some (6, true) }) (v := undef) rfl (by kernel_rfl) (by kernel_rfl) (by kernel_rfl) (fun _ _ _ h => h) (Or.inr ⟨by rfl, rfl⟩) hHeld ?_
          try simp only [Act.put, List.setIfInBounds_toArray, List.set_cons_zero, List.set_cons_succ]
          refine wpAnyH_take (i := 11) (oi := { dst := some 93, op := Go.Op.unOp Go.UnOp.not 4 (Go.Operand.tmp 92), type := 4, pos := "law.go:92", after := #[{ on := 10, ground := Go.Ground.data }, { on := 6, ground := Go.Ground.guard }], guard := some (6, true) }) (v := undef) rfl (by kernel_rfl) (by kernel_rfl) (by kernel_rfl) (fun _ _ _ h => h) (Or.inr ⟨by rfl, rfl⟩) hHeld ?_
          try simp only [Act.put, List.setIfInBounds_toArray, List.set_cons_zero, List.set_cons_succ]
          refine wpAnyH_take (i := 12) (oi := { dst := some 94, op := Go.Op.pick (Go.Operand.tmp 88) (Go.Operand.tmp 93) (Go.Operand.const (Go.Value.bool false)), type := 4, pos := "law.go:92", after := #[{ on := 6, ground := Go.Ground.data }, { on := 11, ground := Go.Ground.data }, { on := 4, ground := Go.Ground.guard }], guard := some (4, false) }) (v := ?v12zb) rfl (by kernel_rfl) (by kernel_rfl) (by kernel_rfl) (fun _ _ _ h => h) (Or.inl ⟨by rfl, ?hy12zb⟩) hHeld ?rest12zb
          case hy12zb =>
            intro w hSw
            try dsimp only at hSw
            go_simp
            try with_reducible rfl
          try simp only [Act.put, List.setIfInBounds_toArray, List.set_cons_zero, List.set_cons_succ]
          refine wpAnyH_take (i := 13) (oi := { dst := some 95, op := Go.Op.pick (Go.Operand.tmp 86) (Go.Operand.const (Go.Value.bool true)) (Go.Operand.tmp 94), type := 4, pos := "law.go:92", after := #[{ on := 4, ground := Go.Ground.data }, { on := 12, ground := Go.Ground.data }], guard := none }) (v := ?v13zb) rfl (by kernel_rfl) (by kernel_rfl) (by kernel_rfl) (fun _ _ _ h => h) (Or.inl ⟨by rfl, ?hy13zb⟩) hHeld ?rest13zb
          case hy13zb =>
            intro w hSw
            try dsimp only at hSw
            go_simp
            try with_reducible rfl
          try simp only [Act.put, List.setIfInBounds_toArray, List.set_cons_zero, List.set_cons_succ]
          refine wpAnyH_take (i := 14) (oi := { dst := some 96, op := Go.Op.move (Go.Operand.tmp 95), type := 4, pos := "law.go:92", after := #[{ on := 13, ground := Go.Ground.data }, { on := 10, ground := Go.Ground.chain }], guard := none }) (v := ?v14zb) rfl (by kernel_rfl) (by kernel_rfl) (by kernel_rfl) (fun _ _ _ h => h) (Or.inl ⟨by rfl, ?hy14zb⟩) hHeld ?rest14zb
          case hy14zb =>
            intro w hSw
            try dsimp only at hSw
            go_simp
            try with_reducible rfl
          try simp only [Act.put, List.setIfInBounds_toArray, List.set_cons_zero, List.set_cons_succ]
          refine wpAnyH_take (i := 15) (oi := { dst := some 97, op := Go.Op.move (Go.Operand.tmp 22), type := 4, pos := "law.go:92", after := #[{ on := 14, ground := Go.Ground.guard }], guard := some (14, false) }) (v := ?v15zb) rfl (by kernel_rfl) (by kernel_rfl) (by kernel_rfl) (fun _ _ _ h => h) (Or.inl ⟨by rfl, ?hy15zb⟩) hHeld ?rest15zb
          case hy15zb =>
            intro w hSw
            try dsimp only at hSw
            go_simp
            try with_reducible rfl
          try simp only [Act.put, List.setIfInBounds_toArray, List.set_cons_zero, List.set_cons_succ]
          refine wpAnyH_take (i := 16) (oi := { dst := some 98, op := Go.Op.unOp Go.UnOp.not 4 (Go.Operand.tmp 97), type := 4, pos := "law.go:92", after := #[{ on := 15, ground := Go.Ground.data }, { on := 14, ground := Go.Ground.guard }], guard := some (14, false) }) (v := ?v16zb) rfl (by kernel_rfl) (by kernel_rfl) (by kernel_rfl) (fun _ _ _ h => h) (Or.inl ⟨by rfl, ?hy16zb⟩) hHeld ?rest16zb
          case hy16zb =>
            intro w hSw
            try dsimp only at hSw
            go_simp
            try with_reducible rfl
          try simp only [Act.put, List.setIfInBounds_toArray, List.set_cons_zero, List.set_cons_succ]
          refine wpAnyH_take (i := 17) (oi := { dst := some 99, op := Go.Op.move (Go.Operand.tmp 98), type := 4, pos := "law.go:92", after := #[{ on := 16, ground := Go.Ground.data }, { on := 14, ground := Go.Ground.chain }, { on := 14, ground := Go.Ground.guard }], guard := some (14, false) }) (v := ?v17zb) rfl (by kernel_rfl) (by kernel_rfl) (by kernel_rfl) (fun _ _ _ h => h) (Or.inl ⟨by rfl, ?hy17zb⟩) hHeld ?rest17zb
          case hy17zb =>
            intro w hSw
            try dsimp only at hSw
            go_simp
            try with_reducible rfl
          try simp only [Act.put, List.setIfInBounds_toArray, List.set_cons_zero, List.set_cons_succ]
          refine wpAnyH_take (i := 18) (oi := { dst := some 100, op := Go.Op.move (Go.Operand.tmp 13), type := 35, pos := "law.go:92", after := #[{ on := 17, ground := Go.Ground.guard }], guard := some (17, true) }) (v := ?v18zb) rfl (by kernel_rfl) (by kernel_rfl) (by kernel_rfl) (fun _ _ _ h => h) (Or.inl ⟨by rfl, ?hy18zb⟩) hHeld ?rest18zb
          case hy18zb =>
            intro w hSw
            try dsimp only at hSw
            go_simp
            try with_reducible rfl
          try simp only [Act.put, List.setIfInBounds_toArray, List.set_cons_zero, List.set_cons_succ]
          refine wpAnyH_take (i := 19) (oi := { dst := some 101, op := Go.Op.binOp Go.BinOp.neq 35 (Go.Operand.tmp 100) (Go.Operand.const (Go.Value.int Go.IntKind.i64 2)) 35, type := 4, pos := "law.go:92", after := #[{ on := 18, ground := Go.Ground.data }, { on := 17, ground := Go.Ground.guard }], guard := some (17, true) }) (v := ?v19zb) rfl (by kernel_rfl) (by kernel_rfl) (by kernel_rfl) (fun _ _ _ h => h) (Or.inl ⟨by rfl, ?hy19zb⟩) hHeld ?rest19zb
          case hy19zb =>
            intro w hSw
            try dsimp only at hSw
            go_simp
            try with_reducible rfl
          try simp only [Act.put, List.setIfInBounds_toArray, List.set_cons_zero, List.set_cons_succ]
          refine wpAnyH_take (i := 20) (oi := { dst := some 102, op := Go.Op.move (Go.Operand.tmp 101), type := 4, pos := "law.go:92", after := #[{ on := 19, ground := Go.Ground.data }, { on := 17, ground := Go.Ground.chain }, { on := 17, ground := Go.Ground.guard }], guard := some (17, true) }) (v := ?v20zb) rfl (by kernel_rfl) (by kernel_rfl) (by kernel_rfl) (fun _ _ _ h => h) (Or.inl ⟨by rfl, ?hy20zb⟩) hHeld ?rest20zb
          case hy20zb =>
            intro w hSw
            try dsimp only at hSw
            go_simp
            try with_reducible rfl
          try simp only [Act.put, List.setIfInBounds_toArray, List.set_cons_zero, List.set_cons_succ]
          refine wpAnyH_take (i := 21) (oi := { dst := some 103, op := Go.Op.load 24 (Go.Operand.tmp 12), type := 24, pos := "law.go:92", after := #[{ on := 20, ground := Go.Ground.guard }], guard := some (20, false) }) (v := ?v21zb) rfl (by kernel_rfl) (by kernel_rfl) (by kernel_rfl) (fun _ _ _ h => h) (Or.inl ⟨by rfl, ?hy21zb⟩) hHeld ?rest21zb
          case hy21zb =>
            intro w hSw
            try dsimp only at hSw
            go_simp
            try with_reducible rfl
          try simp only [Act.put, List.setIfInBounds_toArray, List.set_cons_zero, List.set_cons_succ]
          refine wpAnyH_take (i := 22) (oi := { dst := some 104, op := Go.Op.build 31 #[], type := 31, pos := "law.go:92", after := #[{ on := 20, ground := Go.Ground.guard }], guard := some (20, false) }) (v := ?v22zb) rfl (by kernel_rfl) (by kernel_rfl) (by kernel_rfl) (fun _ _ _ h => h) (Or.inl ⟨by rfl, ?hy22zb⟩) hHeld ?rest22zb
          case hy22zb =>
            intro w hSw
            try dsimp only at hSw
            go_simp
            try with_reducible rfl
          try simp only [Act.put, List.setIfInBounds_toArray, List.set_cons_zero, List.set_cons_succ]
          refine wpAnyH_ready (rs := [23]) (by kernel_rfl) (by simp) ?_
          refine AllReadyH.cons (o := { dst := some 105, op := Go.Op.call { callee := Go.Callee.value (Go.Operand.func 51), args := #[Go.Operand.tmp 103, Go.Operand.tmp 104], argTypes := #[24, 31] }, type := 4, pos := "law.go:92", after := #[{ on := 21, ground := Go.Ground.data }, { on := 22, ground := Go.Ground.data }, { on := 20, ground := Go.Ground.chain }, { on := 20, ground := Go.Ground.guard }], guard := some (20, false) }) rfl (fun K hK => ?_) AllReadyH.nil
          go_simp
          refine (is_yes (vN.sl.below k0.1) (Sl.nil _ _) rfl).mono ?_
          rintro e i0 ⟨rfl, hE0⟩
          have k1 : Below V6.heap.size V6 i0 ∧ i0.cell? ⟨uN.heap.size, 0, none⟩ = some (.int .i64 0) ∧ i0.cell? ⟨uN.heap.size, 1, none⟩ = some (.slice gN 0 cN) := ⟨bstep k0.1 hE0, ((vN.two).step (bstep k0.1 hE0)).c0, ((vN.two).step (bstep k0.1 hE0)).c1⟩
          go_wp2_with fail
          refine hK.out _ _ (k1) (fun hHeld => ?_)
          clear hK K
          try simp only [Act.put, List.setIfInBounds_toArray, List.set_cons_zero, List.set_cons_succ]
          refine wpAnyH_take (i := 24) (oi := { dst := some 106, op := Go.Op.unOp Go.UnOp.not 4 (Go.Operand.tmp 105), type := 4, pos := "law.go:92", after := #[{ on := 23, ground := Go.Ground.data }, { on := 20, ground := Go.Ground.guard }], guard := some (20, false) }) (v := ?v24zb) rfl (by kernel_rfl) (by kernel_rfl) (by kernel_rfl) (fun _ _ _ h => h) (Or.inl ⟨by rfl, ?hy24zb⟩) hHeld ?rest24zb
          case hy24zb =>
            intro w hSw
            try dsimp only at hSw
            go_simp
            try with_reducible rfl
          try simp only [Act.put, List.setIfInBounds_toArray, List.set_cons_zero, List.set_cons_succ]
          refine wpAnyH_take (i := 25) (oi := { dst := some 107, op := Go.Op.pick (Go.Operand.tmp 102) (Go.Operand.const (Go.Value.bool true)) (Go.Operand.tmp 106), type := 4, pos := "law.go:92", after := #[{ on := 20, ground := Go.Ground.data }, { on := 24, ground := Go.Ground.data }, { on := 17, ground := Go.Ground.guard }], guard := some (17, true) }) (v := ?v25zb) rfl (by kernel_rfl) (by kernel_rfl) (by kernel_rfl) (fun _ _ _ h => h) (Or.inl ⟨by rfl, ?hy25zb⟩) hHeld ?rest25zb
          case hy25zb =>
            intro w hSw
            try dsimp only at hSw
            go_simp
            try with_reducible rfl
          try simp only [Act.put, List.setIfInBounds_toArray, List.set_cons_zero, List.set_cons_succ]
          refine wpAnyH_take (i := 26) (oi := { dst := some 108, op := Go.Op.pick (Go.Operand.tmp 99) (Go.Operand.tmp 107) (Go.Operand.const (Go.Value.bool false)), type := 4, pos := "law.go:92", after := #[{ on := 17, ground := Go.Ground.data }, { on := 25, ground := Go.Ground.data }, { on := 14, ground := Go.Ground.guard }], guard := some (14, false) }) (v := ?v26zb) rfl (by kernel_rfl) (by kernel_rfl) (by kernel_rfl) (fun _ _ _ h => h) (Or.inl ⟨by rfl, ?hy26zb⟩) hHeld ?rest26zb
          case hy26zb =>
            intro w hSw
            try dsimp only at hSw
            go_simp
            try with_reducible rfl
          try simp only [Act.put, List.setIfInBounds_toArray, List.set_cons_zero, List.set_cons_succ]
          refine wpAnyH_take (i := 27) (oi := { dst := some 109, op := Go.Op.pick (Go.Operand.tmp 96) (Go.Operand.const (Go.Value.bool true)) (Go.Operand.tmp 108), type := 4, pos := "law.go:92", after := #[{ on := 14, ground := Go.Ground.data }, { on := 26, ground := Go.Ground.data }], guard := none }) (v := ?v27zb) rfl (by kernel_rfl) (by kernel_rfl) (by kernel_rfl) (fun _ _ _ h => h) (Or.inl ⟨by rfl, ?hy27zb⟩) hHeld ?rest27zb
          case hy27zb =>
            intro w hSw
            try dsimp only at hSw
            go_simp
            try with_reducible rfl
          try simp only [Act.put, List.setIfInBounds_toArray, List.set_cons_zero, List.set_cons_succ]
          refine wpAnyH_done (by kernel_rfl) ?_ _
          refine NoPanic.normal ?_
          go_wp2_with fail
          go_meet
          case rel => exact ⟨by rw [HIN.out], rfl, k1.1⟩
      case rest =>
        obtain ⟨rfl, rfl, hB6⟩ := hcut
        obtain ⟨V7, hV7⟩ : ∃ V, V = wc := ⟨_, rfl⟩
        rw [← hV7] at hB6 ⊢
        clear hV7
        replace bel := bstep bel hB6
        replace tX := tX.step hB6
        replace tA := tA.step hB6
        replace tR := tR.step hB6
        replace vN := vN.step hB6
        replace vO := vO.step hB6
        replace vW := vW.step hB6
        replace vS := vS.step hB6
        replace vT := vT.step hB6
        replace oX := ownsRow_below oX hB6
        replace sL := sL.below hB6
        clear hB6
        have hL7 := hL.below bel
        go_wp2_with fail
        go_loopw [22, 112] (fun B I wr => ∃ (k : Nat) (b : Bool), k ≤ nl ∧ I = .int .i64 (k : Int) ∧ B = .bool b ∧ Hid (b = (inB m && allB m (L.take k))) ∧ wr = V7) (fun _ I _ => nl - (intOf I).toNat)
        case atStart => exact ⟨0, inB m, by omega, rfl, rfl, Lib.hid (by simp [allB]), rfl⟩
        case round =>
          obtain ⟨k, b, hk, rfl, rfl, hb, hw⟩ := hrel
          rw [hw]
          clear hw
          by_cases hlt3 : k < nl
          · obtain ⟨bq, oq, hq, hcell⟩ := hL7.idx2 hlt3
            have hs := allB_succ (n := m) (L := L) (k := k) (by rw [hL7.1]; exact hlt3)
            obtain ⟨x, hx⟩ : ∃ x, x = L[k]?.getD 0 := ⟨_, rfl⟩
            rw [← hx] at hcell hs
            subst hq
            have HS := Lib.hid hs
            clear hs hx
            cases b with
            | false =>
              go_wp2_with fail
              go_roundw
              case rel => exact ⟨k + 1, false, by omega, by go_num, rfl, Lib.hid (by rw [HS.out, ← Bool.and_assoc, ← hb.out, Bool.false_and]), by first | rfl | trivial⟩
              case measure => simp [intOf]; omega
            | true =>
              by_cases h0 : 0 ≤ x
              · by_cases h1 : x < m
                · go_wp2_with fail
                  go_roundw
                  case rel => exact ⟨k + 1, true, by omega, by go_num, rfl, Lib.hid (by rw [HS.out, ← Bool.and_assoc, ← hb.out, decide_eq_true h0, decide_eq_true h1]; rfl), by first | rfl | trivial⟩
                  case measure => simp [intOf]; omega
                · go_wp2_with fail
                  go_roundw
                  case rel => exact ⟨k + 1, false, by omega, by go_num, rfl, Lib.hid (by rw [HS.out, ← Bool.and_assoc, ← hb.out, decide_eq_true h0, decide_eq_false h1]; rfl), by first | rfl | trivial⟩
                  case measure => simp [intOf]; omega
              · go_wp2_with fail
                go_roundw
                case rel => exact ⟨k + 1, false, by omega, by go_num, rfl, Lib.hid (by rw [HS.out, ← Bool.and_assoc, ← hb.out, decide_eq_false h0]; rfl), by first | rfl | trivial⟩
                case measure => simp [intOf]; omega
          · obtain rfl : nl = k := by omega
            have hbL : Hid (b = (inB m && allB m L)) := Lib.hid (by have e := hb.out; rwa [List.take_of_length_le (by rw [hL7.1]; omega)] at e)
            clear hb
            go_upto_region 19 with fail
            go_cut [153] from 127 to 153 (fun P wx => P = .bool false ∧ Below V7.heap.size V7 wx)
            case first =>
              cases b with
              | true =>
                obtain ⟨hwO, hPO⟩ := HPO.out
                have hin := hbL.out.symm
                obtain ⟨e1, e2, hkO, hbO⟩ := hPO.1 hin
                replace e2 := e2.symm
                subst e1 e2
                rw [Bool.and_eq_true] at hin
                obtain ⟨hi1, hi2⟩ := hin
                obtain ⟨hm0, hm6⟩ := inB_yes hi1
                obtain ⟨M, hM⟩ : ∃ k : Nat, m = (k : Int) := ⟨m.toNat, by omega⟩
                subst hM
                have hM6 : M ≤ 65536 := by omega
                rw [Int.toNat_natCast] at hkO
                have HwO := Lib.hid (And.intro hwO hbO)
                have HkO := Lib.hid hkO
                have HaL := Lib.hid (allB_yes hi2)
                clear hwO hbO hPO HPO hi1 hi2 hbL hkO
                have k0 : Below V7.heap.size V7 V7.drew ∧ V7.drew.cell? ⟨uO.heap.size, 0, none⟩ = some (.int .i64 (M : Int)) ∧ V7.drew.cell? ⟨uO.heap.size, 1, none⟩ = some (.slice gO kO cO) := ⟨(Below.refl _ _).drew, ((vO.two).step ((Below.refl _ _).drew)).c0, ((vO.two).step ((Below.refl _ _).drew)).c1⟩
                refine wp_region_noPanic ?_
                refine wp_region_held_drew (S := fun W => Below V7.heap.size V7 W ∧ W.cell? ⟨uO.heap.size, 0, none⟩ = some (.int .i64 (M : Int)) ∧ W.cell? ⟨uO.heap.size, 1, none⟩ = some (.slice gO kO cO)) (by kernel_rfl) (k0) (fun hHeld => ?_)
                refine wpAnyH_take (i := 0) (oi := { dst := some 127, op := Go.Op.move (Go.Operand.tmp 22), type := 4, pos := "law.go:98", after := #[], guard := none }) (v := ?v0zc) rfl (by kernel_rfl) (by kernel_rfl) (by kernel_rfl) (fun _ _ _ h => h) (Or.inl ⟨by rfl, ?hy0zc⟩) hHeld ?rest0zc
                case hy0zc =>
                  intro w hSw
                  try dsimp only at hSw
                  go_simp
                  try with_reducible rfl
                try simp only [Act.put, List.setIfInBounds_toArray, List.set_cons_zero, List.set_cons_succ]
                refine wpAnyH_take (i := 1) (oi := { dst := some 128, op := Go.Op.move (Go.Operand.tmp 127), type := 4, pos := "law.go:98", after := #[{ on := 0, ground := Go.Ground.data }], guard := none }) (v := ?v1zc) rfl (by kernel_rfl) (by kernel_rfl) (by kernel_rfl) (fun _ _ _ h => h) (Or.inl ⟨by rfl, ?hy1zc⟩) hHeld ?rest1zc
                case hy1zc =>
                  intro w hSw
                  try dsimp only at hSw
                  go_simp
                  try with_reducible rfl
                try simp only [Act.put, List.setIfInBounds_toArray, List.set_cons_zero, List.set_cons_succ]
                refine wpAnyH_take (i := 2) (oi := { dst := some 129, op := Go.Op.move (Go.Operand.tmp 15), type := 35, pos := "law.go:98", after := #[{ on := 1, ground := Go.Ground.guard }], guard := some (1, true) }) (v := ?v2zc) rfl (by kernel_rfl) (by kernel_rfl) (by kernel_rfl) (fun _ _ _ h => h) (Or.inl ⟨by rfl, ?hy2zc⟩) hHeld ?rest2zc
                case hy2zc =>
                  intro w hSw
                  try dsimp only at hSw
                  go_simp
                  try with_reducible rfl
                try simp only [Act.put, List.setIfInBounds_toArray, List.set_cons_zero, List.set_cons_succ]
                refine wpAnyH_take (i := 3) (oi := { dst := some 130, op := Go.Op.binOp Go.BinOp.neq 35 (Go.Operand.tmp 129) (Go.Operand.const (Go.Value.int Go.IntKind.i64 0)) 35, type := 4, pos := "law.go:98", after := #[{ on := 2, ground := Go.Ground.data }, { on := 1, ground := Go.Ground.guard }], guard := some (1, true) }) (v := ?v3zc) rfl (by kernel_rfl) (by kernel_rfl) (by kernel_rfl) (fun _ _ _ h => h) (Or.inl ⟨by rfl, ?hy3zc⟩) hHeld ?rest3zc
                case hy3zc =>
                  intro w hSw
                  try dsimp only at hSw
                  go_simp
                  try with_reducible rfl
                try simp only [Act.put, List.setIfInBounds_toArray, List.set_cons_zero, List.set_cons_succ]
                refine wpAnyH_take (i := 4) (oi := { dst := some 131, op := Go.Op.move (Go.Operand.tmp 130), type := 4, pos := "law.go:98", after := #[{ on := 3, ground := Go.Ground.data }, { on := 1, ground := Go.Ground.chain }, { on := 1, ground := Go.Ground.guard }], guard := some (1, true) }) (v := ?v4zc) rfl (by kernel_rfl) (by kernel_rfl) (by kernel_rfl) (fun _ _ _ h => h) (Or.inl ⟨by rfl, ?hy4zc⟩) hHeld ?rest4zc
                case hy4zc =>
                  intro w hSw
                  try dsimp only at hSw
                  go_simp
                  try with_reducible rfl
                try simp only [Act.put, List.setIfInBounds_toArray, List.set_cons_zero, List.set_cons_succ]
                refine wpAnyH_take (i := 5) (oi := { dst := some 132, op := Go.Op.load 24 (Go.Operand.tmp 14), type := 24, pos := "law.go:98", after := #[{ on := 4, ground := Go.Ground.guard }], guard := some (4, false) }) (v := ?v5zc) rfl (by kernel_rfl) (by kernel_rfl) (by kernel_rfl) (fun _ _ _ h => h) (Or.inl ⟨by rfl, ?hy5zc⟩) hHeld ?rest5zc
                case hy5zc =>
                  intro w hSw
                  try dsimp only at hSw
                  go_simp
                  try with_reducible rfl
                try simp only [Act.put, List.setIfInBounds_toArray, List.set_cons_zero, List.set_cons_succ]
                refine wpAnyH_take (i := 6) (oi := { dst := some 133, op := Go.Op.move (Go.Operand.tmp 2), type := 3, pos := "law.go:98", after := #[{ on := 4, ground := Go.Ground.guard }], guard := some (4, false) }) (v := ?v6zc) rfl (by kernel_rfl) (by kernel_rfl) (by kernel_rfl) (fun _ _ _ h => h) (Or.inl ⟨by rfl, ?hy6zc⟩) hHeld ?rest6zc
                case hy6zc =>
                  intro w hSw
                  try dsimp only at hSw
                  go_simp
                  try with_reducible rfl
                try simp only [Act.put, List.setIfInBounds_toArray, List.set_cons_zero, List.set_cons_succ]
                refine wpAnyH_take (i := 7) (oi := { dst := some 134, op := Go.Op.move (Go.Operand.tmp 3), type := 27, pos := "law.go:98", after := #[{ on := 4, ground := Go.Ground.guard }], guard := some (4, false) }) (v := ?v7zc) rfl (by kernel_rfl) (by kernel_rfl) (by kernel_rfl) (fun _ _ _ h => h) (Or.inl ⟨by rfl, ?hy7zc⟩) hHeld ?rest7zc
                case hy7zc =>
                  intro w hSw
                  try dsimp only at hSw
                  go_simp
                  try with_reducible rfl
                try simp only [Act.put, List.setIfInBounds_toArray, List.set_cons_zero, List.set_cons_succ]
                refine wpAnyH_ready (rs := [8]) (by kernel_rfl) (by simp) ?_
                refine AllReadyH.cons (o := { dst := some 135, op := Go.Op.call { callee := Go.Callee.value (Go.Operand.func 16), args := #[Go.Operand.tmp 133, Go.Operand.tmp 134], argTypes := #[3, 27] }, type := 31, pos := "law.go:98", after := #[{ on := 6, ground := Go.Ground.data }, { on := 7, ground := Go.Ground.data }, { on := 4, ground := Go.Ground.chain }, { on := 4, ground := Go.Ground.guard }], guard := some (4, false) }) rfl (fun K hK => ?_) AllReadyH.nil
                go_simp
                refine (rofQ _ M kO al nl cl L (hL7.below k0.1) hM6 HaL.out HkO.out).mono ?_
                unfold SetQ
                rintro e j0 ⟨gj, cj, Rj, rfl, hj, hwj, hbj, hD0⟩
                have k1 : Below V7.heap.size V7 j0 ∧ j0.cell? ⟨uO.heap.size, 0, none⟩ = some (.int .i64 (M : Int)) ∧ j0.cell? ⟨uO.heap.size, 1, none⟩ = some (.slice gO kO cO) := ⟨bstep k0.1 hD0, ((vO.two).step (bstep k0.1 hD0)).c0, ((vO.two).step (bstep k0.1 hD0)).c1⟩
                have HE := Lib.hid (same_r vO.len hj.1 HwO.out.1 hwj fun i => by rw [HwO.out.2, hbj])
                clear hwj hbj
                go_wp2_with fail
                refine hK.out _ _ (k1) (fun hHeld => ?_)
                clear hK K
                try simp only [Act.put, List.setIfInBounds_toArray, List.set_cons_zero, List.set_cons_succ]
                refine wpAnyH_ready (rs := [9]) (by kernel_rfl) (by simp) ?_
                refine AllReadyH.cons (o := { dst := some 136, op := Go.Op.call { callee := Go.Callee.value (Go.Operand.func 51), args := #[Go.Operand.tmp 132, Go.Operand.tmp 135], argTypes := #[24, 31] }, type := 4, pos := "law.go:98", after := #[{ on := 5, ground := Go.Ground.data }, { on := 8, ground := Go.Ground.data }, { on := 8, ground := Go.Ground.chain }, { on := 4, ground := Go.Ground.guard }], guard := some (4, false) }) rfl (fun K hK => ?_) AllReadyH.nil
                go_simp
                refine (is_yes (vO.sl.below k1.1) hj HE.out).mono ?_
                rintro e i0 ⟨rfl, hE0⟩
                have k2 : Below V7.heap.size V7 i0 ∧ i0.cell? ⟨uO.heap.size, 0, none⟩ = some (.int .i64 (M : Int)) ∧ i0.cell? ⟨uO.heap.size, 1, none⟩ = some (.slice gO kO cO) := ⟨bstep k1.1 hE0, ((vO.two).step (bstep k1.1 hE0)).c0, ((vO.two).step (bstep k1.1 hE0)).c1⟩
                clear hj HE
                go_wp2_with fail
                refine hK.out _ _ (k2) (fun hHeld => ?_)
                clear hK K
                try simp only [Act.put, List.setIfInBounds_toArray, List.set_cons_zero, List.set_cons_succ]
                refine wpAnyH_take (i := 10) (oi := { dst := some 137, op := Go.Op.unOp Go.UnOp.not 4 (Go.Operand.tmp 136), type := 4, pos := "law.go:98", after := #[{ on := 9, ground := Go.Ground.data }, { on := 4, ground := Go.Ground.guard }], guard := some (4, false) }) (v := ?v10zc) rfl (by kernel_rfl) (by kernel_rfl) (by kernel_rfl) (fun _ _ _ h => h) (Or.inl ⟨by rfl, ?hy10zc⟩) hHeld ?rest10zc
                case hy10zc =>
                  intro w hSw
                  try dsimp only at hSw
                  go_simp
                  try with_reducible rfl
                try simp only [Act.put, List.setIfInBounds_toArray, List.set_cons_zero, List.set_cons_succ]
                refine wpAnyH_take (i := 11) (oi := { dst := some 138, op := Go.Op.pick (Go.Operand.tmp 131) (Go.Operand.const (Go.Value.bool true)) (Go.Operand.tmp 137), type := 4, pos := "law.go:98", after := #[{ on := 4, ground := Go.Ground.data }, { on := 10, ground := Go.Ground.data }, { on := 1, ground := Go.Ground.guard }], guard := some (1, true) }) (v := ?v11zc) rfl (by kernel_rfl) (by kernel_rfl) (by kernel_rfl) (fun _ _ _ h => h) (Or.inl ⟨by rfl, ?hy11zc⟩) hHeld ?rest11zc
                case hy11zc =>
                  intro w hSw
                  try dsimp only at hSw
                  go_simp
                  try with_reducible rfl
                try simp only [Act.put, List.setIfInBounds_toArray, List.set_cons_zero, List.set_cons_succ]
                refine wpAnyH_take (i := 12) (oi := { dst := some 139, op := Go.Op.pick (Go.Operand.tmp 128) (Go.Operand.tmp 138) (Go.Operand.const (Go.Value.bool false)), type := 4, pos := "law.go:98", after := #[{ on := 1, ground := Go.Ground.data }, { on := 11, ground := Go.Ground.data }], guard := none }) (v := ?v12zc) rfl (by kernel_rfl) (by kernel_rfl) (by kernel_rfl) (fun _ _ _ h => h) (Or.inl ⟨by rfl, ?hy12zc⟩) hHeld ?rest12zc
                case hy12zc =>
                  intro w hSw
                  try dsimp only at hSw
                  go_simp
                  try with_reducible rfl
                try simp only [Act.put, List.setIfInBounds_toArray, List.set_cons_zero, List.set_cons_succ]
                refine wpAnyH_take (i := 13) (oi := { dst := some 140, op := Go.Op.move (Go.Operand.tmp 139), type := 4, pos := "law.go:98", after := #[{ on := 12, ground := Go.Ground.data }, { on := 9, ground := Go.Ground.chain }], guard := none }) (v := ?v13zc) rfl (by kernel_rfl) (by kernel_rfl) (by kernel_rfl) (fun _ _ _ h => h) (Or.inl ⟨by rfl, ?hy13zc⟩) hHeld ?rest13zc
                case hy13zc =>
                  intro w hSw
                  try dsimp only at hSw
                  go_simp
                  try with_reducible rfl
                try simp only [Act.put, List.setIfInBounds_toArray, List.set_cons_zero, List.set_cons_succ]
                refine wpAnyH_take (i := 14) (oi := { dst := some 141, op := Go.Op.move (Go.Operand.tmp 22), type := 4, pos := "law.go:98", after := #[{ on := 13, ground := Go.Ground.guard }], guard := some (13, false) }) (v := ?v14zc) rfl (by kernel_rfl) (by kernel_rfl) (by kernel_rfl) (fun _ _ _ h => h) (Or.inl ⟨by rfl, ?hy14zc⟩) hHeld ?rest14zc
                case hy14zc =>
                  intro w hSw
                  try dsimp only at hSw
                  go_simp
                  try with_reducible rfl
                try simp only [Act.put, List.setIfInBounds_toArray, List.set_cons_zero, List.set_cons_succ]
                refine wpAnyH_take (i := 15) (oi := { dst := some 142, op := Go.Op.unOp Go.UnOp.not 4 (Go.Operand.tmp 141), type := 4, pos := "law.go:98", after := #[{ on := 14, ground := Go.Ground.data }, { on := 13, ground := Go.Ground.guard }], guard := some (13, false) }) (v := ?v15zc) rfl (by kernel_rfl) (by kernel_rfl) (by kernel_rfl) (fun _ _ _ h => h) (Or.inl ⟨by rfl, ?hy15zc⟩) hHeld ?rest15zc
                case hy15zc =>
                  intro w hSw
                  try dsimp only at hSw
                  go_simp
                  try with_reducible rfl
                try simp only [Act.put, List.setIfInBounds_toArray, List.set_cons_zero, List.set_cons_succ]
                refine wpAnyH_take (i := 16) (oi := { dst := some 143, op := Go.Op.move (Go.Operand.tmp 142), type := 4, pos := "law.go:98", after := #[{ on := 15, ground := Go.Ground.data }, { on := 13, ground := Go.Ground.chain }, { on := 13, ground := Go.Ground.guard }], guard := some (13, false) }) (v := ?v16zc) rfl (by kernel_rfl) (by kernel_rfl) (by kernel_rfl) (fun _ _ _ h => h) (Or.inl ⟨by rfl, ?hy16zc⟩) hHeld ?rest16zc
                case hy16zc =>
                  intro w hSw
                  try dsimp only at hSw
                  go_simp
                  try with_reducible rfl
                try simp only [Act.put, List.setIfInBounds_toArray, List.set_cons_zero, List.set_cons_succ]
                refine wpAnyH_take (i := 17) (oi := { dst := some 144, op := Go.Op.move (Go.Operand.tmp 15), type := 35, pos := "law.go:98", after := #[{ on := 16, ground := Go.Ground.guard }], guard := some (16, true) }) (v := undef) rfl (by kernel_rfl) (by kernel_rfl) (by kernel_rfl) (fun _ _ _ h => h) (Or.inr ⟨by rfl, rfl⟩) hHeld ?_
                try simp only [Act.put, List.setIfInBounds_toArray, List.set_cons_zero, List.set_cons_succ]
                refine wpAnyH_take (i := 18) (oi := { dst := some 145, op := Go.Op.binOp Go.BinOp.neq 35 (Go.Operand.tmp 144) (Go.Operand.const (Go.Value.int Go.IntKind.i64 2)) 35, type := 4, pos := "law.go:98", after := #[{ on := 17, ground := Go.Ground.data }, { on := 16, ground := Go.Ground.guard }], guard := some (16, true) }) (v := undef) rfl (by kernel_rfl) (by kernel_rfl) (by kernel_rfl) (fun _ _ _ h => h) (Or.inr ⟨by rfl, rfl⟩) hHeld ?_
                try simp only [Act.put, List.setIfInBounds_toArray, List.set_cons_zero, List.set_cons_succ]
                refine wpAnyH_take (i := 19) (oi := { dst := some 146, op := Go.Op.move (Go.Operand.tmp 145), type := 4, pos := "law.go:98", after := #[{ on := 18, ground := Go.Ground.data }, { on := 16, ground := Go.Ground.chain }, { on := 16, ground := Go.Ground.guard }], guard := some (16, true) }) (v := undef) rfl (by kernel_rfl) (by kernel_rfl) (by kernel_rfl) (fun _ _ _ h => h) (Or.inr ⟨by rfl, rfl⟩) hHeld ?_
                try simp only [Act.put, List.setIfInBounds_toArray, List.set_cons_zero, List.set_cons_succ]
                refine wpAnyH_take (i := 20) (oi := { dst := some 147, op := Go.Op.load 24 (Go.Operand.tmp 14), type := 24, pos := "law.go:98", after := #[{ on := 19, ground := Go.Ground.guard }], guard := some (19, false) }) (v := undef) rfl (by kernel_rfl) (by kernel_rfl) (by kernel_rfl) (fun _ _ _ h => h) (Or.inr ⟨by rfl, rfl⟩) hHeld ?_
                try simp only [Act.put, List.setIfInBounds_toArray, List.set_cons_zero, List.set_cons_succ]
                refine wpAnyH_take (i := 21) (oi := { dst := some 148, op := Go.Op.build 31 #[], type := 31, pos := "law.go:98", after := #[{ on := 19, ground := Go.Ground.guard }], guard := some (19, false) }) (v := undef) rfl (by kernel_rfl) (by kernel_rfl) (by kernel_rfl) (fun _ _ _ h => h) (Or.inr ⟨by rfl, rfl⟩) hHeld ?_
                try simp only [Act.put, List.setIfInBounds_toArray, List.set_cons_zero, List.set_cons_succ]
                refine wpAnyH_take (i := 22) (oi := { dst := some 149, op := Go.Op.call { callee := Go.Callee.value (Go.Operand.func 51), args := #[Go.Operand.tmp 147, Go.Operand.tmp 148], argTypes := #[24, 31] }, type := 4, pos := "law.go:98", after := #[{ on := 20, ground := Go.Ground.data }, { on := 21, ground := Go.Ground.data }, { on := 19, ground := Go.Ground.chain }, { on := 19, ground := Go.Ground.guard }], guard := some (19, false) }) (v := undef) rfl (by kernel_rfl) (by kernel_rfl) (by kernel_rfl) (fun _ _ _ h => h) (Or.inr ⟨by rfl, rfl⟩) hHeld ?_
                try simp only [Act.put, List.setIfInBounds_toArray, List.set_cons_zero, List.set_cons_succ]
                refine wpAnyH_take (i := 23) (oi := { dst := some 150, op := Go.Op.unOp Go.UnOp.not 4 (Go.Operand.tmp 149), type := 4, pos := "law.go:98", after := #[{ on := 22, ground := Go.Ground.data }, { on := 19, ground := Go.Ground.guard }], guard := some (19, false) }) (v := undef) rfl (by kernel_rfl) (by kernel_rfl) (by kernel_rfl) (fun _ _ _ h => h) (Or.inr ⟨by rfl, rfl⟩) hHeld ?_
                try simp only [Act.put, List.setIfInBounds_toArray, List.set_cons_zero, List.set_cons_succ]
                refine wpAnyH_take (i := 24) (oi := { dst := some 151, op := Go.Op.pick (Go.Operand.tmp 146) (Go.Operand.const (Go.Value.bool true)) (Go.Operand.tmp 150), type := 4, pos := "law.go:98", after := #[{ on := 19, ground := Go.Ground.data }, { on := 23, ground := Go.Ground.data }, { on := 16, ground := Go.Ground.guard }], guard := some (16, true) }) (v := undef) rfl (by kernel_rfl) (by kernel_rfl) (by kernel_rfl) (fun _ _ _ h => h) (Or.inr ⟨by rfl, rfl⟩) hHeld ?_
                try simp only [Act.put, List.setIfInBounds_toArray, List.set_cons_zero, List.set_cons_succ]
                refine wpAnyH_take (i := 25) (oi := { dst := some 152, op := Go.Op.pick (Go.Operand.tmp 143) (Go.Operand.tmp 151) (Go.Operand.const (Go.Value.bool false)), type := 4, pos := "law.go:98", after := #[{ on := 16, ground := Go.Ground.data }, { on := 24, ground := Go.Ground.data }, { on := 13, ground := Go.Ground.guard }], guard := some (13, false) }) (v := ?v25zc) rfl (by kernel_rfl) (by kernel_rfl) (by kernel_rfl) (fun _ _ _ h => h) (Or.inl ⟨by rfl, ?hy25zc⟩) hHeld ?rest25zc
                case hy25zc =>
                  intro w hSw
                  try dsimp only at hSw
                  go_simp
                  try with_reducible rfl
                try simp only [Act.put, List.setIfInBounds_toArray, List.set_cons_zero, List.set_cons_succ]
                refine wpAnyH_take (i := 26) (oi := { dst := some 153, op := Go.Op.pick (Go.Operand.tmp 140) (Go.Operand.const (Go.Value.bool true)) (Go.Operand.tmp 152), type := 4, pos := "law.go:98", after := #[{ on := 13, ground := Go.Ground.data }, { on := 25, ground := Go.Ground.data }], guard := none }) (v := ?v26zc) rfl (by kernel_rfl) (by kernel_rfl) (by kernel_rfl) (fun _ _ _ h => h) (Or.inl ⟨by rfl, ?hy26zc⟩) hHeld ?rest26zc
                case hy26zc =>
                  intro w hSw
                  try dsimp only at hSw
                  go_simp
                  try with_reducible rfl
                try simp only [Act.put, List.setIfInBounds_toArray, List.set_cons_zero, List.set_cons_succ]
                refine wpAnyH_done (by kernel_rfl) ?_ _
                refine NoPanic.normal ?_
                go_wp2_with fail
                go_meet
                case rel => exact ⟨rfl, k2.1⟩
              | false =>
                obtain ⟨hwO, hPO⟩ := HPO.out
                obtain ⟨e1, e2, e3⟩ := hPO.2 hbL.out.symm
                subst e1 e2 e3
                have hz := vO.zero
                subst hz
                clear hwO hPO HPO hbL
                have k0 : Below V7.heap.size V7 V7.drew ∧ V7.drew.cell? ⟨uO.heap.size, 0, none⟩ = some (.int .i64 0) ∧ V7.drew.cell? ⟨uO.heap.size, 1, none⟩ = some (.slice gO 0 cO) := ⟨(Below.refl _ _).drew, ((vO.two).step ((Below.refl _ _).drew)).c0, ((vO.two).step ((Below.refl _ _).drew)).c1⟩
                refine wp_region_noPanic ?_
                refine wp_region_held_drew (S := fun W => Below V7.heap.size V7 W ∧ W.cell? ⟨uO.heap.size, 0, none⟩ = some (.int .i64 0) ∧ W.cell? ⟨uO.heap.size, 1, none⟩ = some (.slice gO 0 cO)) (by kernel_rfl) (k0) (fun hHeld => ?_)
                refine wpAnyH_take (i := 0) (oi := { dst := some 127, op := Go.Op.move (Go.Operand.tmp 22), type := 4, pos := "law.go:98", after := #[], guard := none }) (v := ?v0zd) rfl (by kernel_rfl) (by kernel_rfl) (by kernel_rfl) (fun _ _ _ h => h) (Or.inl ⟨by rfl, ?hy0zd⟩) hHeld ?rest0zd
                case hy0zd =>
                  intro w hSw
                  try dsimp only at hSw
                  go_simp
                  try with_reducible rfl
                try simp only [Act.put, List.setIfInBounds_toArray, List.set_cons_zero, List.set_cons_succ]
                refine wpAnyH_take (i := 1) (oi := { dst := some 128, op := Go.Op.move (Go.Operand.tmp 127), type := 4, pos := "law.go:98", after := #[{ on := 0, ground := Go.Ground.data }], guard := none }) (v := ?v1zd) rfl (by kernel_rfl) (by kernel_rfl) (by kernel_rfl) (fun _ _ _ h => h) (Or.inl ⟨by rfl, ?hy1zd⟩) hHeld ?rest1zd
                case hy1zd =>
                  intro w hSw
                  try dsimp only at hSw
                  go_simp
                  try with_reducible rfl
                try simp only [Act.put, List.setIfInBounds_toArray, List.set_cons_zero, List.set_cons_succ]
                refine wpAnyH_take (i := 2) (oi := { dst := some 129, op := Go.Op.move (Go.Operand.tmp 15), type := 35, pos := "law.go:98", after := #[{ on := 1, ground := Go.Ground.guard }], guard := some (1, true) }) (v := undef) rfl (by kernel_rfl) (by kernel_rfl) (by kernel_rfl) (fun _ _ _ h => h) (Or.inr ⟨by rfl, rfl⟩) hHeld ?_
                try simp only [Act.put, List.setIfInBounds_toArray, List.set_cons_zero, List.set_cons_succ]
                refine wpAnyH_take (i := 3) (oi := { dst := some 130, op := Go.Op.binOp Go.BinOp.neq 35 (Go.Operand.tmp 129) (Go.Operand.const (Go.Value.int Go.IntKind.i64 0)) 35, type := 4, pos := "law.go:98", after := #[{ on := 2, ground := Go.Ground.data }, { on := 1, ground := Go.Ground.guard }], guard := some (1, true) }) (v := undef) rfl (by kernel_rfl) (by kernel_rfl) (by kernel_rfl) (fun _ _ _ h => h) (Or.inr ⟨by rfl, rfl⟩) hHeld ?_
                try simp only [Act.put, List.setIfInBounds_toArray, List.set_cons_zero, List.set_cons_succ]
                refine wpAnyH_take (i := 4) (oi := { dst := some 131, op := Go.Op.move (Go.Operand.tmp 130), type := 4, pos := "law.go:98", after := #[{ on := 3, ground := Go.Ground.data }, { on := 1, ground := Go.Ground.chain }, { on := 1, ground := Go.Ground.guard }], guard := some (1, true) }) (v := undef) rfl (by kernel_rfl) (by kernel_rfl) (by kernel_rfl) (fun _ _ _ h => h) (Or.inr ⟨by rfl, rfl⟩) hHeld ?_
                try simp only [Act.put, List.setIfInBounds_toArray, List.set_cons_zero, List.set_cons_succ]
                refine wpAnyH_take (i := 5) (oi := { dst := some 132, op := Go.Op.load 24 (Go.Operand.tmp 14), type := 24, pos := "law.go:98", after := #[{ on := 4, ground := Go.Ground.guard }], guard := some (4, false) }) (v := undef) rfl (by kernel_rfl) (by kernel_rfl) (by kernel_rfl) (fun _ _ _ h => h) (Or.inr ⟨by rfl, rfl⟩) hHeld ?_
                try simp only [Act.put, List.setIfInBounds_toArray, List.set_cons_zero, List.set_cons_succ]
                refine wpAnyH_take (i := 6) (oi := { dst := some 133, op := Go.Op.move (Go.Operand.tmp 2), type := 3, pos := "law.go:98", after := #[{ on := 4, ground := Go.Ground.guard }], guard := some (4, false) }) (v := undef) rfl (by kernel_rfl) (by kernel_rfl) (by kernel_rfl) (fun _ _ _ h => h) (Or.inr ⟨by rfl, rfl⟩) hHeld ?_
                try simp only [Act.put, List.setIfInBounds_toArray, List.set_cons_zero, List.set_cons_succ]
                refine wpAnyH_take (i := 7) (oi := { dst := some 134, op := Go.Op.move (Go.Operand.tmp 3), type := 27, pos := "law.go:98", after := #[{ on := 4, ground := Go.Ground.guard }], guard := some (4, false) }) (v := undef) rfl (by kernel_rfl) (by kernel_rfl) (by kernel_rfl) (fun _ _ _ h => h) (Or.inr ⟨by rfl, rfl⟩) hHeld ?_
                try simp only [Act.put, List.setIfInBounds_toArray, List.set_cons_zero, List.set_cons_succ]
                refine wpAnyH_take (i := 8) (oi := { dst := some 135, op := Go.Op.call { callee := Go.Callee.value (Go.Operand.func 16), args := #[Go.Operand.tmp 133, Go.Operand.tmp 134], argTypes := #[3, 27] }, type := 31, pos := "law.go:98", after := #[{ on := 6, ground := Go.Ground.data }, { on := 7, ground := Go.Ground.data }, { on := 4, ground := Go.Ground.chain }, { on := 4, ground := Go.Ground.guard }], guard := some (4, false) }) (v := undef) rfl (by kernel_rfl) (by kernel_rfl) (by kernel_rfl) (fun _ _ _ h => h) (Or.inr ⟨by rfl, rfl⟩) hHeld ?_
                try simp only [Act.put, List.setIfInBounds_toArray, List.set_cons_zero, List.set_cons_succ]
                refine wpAnyH_take (i := 9) (oi := { dst := some 136, op := Go.Op.call { callee := Go.Callee.value (Go.Operand.func 51), args := #[Go.Operand.tmp 132, Go.Operand.tmp 135], argTypes := #[24, 31] }, type := 4, pos := "law.go:98", after := #[{ on := 5, ground := Go.Ground.data }, { on := 8, ground := Go.Ground.data }, { on := 8, ground := Go.Ground.chain }, { on := 4, ground := Go.Ground.guard }], guard := some (4, false) }) (v := undef) rfl (by kernel_rfl) (by kernel_rfl) (by kernel_rfl) (fun _ _ _ h => h) (Or.inr ⟨by rfl, rfl⟩) hHeld ?_
                try simp only [Act.put, List.setIfInBounds_toArray, List.set_cons_zero, List.set_cons_succ]
                refine wpAnyH_take (i := 10) (oi := { dst := some 137, op := Go.Op.unOp Go.UnOp.not 4 (Go.Operand.tmp 136), type := 4, pos := "law.go:98", after := #[{ on := 9, ground := Go.Ground.data }, { on := 4, ground := Go.Ground.guard }], guard := some (4, false) }) (v := undef) rfl (by kernel_rfl) (by kernel_rfl) (by kernel_rfl) (fun _ _ _ h => h) (Or.inr ⟨by rfl, rfl⟩) hHeld ?_
                try simp only [Act.put, List.setIfInBounds_toArray, List.set_cons_zero, List.set_cons_succ]
                refine wpAnyH_take (i := 11) (oi := { dst := some 138, op := Go.Op.pick (Go.Operand.tmp 131) (Go.Operand.const (Go.Value.bool true)) (Go.Operand.tmp 137), type := 4, pos := "law.go:98", after := #[{ on := 4, ground := Go.Ground.data }, { on := 10, ground := Go.Ground.data }, { on := 1, ground := Go.Ground.guard }], guard := some (1, true) }) (v := undef) rfl (by kernel_rfl) (by kernel_rfl) (by kernel_rfl) (fun _ _ _ h => h) (Or.inr ⟨by rfl, rfl⟩) hHeld ?_
                try simp only [Act.put, List.setIfInBounds_toArray, List.set_cons_zero, List.set_cons_succ]
                refine wpAnyH_take (i := 12) (oi := { dst := some 139, op := Go.Op.pick (Go.Operand.tmp 128) (Go.Operand.tmp 138) (Go.Operand.const (Go.Value.bool false)), type := 4, pos := "law.go:98", after := #[{ on := 1, ground := Go.Ground.data }, { on := 11, ground := Go.Ground.data }], guard := none }) (v := ?v12zd) rfl (by kernel_rfl) (by kernel_rfl) (by kernel_rfl) (fun _ _ _ h => h) (Or.inl ⟨by rfl, ?hy12zd⟩) hHeld ?rest12zd
                case hy12zd =>
                  intro w hSw
                  try dsimp only at hSw
                  go_simp
                  try with_reducible rfl
                try simp only [Act.put, List.setIfInBounds_toArray, List.set_cons_zero, List.set_cons_succ]
                refine wpAnyH_take (i := 13) (oi := { dst := some 140, op := Go.Op.move (Go.Operand.tmp 139), type := 4, pos := "law.go:98", after := #[{ on := 12, ground := Go.Ground.data }, { on := 9, ground := Go.Ground.chain }], guard := none }) (v := ?v13zd) rfl (by kernel_rfl) (by kernel_rfl) (by kernel_rfl) (fun _ _ _ h => h) (Or.inl ⟨by rfl, ?hy13zd⟩) hHeld ?rest13zd
                case hy13zd =>
                  intro w hSw
                  try dsimp only at hSw
                  go_simp
                  try with_reducible rfl
                try simp only [Act.put, List.setIfInBounds_toArray, List.set_cons_zero, List.set_cons_succ]
                refine wpAnyH_take (i := 14) (oi := { dst := some 141, op := Go.Op.move (Go.Operand.tmp 22), type := 4, pos := "law.go:98", after := #[{ on := 13, ground := Go.Ground.guard }], guard := some (13, false) }) (v := ?v14zd) rfl (by kernel_rfl) (by kernel_rfl) (by kernel_rfl) (fun _ _ _ h => h) (Or.inl ⟨by rfl, ?hy14zd⟩) hHeld ?rest14zd
                case hy14zd =>
                  intro w hSw
                  try dsimp only at hSw
                  go_simp
                  try with_reducible rfl
                try simp only [Act.put, List.setIfInBounds_toArray, List.set_cons_zero, List.set_cons_succ]
                refine wpAnyH_take (i := 15) (oi := { dst := some 142, op := Go.Op.unOp Go.UnOp.not 4 (Go.Operand.tmp 141), type := 4, pos := "law.go:98", after := #[{ on := 14, ground := Go.Ground.data }, { on := 13, ground := Go.Ground.guard }], guard := some (13, false) }) (v := ?v15zd) rfl (by kernel_rfl) (by kernel_rfl) (by kernel_rfl) (fun _ _ _ h => h) (Or.inl ⟨by rfl, ?hy15zd⟩) hHeld ?rest15zd
                case hy15zd =>
                  intro w hSw
                  try dsimp only at hSw
                  go_simp
                  try with_reducible rfl
                try simp only [Act.put, List.setIfInBounds_toArray, List.set_cons_zero, List.set_cons_succ]
                refine wpAnyH_take (i := 16) (oi := { dst := some 143, op := Go.Op.move (Go.Operand.tmp 142), type := 4, pos := "law.go:98", after := #[{ on := 15, ground := Go.Ground.data }, { on := 13, ground := Go.Ground.chain }, { on := 13, ground := Go.Ground.guard }], guard := some (13, false) }) (v := ?v16zd) rfl (by kernel_rfl) (by kernel_rfl) (by kernel_rfl) (fun _ _ _ h => h) (Or.inl ⟨by rfl, ?hy16zd⟩) hHeld ?rest16zd
                case hy16zd =>
                  intro w hSw
                  try dsimp only at hSw
                  go_simp
                  try with_reducible rfl
                try simp only [Act.put, List.setIfInBounds_toArray, List.set_cons_zero, List.set_cons_succ]
                refine wpAnyH_take (i := 17) (oi := { dst := some 144, op := Go.Op.move (Go.Operand.tmp 15), type := 35, pos := "law.go:98", after := #[{ on := 16, ground := Go.Ground.guard }], guard := some (16, true) }) (v := ?v17zd) rfl (by kernel_rfl) (by kernel_rfl) (by kernel_rfl) (fun _ _ _ h => h) (Or.inl ⟨by rfl, ?hy17zd⟩) hHeld ?rest17zd
                case hy17zd =>
                  intro w hSw
                  try dsimp only at hSw
                  go_simp
                  try with_reducible rfl
                try simp only [Act.put, List.setIfInBounds_toArray, List.set_cons_zero, List.set_cons_succ]
                refine wpAnyH_take (i := 18) (oi := { dst := some 145, op := Go.Op.binOp Go.BinOp.neq 35 (Go.Operand.tmp 144) (Go.Operand.const (Go.Value.int Go.IntKind.i64 2)) 35, type := 4, pos := "law.go:98", after := #[{ on := 17, ground := Go.Ground.data }, { on := 16, ground := Go.Ground.guard }], guard := some (16, true) }) (v := ?v18zd) rfl (by kernel_rfl) (by kernel_rfl) (by kernel_rfl) (fun _ _ _ h => h) (Or.inl ⟨by rfl, ?hy18zd⟩) hHeld ?rest18zd
                case hy18zd =>
                  intro w hSw
                  try dsimp only at hSw
                  go_simp
                  try with_reducible rfl
                try simp only [Act.put, List.setIfInBounds_toArray, List.set_cons_zero, List.set_cons_succ]
                refine wpAnyH_take (i := 19) (oi := { dst := some 146, op := Go.Op.move (Go.Operand.tmp 145), type := 4, pos := "law.go:98", after := #[{ on := 18, ground := Go.Ground.data }, { on := 16, ground := Go.Ground.chain }, { on := 16, ground := Go.Ground.guard }], guard := some (16, true) }) (v := ?v19zd) rfl (by kernel_rfl) (by kernel_rfl) (by kernel_rfl) (fun _ _ _ h => h) (Or.inl ⟨by rfl, ?hy19zd⟩) hHeld ?rest19zd
                case hy19zd =>
                  intro w hSw
                  try dsimp only at hSw
                  go_simp
                  try with_reducible rfl
                try simp only [Act.put, List.setIfInBounds_toArray, List.set_cons_zero, List.set_cons_succ]
                refine wpAnyH_take (i := 20) (oi := { dst := some 147, op := Go.Op.load 24 (Go.Operand.tmp 14), type := 24, pos := "law.go:98", after := #[{ on := 19, ground := Go.Ground.guard }], guard := some (19, false) }) (v := ?v20zd) rfl (by kernel_rfl) (by kernel_rfl) (by kernel_rfl) (fun _ _ _ h => h) (Or.inl ⟨by rfl, ?hy20zd⟩) hHeld ?rest20zd
                case hy20zd =>
                  intro w hSw
                  try dsimp only at hSw
                  go_simp
                  try with_reducible rfl
                try simp only [Act.put, List.setIfInBounds_toArray, List.set_cons_zero, List.set_cons_succ]
                refine wpAnyH_take (i := 21) (oi := { dst := some 148, op := Go.Op.build 31 #[], type := 31, pos := "law.go:98", after := #[{ on := 19, ground := Go.Ground.guard }], guard := some (19, false) }) (v := ?v21zd) rfl (by kernel_rfl) (by kernel_rfl) (by kernel_rfl) (fun _ _ _ h => h) (Or.inl ⟨by rfl, ?hy21zd⟩) hHeld ?rest21zd
                case hy21zd =>
                  intro w hSw
                  try dsimp only at hSw
                  go_simp
                  try with_reducible rfl
                try simp only [Act.put, List.setIfInBounds_toArray, List.set_cons_zero, List.set_cons_succ]
                refine wpAnyH_ready (rs := [22]) (by kernel_rfl) (by simp) ?_
                refine AllReadyH.cons (o := { dst := some 149, op := Go.Op.call { callee := Go.Callee.value (Go.Operand.func 51), args := #[Go.Operand.tmp 147, Go.Operand.tmp 148], argTypes := #[24, 31] }, type := 4, pos := "law.go:98", after := #[{ on := 20, ground := Go.Ground.data }, { on := 21, ground := Go.Ground.data }, { on := 19, ground := Go.Ground.chain }, { on := 19, ground := Go.Ground.guard }], guard := some (19, false) }) rfl (fun K hK => ?_) AllReadyH.nil
                go_simp
                refine (is_yes (vO.sl.below k0.1) (Sl.nil _ _) rfl).mono ?_
                rintro e i0 ⟨rfl, hE0⟩
                have k1 : Below V7.heap.size V7 i0 ∧ i0.cell? ⟨uO.heap.size, 0, none⟩ = some (.int .i64 0) ∧ i0.cell? ⟨uO.heap.size, 1, none⟩ = some (.slice gO 0 cO) := ⟨bstep k0.1 hE0, ((vO.two).step (bstep k0.1 hE0)).c0, ((vO.two).step (bstep k0.1 hE0)).c1⟩
                go_wp2_with fail
                refine hK.out _ _ (k1) (fun hHeld => ?_)
                clear hK K
                try simp only [Act.put, List.setIfInBounds_toArray, List.set_cons_zero, List.set_cons_succ]
                refine wpAnyH_take (i := 23) (oi := { dst := some 150, op := Go.Op.unOp Go.UnOp.not 4 (Go.Operand.tmp 149), type := 4, pos := "law.go:98", after := #[{ on := 22, ground := Go.Ground.data }, { on := 19, ground := Go.Ground.guard }], guard := some (19, false) }) (v := ?v23zd) rfl (by kernel_rfl) (by kernel_rfl) (by kernel_rfl) (fun _ _ _ h => h) (Or.inl ⟨by rfl, ?hy23zd⟩) hHeld ?rest23zd
                case hy23zd =>
                  intro w hSw
                  try dsimp only at hSw
                  go_simp
                  try with_reducible rfl
                try simp only [Act.put, List.setIfInBounds_toArray, List.set_cons_zero, List.set_cons_succ]
                refine wpAnyH_take (i := 24) (oi := { dst := some 151, op := Go.Op.pick (Go.Operand.tmp 146) (Go.Operand.const (Go.Value.bool true)) (Go.Operand.tmp 150), type := 4, pos := "law.go:98", after := #[{ on := 19, ground := Go.Ground.data }, { on := 23, ground := Go.Ground.data }, { on := 16, ground := Go.Ground.guard }], guard := some (16, true) }) (v := ?v24zd) rfl (by kernel_rfl) (by kernel_rfl) (by kernel_rfl) (fun _ _ _ h => h) (Or.inl ⟨by rfl, ?hy24zd⟩) hHeld ?rest24zd
                case hy24zd =>
                  intro w hSw
                  try dsimp only at hSw
                  go_simp
                  try with_reducible rfl
                try simp only [Act.put, List.setIfInBounds_toArray, List.set_cons_zero, List.set_cons_succ]
                refine wpAnyH_take (i := 25) (oi := { dst := some 152, op := Go.Op.pick (Go.Operand.tmp 143) (Go.Operand.tmp 151) (Go.Operand.const (Go.Value.bool false)), type := 4, pos := "law.go:98", after := #[{ on := 16, ground := Go.Ground.data }, { on := 24, ground := Go.Ground.data }, { on := 13, ground := Go.Ground.guard }], guard := some (13, false) }) (v := ?v25zd) rfl (by kernel_rfl) (by kernel_rfl) (by kernel_rfl) (fun _ _ _ h => h) (Or.inl ⟨by rfl, ?hy25zd⟩) hHeld ?rest25zd
                case hy25zd =>
                  intro w hSw
                  try dsimp only at hSw
                  go_simp
                  try with_reducible rfl
                try simp only [Act.put, List.setIfInBounds_toArray, List.set_cons_zero, List.set_cons_succ]
                refine wpAnyH_take (i := 26) (oi := { dst := some 153, op := Go.Op.pick (Go.Operand.tmp 140) (Go.Operand.const (Go.Value.bool true)) (Go.Operand.tmp 152), type := 4, pos := "law.go:98", after := #[{ on := 13, ground := Go.Ground.data }, { on := 25, ground := Go.Ground.data }], guard := none }) (v := ?v26zd) rfl (by kernel_rfl) (by kernel_rfl) (by kernel_rfl) (fun _ _ _ h => h) (Or.inl ⟨by rfl, ?hy26zd⟩) hHeld ?rest26zd
                case hy26zd =>
                  intro w hSw
                  try dsimp only at hSw
                  go_simp
                  try with_reducible rfl
                try simp only [Act.put, List.setIfInBounds_toArray, List.set_cons_zero, List.set_cons_succ]
                refine wpAnyH_done (by kernel_rfl) ?_ _
                refine NoPanic.normal ?_
                go_wp2_with fail
                go_meet
                case rel => exact ⟨rfl, k1.1⟩
            case rest =>
              obtain ⟨rfl, hB7⟩ := hcut
              obtain ⟨V8, hV8⟩ : ∃ V, V = wc := ⟨_, rfl⟩
              rw [← hV8] at hB7 ⊢
              clear hV8 hL7 hbL
              replace bel := bstep bel hB7
              replace tX := tX.step hB7
              replace tA := tA.step hB7
              replace tR := tR.step hB7
              replace vN := vN.step hB7
              replace vO := vO.step hB7
              replace vW := vW.step hB7
              replace vS := vS.step hB7
              replace vT := vT.step hB7
              replace oX := ownsRow_below oX hB7
              replace sL := sL.below hB7
              clear hB7
              have dtX1 := tX.c1
              have dtA1 := tA.c1
              have q := keptN_any _ g a c3 n c l w.heap.size oX (s1.below bel).sl (by omega)
              go_wp2_with fail
              refine q.mono ?_
              rintro e y1 ⟨rfl, hD⟩
              replace bel := bstep bel hD
              replace tX := tX.step hD
              replace tA := tA.step hD
              replace tR := tR.step hD
              replace vN := vN.step hD
              replace vO := vO.step hD
              replace vW := vW.step hD
              replace vS := vS.step hD
              replace vT := vT.step hD
              replace oX := ownsRow_below oX hD
              replace sL := sL.below hD
              clear q hD dtX1 dtA1
              have q := keptI_any _ gl al c5 nl cl L sL (hL.below bel) (by omega)
              go_wp2_with fail
              refine q.mono ?_
              rintro e y2 ⟨rfl, hD⟩
              replace bel := bstep bel hD
              replace tX := tX.step hD
              replace tA := tA.step hD
              replace tR := tR.step hD
              replace vN := vN.step hD
              replace vO := vO.step hD
              replace vW := vW.step hD
              replace vS := vS.step hD
              replace vT := vT.step hD
              replace oX := ownsRow_below oX hD
              replace sL := sL.below hD
              clear q hD
              cases hr : rightB N l with
              | false =>
                have dtR0 := tR.c0
                have dtR1 := tR.c1
                have q := rrB (s1.below bel) hr
                go_wp2_with fail
                refine q.mono ?_
                rintro e y3 ⟨rfl, hD⟩
                replace bel := bstep bel hD
                replace tX := tX.step hD
                replace tA := tA.step hD
                replace tR := tR.step hD
                replace vN := vN.step hD
                replace vO := vO.step hD
                replace vW := vW.step hD
                replace vS := vS.step hD
                replace vT := vT.step hD
                replace oX := ownsRow_below oX hD
                replace sL := sL.below hD
                clear q hD dtR0 dtR1
                obtain ⟨e1, e2, e3⟩ := HPW.out.2.1 hr
                subst e1 e2 e3
                clear HPW
                obtain ⟨e1, e2, e3⟩ := HPS.out.2.1 hr
                subst e1 e2 e3
                clear HPS
                obtain ⟨e1, e2, e3⟩ := HPT.out.2.1 hr
                subst e1 e2 e3
                clear HPT
                have dvW_two0 := vW.two.c0
                have dvW_two1 := vW.two.c1
                have dvS_two0 := vS.two.c0
                have dvS_two1 := vS.two.c1
                have dvT_two0 := vT.two.c0
                have dvT_two1 := vT.two.c1
                go_wp2_with fail
                go_ret
                exact ⟨rfl, bel⟩
              | true =>
                have dtR0 := tR.c0
                have dtR1 := tR.c1
                have q := rrB (s1.below bel) hr
                go_wp2_with fail
                refine q.mono ?_
                rintro e y3 ⟨rfl, hD⟩
                replace bel := bstep bel hD
                replace tX := tX.step hD
                replace tA := tA.step hD
                replace tR := tR.step hD
                replace vN := vN.step hD
                replace vO := vO.step hD
                replace vW := vW.step hD
                replace vS := vS.step hD
                replace vT := vT.step hD
                replace oX := ownsRow_below oX hD
                replace sL := sL.below hD
                clear q hD dtR0 dtR1
                obtain ⟨e1, e2, hkT, hbT⟩ := HPT.out.2.2 hr
                replace e2 := e2.symm
                subst e1 e2
                obtain ⟨p0, p1, _⟩ := of_rightB hr
                obtain ⟨M, hM⟩ : ∃ k : Nat, N = (k : Int) := ⟨N.toNat, by omega⟩
                subst hM
                have hM6 : M ≤ 65536 := by omega
                replace hkT := hkT.trans s1.sl.1
                subst hkT
                have HK : Hid (kT = (M + 63) / 64) := Lib.hid ((right_len hr).trans s1.sl.1).symm
                have HwT := Lib.hid (And.intro HPT.out.1 hbT)
                have Hr := Lib.hid hr
                clear HPT hbT hr p0 p1
                go_upto_region 25 with fail
                have k0 : Below y3.heap.size y3 y3.drew ∧ y3.drew.cell? ⟨uT.heap.size, 0, none⟩ = some (.int .i64 (M : Int)) ∧ y3.drew.cell? ⟨uT.heap.size, 1, none⟩ = some (.slice gT kT cT) ∧ y3.drew.cell? ⟨w.heap.size, 0, none⟩ = some (.int .i64 (M : Int)) ∧ y3.drew.cell? ⟨w.heap.size, 1, none⟩ = some (.slice a kT c) := ⟨(Below.refl _ _).drew, ((vT.two).step ((Below.refl _ _).drew)).c0, ((vT.two).step ((Below.refl _ _).drew)).c1, ((tA).step ((Below.refl _ _).drew)).c0, ((tA).step ((Below.refl _ _).drew)).c1⟩
                refine wp_region_noPanic ?_
                refine wp_region_held_drew (S := fun W => Below y3.heap.size y3 W ∧ W.cell? ⟨uT.heap.size, 0, none⟩ = some (.int .i64 (M : Int)) ∧ W.cell? ⟨uT.heap.size, 1, none⟩ = some (.slice gT kT cT) ∧ W.cell? ⟨w.heap.size, 0, none⟩ = some (.int .i64 (M : Int)) ∧ W.cell? ⟨w.heap.size, 1, none⟩ = some (.slice a kT c)) (by kernel_rfl) (k0) (fun hHeld => ?_)
                refine wpAnyH_take (i := 0) (oi := { dst := some 202, op := Go.Op.move (Go.Operand.tmp 21), type := 35, pos := "law.go:107", after := #[], guard := none }) (v := ?v0ze) rfl (by kernel_rfl) (by kernel_rfl) (by kernel_rfl) (fun _ _ _ h => h) (Or.inl ⟨by rfl, ?hy0ze⟩) hHeld ?rest0ze
                case hy0ze =>
                  intro w hSw
                  try dsimp only at hSw
                  go_simp
                  try with_reducible rfl
                try simp only [Act.put, List.setIfInBounds_toArray, List.set_cons_zero, List.set_cons_succ]
                refine wpAnyH_take (i := 1) (oi := { dst := some 203, op := Go.Op.binOp Go.BinOp.neq 35 (Go.Operand.tmp 202) (Go.Operand.const (Go.Value.int Go.IntKind.i64 0)) 35, type := 4, pos := "law.go:107", after := #[{ on := 0, ground := Go.Ground.data }], guard := none }) (v := ?v1ze) rfl (by kernel_rfl) (by kernel_rfl) (by kernel_rfl) (fun _ _ _ h => h) (Or.inl ⟨by rfl, ?hy1ze⟩) hHeld ?rest1ze
                case hy1ze =>
                  intro w hSw
                  try dsimp only at hSw
                  go_simp
                  try with_reducible rfl
                try simp only [Act.put, List.setIfInBounds_toArray, List.set_cons_zero, List.set_cons_succ]
                refine wpAnyH_take (i := 2) (oi := { dst := some 204, op := Go.Op.move (Go.Operand.tmp 203), type := 4, pos := "law.go:107", after := #[{ on := 1, ground := Go.Ground.data }], guard := none }) (v := ?v2ze) rfl (by kernel_rfl) (by kernel_rfl) (by kernel_rfl) (fun _ _ _ h => h) (Or.inl ⟨by rfl, ?hy2ze⟩) hHeld ?rest2ze
                case hy2ze =>
                  intro w hSw
                  try dsimp only at hSw
                  go_simp
                  try with_reducible rfl
                try simp only [Act.put, List.setIfInBounds_toArray, List.set_cons_zero, List.set_cons_succ]
                refine wpAnyH_take (i := 3) (oi := { dst := some 205, op := Go.Op.load 24 (Go.Operand.tmp 20), type := 24, pos := "law.go:107", after := #[{ on := 2, ground := Go.Ground.guard }], guard := some (2, false) }) (v := ?v3ze) rfl (by kernel_rfl) (by kernel_rfl) (by kernel_rfl) (fun _ _ _ h => h) (Or.inl ⟨by rfl, ?hy3ze⟩) hHeld ?rest3ze
                case hy3ze =>
                  intro w hSw
                  try dsimp only at hSw
                  go_simp
                  try with_reducible rfl
                try simp only [Act.put, List.setIfInBounds_toArray, List.set_cons_zero, List.set_cons_succ]
                refine wpAnyH_take (i := 4) (oi := { dst := some 206, op := Go.Op.fieldAddr 24 (Go.Operand.tmp 4) 0, type := 0, pos := "law.go:107", after := #[{ on := 2, ground := Go.Ground.guard }], guard := some (2, false) }) (v := ?v4ze) rfl (by kernel_rfl) (by kernel_rfl) (by kernel_rfl) (fun _ _ _ h => h) (Or.inl ⟨by rfl, ?hy4ze⟩) hHeld ?rest4ze
                case hy4ze =>
                  intro w hSw
                  try dsimp only at hSw
                  go_simp
                  try with_reducible rfl
                try simp only [Act.put, List.setIfInBounds_toArray, List.set_cons_zero, List.set_cons_succ]
                refine wpAnyH_take (i := 5) (oi := { dst := some 207, op := Go.Op.load 3 (Go.Operand.tmp 206), type := 3, pos := "law.go:107", after := #[{ on := 4, ground := Go.Ground.data }, { on := 2, ground := Go.Ground.guard }], guard := some (2, false) }) (v := ?v5ze) rfl (by kernel_rfl) (by kernel_rfl) (by kernel_rfl) (fun _ _ _ h => h) (Or.inl ⟨by rfl, ?hy5ze⟩) hHeld ?rest5ze
                case hy5ze =>
                  intro w hSw
                  try dsimp only at hSw
                  go_simp
                  try with_reducible rfl
                try simp only [Act.put, List.setIfInBounds_toArray, List.set_cons_zero, List.set_cons_succ]
                refine wpAnyH_take (i := 6) (oi := { dst := some 208, op := Go.Op.fieldAddr 24 (Go.Operand.tmp 4) 1, type := 0, pos := "law.go:107", after := #[{ on := 2, ground := Go.Ground.guard }], guard := some (2, false) }) (v := ?v6ze) rfl (by kernel_rfl) (by kernel_rfl) (by kernel_rfl) (fun _ _ _ h => h) (Or.inl ⟨by rfl, ?hy6ze⟩) hHeld ?rest6ze
                case hy6ze =>
                  intro w hSw
                  try dsimp only at hSw
                  go_simp
                  try with_reducible rfl
                try simp only [Act.put, List.setIfInBounds_toArray, List.set_cons_zero, List.set_cons_succ]
                refine wpAnyH_take (i := 7) (oi := { dst := some 209, op := Go.Op.load 22 (Go.Operand.tmp 208), type := 22, pos := "law.go:107", after := #[{ on := 6, ground := Go.Ground.data }, { on := 2, ground := Go.Ground.guard }], guard := some (2, false) }) (v := ?v7ze) rfl (by kernel_rfl) (by kernel_rfl) (by kernel_rfl) (fun _ _ _ h => h) (Or.inl ⟨by rfl, ?hy7ze⟩) hHeld ?rest7ze
                case hy7ze =>
                  intro w hSw
                  try dsimp only at hSw
                  go_simp
                  try with_reducible rfl
                try simp only [Act.put, List.setIfInBounds_toArray, List.set_cons_zero, List.set_cons_succ]
                refine wpAnyH_ready (rs := [8]) (by kernel_rfl) (by simp) ?_
                refine AllReadyH.cons (o := { dst := some 210, op := Go.Op.call { callee := Go.Callee.value (Go.Operand.func 17), args := #[Go.Operand.tmp 207, Go.Operand.tmp 209, Go.Operand.const (Go.Value.slice none 0 0), Go.Operand.const (Go.Value.bool true), Go.Operand.const (Go.Value.bool false), Go.Operand.const (Go.Value.bool false), Go.Operand.const (Go.Value.bool false)], argTypes := #[3, 22, 22, 4, 4, 4, 4] }, type := 31, pos := "law.go:107", after := #[{ on := 5, ground := Go.Ground.data }, { on := 7, ground := Go.Ground.data }, { on := 2, ground := Go.Ground.chain }, { on := 2, ground := Go.Ground.guard }], guard := some (2, false) }) rfl (fun K hK => ?_) AllReadyH.nil
                go_simp
                refine (joinQ true false false false ((s1.below bel).below k0.1).sl (Sl.nil .u64 _) s1.wds Wds.nil hM6 HK.out).mono ?_
                unfold SetQ
                rintro e j0 ⟨gj, cj, Rj, rfl, hj, hwj, hbj, hD0⟩
                have k1 : Below y3.heap.size y3 j0 ∧ j0.cell? ⟨uT.heap.size, 0, none⟩ = some (.int .i64 (M : Int)) ∧ j0.cell? ⟨uT.heap.size, 1, none⟩ = some (.slice gT kT cT) ∧ j0.cell? ⟨w.heap.size, 0, none⟩ = some (.int .i64 (M : Int)) ∧ j0.cell? ⟨w.heap.size, 1, none⟩ = some (.slice a kT c) := ⟨bstep k0.1 hD0, ((vT.two).step (bstep k0.1 hD0)).c0, ((vT.two).step (bstep k0.1 hD0)).c1, ((tA).step (bstep k0.1 hD0)).c0, ((tA).step (bstep k0.1 hD0)).c1⟩
                have HE := Lib.hid (same_r vT.len hj.1 HwT.out.1 hwj fun i => by rw [HwT.out.2, hbj]; exact not_j i)
                clear hwj hbj
                go_wp2_with fail
                refine hK.out _ _ (k1) (fun hHeld => ?_)
                clear hK K
                try simp only [Act.put, List.setIfInBounds_toArray, List.set_cons_zero, List.set_cons_succ]
                refine wpAnyH_ready (rs := [9]) (by kernel_rfl) (by simp) ?_
                refine AllReadyH.cons (o := { dst := some 211, op := Go.Op.call { callee := Go.Callee.value (Go.Operand.func 51), args := #[Go.Operand.tmp 205, Go.Operand.tmp 210], argTypes := #[24, 31] }, type := 4, pos := "law.go:107", after := #[{ on := 3, ground := Go.Ground.data }, { on := 8, ground := Go.Ground.data }, { on := 8, ground := Go.Ground.chain }, { on := 2, ground := Go.Ground.guard }], guard := some (2, false) }) rfl (fun K hK => ?_) AllReadyH.nil
                go_simp
                refine (is_yes (vT.sl.below k1.1) hj HE.out).mono ?_
                rintro e i0 ⟨rfl, hE0⟩
                have k2 : Below y3.heap.size y3 i0 ∧ i0.cell? ⟨uT.heap.size, 0, none⟩ = some (.int .i64 (M : Int)) ∧ i0.cell? ⟨uT.heap.size, 1, none⟩ = some (.slice gT kT cT) ∧ i0.cell? ⟨w.heap.size, 0, none⟩ = some (.int .i64 (M : Int)) ∧ i0.cell? ⟨w.heap.size, 1, none⟩ = some (.slice a kT c) := ⟨bstep k1.1 hE0, ((vT.two).step (bstep k1.1 hE0)).c0, ((vT.two).step (bstep k1.1 hE0)).c1, ((tA).step (bstep k1.1 hE0)).c0, ((tA).step (bstep k1.1 hE0)).c1⟩
                clear hj HE
                go_wp2_with fail
                refine hK.out _ _ (k2) (fun hHeld => ?_)
                clear hK K
                try simp only [Act.put, List.setIfInBounds_toArray, List.set_cons_zero, List.set_cons_succ]
                refine wpAnyH_take (i := 10) (oi := { dst := some 212, op := Go.Op.unOp Go.UnOp.not 4 (Go.Operand.tmp 211), type := 4, pos := "law.go:107", after := #[{ on := 9, ground := Go.Ground.data }, { on := 2, ground := Go.Ground.guard }], guard := some (2, false) }) (v := ?v10ze) rfl (by kernel_rfl) (by kernel_rfl) (by kernel_rfl) (fun _ _ _ h => h) (Or.inl ⟨by rfl, ?hy10ze⟩) hHeld ?rest10ze
                case hy10ze =>
                  intro w hSw
                  try dsimp only at hSw
                  go_simp
                  try with_reducible rfl
                try simp only [Act.put, List.setIfInBounds_toArray, List.set_cons_zero, List.set_cons_succ]
                refine wpAnyH_take (i := 11) (oi := { dst := some 213, op := Go.Op.pick (Go.Operand.tmp 204) (Go.Operand.const (Go.Value.bool true)) (Go.Operand.tmp 212), type := 4, pos := "law.go:107", after := #[{ on := 2, ground := Go.Ground.data }, { on := 10, ground := Go.Ground.data }], guard := none }) (v := ?v11ze) rfl (by kernel_rfl) (by kernel_rfl) (by kernel_rfl) (fun _ _ _ h => h) (Or.inl ⟨by rfl, ?hy11ze⟩) hHeld ?rest11ze
                case hy11ze =>
                  intro w hSw
                  try dsimp only at hSw
                  go_simp
                  try with_reducible rfl
                try simp only [Act.put, List.setIfInBounds_toArray, List.set_cons_zero, List.set_cons_succ]
                refine wpAnyH_done (by kernel_rfl) ?_ _
                refine NoPanic.normal ?_
                have hB8 := k2.1
                clear k0 k1 k2
                replace bel := bstep bel hB8
                replace tX := tX.step hB8
                replace tA := tA.step hB8
                replace tR := tR.step hB8
                replace vN := vN.step hB8
                replace vO := vO.step hB8
                replace vW := vW.step hB8
                replace vS := vS.step hB8
                replace vT := vT.step hB8
                replace oX := ownsRow_below oX hB8
                replace sL := sL.below hB8
                clear hB8
                by_cases hi0 : i < 0
                · obtain ⟨e1, e2, e3⟩ := HPW.out.2.2.1 Hr.out (by omega)
                  subst e1 e2 e3
                  obtain ⟨e1, e2, e3⟩ := HPS.out.2.2.1 Hr.out (by omega)
                  subst e1 e2 e3
                  clear HPW HPS
                  have dvW_two0 := vW.two.c0
                  have dvW_two1 := vW.two.c1
                  have dvS_two0 := vS.two.c0
                  have dvS_two1 := vS.two.c1
                  have dtA0 := tA.c0
                  go_wp2_with fail
                  go_ret
                  exact ⟨rfl, bel⟩
                by_cases hi1 : (M : Int) ≤ i
                · obtain ⟨e1, e2, e3⟩ := HPW.out.2.2.1 Hr.out (by omega)
                  subst e1 e2 e3
                  obtain ⟨e1, e2, e3⟩ := HPS.out.2.2.1 Hr.out (by omega)
                  subst e1 e2 e3
                  clear HPW HPS
                  have dvW_two0 := vW.two.c0
                  have dvW_two1 := vW.two.c1
                  have dvS_two0 := vS.two.c0
                  have dvS_two1 := vS.two.c1
                  have dtA0 := tA.c0
                  go_wp2_with fail
                  go_ret
                  exact ⟨rfl, bel⟩
                have hi2 : 0 ≤ i := by omega
                have hi3 : i < (M : Int) := by omega
                obtain ⟨e1, e2, hkW, hbW⟩ := HPW.out.2.2.2 Hr.out hi2 hi3
                replace e2 := e2.symm
                subst e1 e2
                replace hkW := hkW.trans s1.sl.1
                replace hkW := hkW.symm
                subst hkW
                have HwW := Lib.hid (And.intro HPW.out.1 hbW)
                clear HPW hbW
                obtain ⟨e1, e2, hkS, hbS⟩ := HPS.out.2.2.2 Hr.out hi2 hi3
                replace e2 := e2.symm
                subst e1 e2
                replace hkS := hkS.trans s1.sl.1
                replace hkS := hkS.symm
                subst hkS
                have HwS := Lib.hid (And.intro HPS.out.1 hbS)
                clear HPS hbS
                have dtA0 := tA.c0
                have hA9 : Below i0.heap.size i0 (i0.alloc (.cells #[.int .i64 i] 3)) := (Below.refl _ _).alloc (Nat.le_refl _) _
                have hS1 := one_sl i0 i
                replace bel := bstep bel hA9
                replace tX := tX.step hA9
                replace tA := tA.step hA9
                replace tR := tR.step hA9
                replace vN := vN.step hA9
                replace vO := vO.step hA9
                replace vW := vW.step hA9
                replace vS := vS.step hA9
                replace vT := vT.step hA9
                replace oX := ownsRow_below oX hA9
                replace sL := sL.below hA9
                have q := rofQ _ M kT _ 1 1 [i] hS1 hM6 (by simp; omega) HK.out
                unfold SetQ at q
                go_wp2_with fail
                refine q.mono ?_
                rintro e y4 ⟨g9, c9, R9, rfl, h9, hw9, hb9, hD⟩
                replace bel := bstep bel hD
                replace tX := tX.step hD
                replace tA := tA.step hD
                replace tR := tR.step hD
                replace vN := vN.step hD
                replace vO := vO.step hD
                replace vW := vW.step hD
                replace vS := vS.step hD
                replace vT := vT.step hD
                replace oX := ownsRow_below oX hD
                replace sL := sL.below hD
                have H9 := Lib.hid hb9
                clear q hD hA9 hS1 hb9 dtA0
                have kf := field1 (M : Int) g9 kT c9
                go_upto_region 30 with fail
                clear kf
                have k0 : Below y4.heap.size y4 y4.drew ∧ y4.drew.cell? ⟨uW.heap.size, 0, none⟩ = some (.int .i64 (M : Int)) ∧ y4.drew.cell? ⟨uW.heap.size, 1, none⟩ = some (.slice gW kT cW) ∧ y4.drew.cell? ⟨uS.heap.size, 0, none⟩ = some (.int .i64 (M : Int)) ∧ y4.drew.cell? ⟨uS.heap.size, 1, none⟩ = some (.slice gS kT cS) ∧ y4.drew.cell? ⟨w.heap.size, 0, none⟩ = some (.int .i64 (M : Int)) ∧ y4.drew.cell? ⟨w.heap.size, 1, none⟩ = some (.slice a kT c) := ⟨(Below.refl _ _).drew, ((vW.two).step ((Below.refl _ _).drew)).c0, ((vW.two).step ((Below.refl _ _).drew)).c1, ((vS.two).step ((Below.refl _ _).drew)).c0, ((vS.two).step ((Below.refl _ _).drew)).c1, ((tA).step ((Below.refl _ _).drew)).c0, ((tA).step ((Below.refl _ _).drew)).c1⟩
                refine wp_region_noPanic ?_
                refine wp_region_held_drew (S := fun W => Below y4.heap.size y4 W ∧ W.cell? ⟨uW.heap.size, 0, none⟩ = some (.int .i64 (M : Int)) ∧ W.cell? ⟨uW.heap.size, 1, none⟩ = some (.slice gW kT cW) ∧ W.cell? ⟨uS.heap.size, 0, none⟩ = some (.int .i64 (M : Int)) ∧ W.cell? ⟨uS.heap.size, 1, none⟩ = some (.slice gS kT cS) ∧ W.cell? ⟨w.heap.size, 0, none⟩ = some (.int .i64 (M : Int)) ∧ W.cell? ⟨w.heap.size, 1, none⟩ = some (.slice a kT c)) (by kernel_rfl) (k0) (fun hHeld => ?_)
                refine wpAnyH_take (i := 0) (oi := { dst := some 250, op := Go.Op.move (Go.Operand.tmp 17), type := 35, pos := "law.go:114", after := #[], guard := none }) (v := ?v0zf) rfl (by kernel_rfl) (by kernel_rfl) (by kernel_rfl) (fun _ _ _ h => h) (Or.inl ⟨by rfl, ?hy0zf⟩) hHeld ?rest0zf
                case hy0zf =>
                  intro w hSw
                  try dsimp only at hSw
                  go_simp
                  try with_reducible rfl
                try simp only [Act.put, List.setIfInBounds_toArray, List.set_cons_zero, List.set_cons_succ]
                refine wpAnyH_take (i := 1) (oi := { dst := some 251, op := Go.Op.move (Go.Operand.tmp 19), type := 35, pos := "law.go:114", after := #[], guard := none }) (v := ?v1zf) rfl (by kernel_rfl) (by kernel_rfl) (by kernel_rfl) (fun _ _ _ h => h) (Or.inl ⟨by rfl, ?hy1zf⟩) hHeld ?rest1zf
                case hy1zf =>
                  intro w hSw
                  try dsimp only at hSw
                  go_simp
                  try with_reducible rfl
                try simp only [Act.put, List.setIfInBounds_toArray, List.set_cons_zero, List.set_cons_succ]
                refine wpAnyH_take (i := 2) (oi := { dst := some 252, op := Go.Op.binOp Go.BinOp.add 35 (Go.Operand.tmp 250) (Go.Operand.tmp 251) 35, type := 35, pos := "law.go:114", after := #[{ on := 0, ground := Go.Ground.data }, { on := 1, ground := Go.Ground.data }], guard := none }) (v := ?v2zf) rfl (by kernel_rfl) (by kernel_rfl) (by kernel_rfl) (fun _ _ _ h => h) (Or.inl ⟨by rfl, ?hy2zf⟩) hHeld ?rest2zf
                case hy2zf =>
                  intro w hSw
                  try dsimp only at hSw
                  go_simp
                  try with_reducible rfl
                try simp only [Act.put, List.setIfInBounds_toArray, List.set_cons_zero, List.set_cons_succ]
                refine wpAnyH_take (i := 3) (oi := { dst := some 253, op := Go.Op.binOp Go.BinOp.neq 35 (Go.Operand.tmp 252) (Go.Operand.const (Go.Value.int Go.IntKind.i64 0)) 35, type := 4, pos := "law.go:114", after := #[{ on := 2, ground := Go.Ground.data }], guard := none }) (v := ?v3zf) rfl (by kernel_rfl) (by kernel_rfl) (by kernel_rfl) (fun _ _ _ h => h) (Or.inl ⟨by rfl, ?hy3zf⟩) hHeld ?rest3zf
                case hy3zf =>
                  intro w hSw
                  try dsimp only at hSw
                  go_simp
                  try with_reducible rfl
                try simp only [Act.put, List.setIfInBounds_toArray, List.set_cons_zero, List.set_cons_succ]
                refine wpAnyH_take (i := 4) (oi := { dst := some 254, op := Go.Op.move (Go.Operand.tmp 253), type := 4, pos := "law.go:114", after := #[{ on := 3, ground := Go.Ground.data }], guard := none }) (v := ?v4zf) rfl (by kernel_rfl) (by kernel_rfl) (by kernel_rfl) (fun _ _ _ h => h) (Or.inl ⟨by rfl, ?hy4zf⟩) hHeld ?rest4zf
                case hy4zf =>
                  intro w hSw
                  try dsimp only at hSw
                  go_simp
                  try with_reducible rfl
                try simp only [Act.put, List.setIfInBounds_toArray, List.set_cons_zero, List.set_cons_succ]
                refine wpAnyH_take (i := 5) (oi := { dst := some 255, op := Go.Op.load 24 (Go.Operand.tmp 16), type := 24, pos := "law.go:114", after := #[{ on := 4, ground := Go.Ground.guard }], guard := some (4, false) }) (v := ?v5zf) rfl (by kernel_rfl) (by kernel_rfl) (by kernel_rfl) (fun _ _ _ h => h) (Or.inl ⟨by rfl, ?hy5zf⟩) hHeld ?rest5zf
                case hy5zf =>
                  intro w hSw
                  try dsimp only at hSw
                  go_simp
                  try with_reducible rfl
                try simp only [Act.put, List.setIfInBounds_toArray, List.set_cons_zero, List.set_cons_succ]
                refine wpAnyH_take (i := 6) (oi := { dst := some 256, op := Go.Op.fieldAddr 24 (Go.Operand.tmp 4) 0, type := 0, pos := "law.go:114", after := #[{ on := 4, ground := Go.Ground.guard }], guard := some (4, false) }) (v := ?v6zf) rfl (by kernel_rfl) (by kernel_rfl) (by kernel_rfl) (fun _ _ _ h => h) (Or.inl ⟨by rfl, ?hy6zf⟩) hHeld ?rest6zf
                case hy6zf =>
                  intro w hSw
                  try dsimp only at hSw
                  go_simp
                  try with_reducible rfl
                try simp only [Act.put, List.setIfInBounds_toArray, List.set_cons_zero, List.set_cons_succ]
                refine wpAnyH_take (i := 7) (oi := { dst := some 257, op := Go.Op.load 3 (Go.Operand.tmp 256), type := 3, pos := "law.go:114", after := #[{ on := 6, ground := Go.Ground.data }, { on := 4, ground := Go.Ground.guard }], guard := some (4, false) }) (v := ?v7zf) rfl (by kernel_rfl) (by kernel_rfl) (by kernel_rfl) (fun _ _ _ h => h) (Or.inl ⟨by rfl, ?hy7zf⟩) hHeld ?rest7zf
                case hy7zf =>
                  intro w hSw
                  try dsimp only at hSw
                  go_simp
                  try with_reducible rfl
                try simp only [Act.put, List.setIfInBounds_toArray, List.set_cons_zero, List.set_cons_succ]
                refine wpAnyH_take (i := 8) (oi := { dst := some 258, op := Go.Op.fieldAddr 24 (Go.Operand.tmp 4) 1, type := 0, pos := "law.go:114", after := #[{ on := 4, ground := Go.Ground.guard }], guard := some (4, false) }) (v := ?v8zf) rfl (by kernel_rfl) (by kernel_rfl) (by kernel_rfl) (fun _ _ _ h => h) (Or.inl ⟨by rfl, ?hy8zf⟩) hHeld ?rest8zf
                case hy8zf =>
                  intro w hSw
                  try dsimp only at hSw
                  go_simp
                  try with_reducible rfl
                try simp only [Act.put, List.setIfInBounds_toArray, List.set_cons_zero, List.set_cons_succ]
                refine wpAnyH_take (i := 9) (oi := { dst := some 259, op := Go.Op.load 22 (Go.Operand.tmp 258), type := 22, pos := "law.go:114", after := #[{ on := 8, ground := Go.Ground.data }, { on := 4, ground := Go.Ground.guard }], guard := some (4, false) }) (v := ?v9zf) rfl (by kernel_rfl) (by kernel_rfl) (by kernel_rfl) (fun _ _ _ h => h) (Or.inl ⟨by rfl, ?hy9zf⟩) hHeld ?rest9zf
                case hy9zf =>
                  intro w hSw
                  try dsimp only at hSw
                  go_simp
                  try with_reducible rfl
                try simp only [Act.put, List.setIfInBounds_toArray, List.set_cons_zero, List.set_cons_succ]
                refine wpAnyH_take (i := 10) (oi := { dst := some 260, op := Go.Op.move (Go.Operand.tmp 25), type := 22, pos := "law.go:114", after := #[{ on := 4, ground := Go.Ground.guard }], guard := some (4, false) }) (v := ?v10zf) rfl (by kernel_rfl) (by kernel_rfl) (by kernel_rfl) (fun _ _ _ h => h) (Or.inl ⟨by rfl, ?hy10zf⟩) hHeld ?rest10zf
                case hy10zf =>
                  intro w hSw
                  try dsimp only at hSw
                  go_simp
                  try with_reducible rfl
                try simp only [Act.put, List.setIfInBounds_toArray, List.set_cons_zero, List.set_cons_succ]
                refine wpAnyH_ready (rs := [11]) (by kernel_rfl) (by simp) ?_
                refine AllReadyH.cons (o := { dst := some 261, op := Go.Op.call { callee := Go.Callee.value (Go.Operand.func 17), args := #[Go.Operand.tmp 257, Go.Operand.tmp 259, Go.Operand.tmp 260, Go.Operand.const (Go.Value.bool false), Go.Operand.const (Go.Value.bool true), Go.Operand.const (Go.Value.bool true), Go.Operand.const (Go.Value.bool true)], argTypes := #[3, 22, 22, 4, 4, 4, 4] }, type := 31, pos := "law.go:114", after := #[{ on := 7, ground := Go.Ground.data }, { on := 9, ground := Go.Ground.data }, { on := 10, ground := Go.Ground.data }, { on := 4, ground := Go.Ground.chain }, { on := 4, ground := Go.Ground.guard }], guard := some (4, false) }) rfl (fun K hK => ?_) AllReadyH.nil
                go_simp
                refine (joinQ false true true true ((s1.below bel).below k0.1).sl (h9.below k0.1) s1.wds hw9 hM6 HK.out).mono ?_
                unfold SetQ
                rintro e j0 ⟨gj0, cj0, Rj0, rfl, hj0, hwj0, hbj0, hD0⟩
                have k1 : Below y4.heap.size y4 j0 ∧ j0.cell? ⟨uW.heap.size, 0, none⟩ = some (.int .i64 (M : Int)) ∧ j0.cell? ⟨uW.heap.size, 1, none⟩ = some (.slice gW kT cW) ∧ j0.cell? ⟨uS.heap.size, 0, none⟩ = some (.int .i64 (M : Int)) ∧ j0.cell? ⟨uS.heap.size, 1, none⟩ = some (.slice gS kT cS) ∧ j0.cell? ⟨w.heap.size, 0, none⟩ = some (.int .i64 (M : Int)) ∧ j0.cell? ⟨w.heap.size, 1, none⟩ = some (.slice a kT c) := ⟨bstep k0.1 hD0, ((vW.two).step (bstep k0.1 hD0)).c0, ((vW.two).step (bstep k0.1 hD0)).c1, ((vS.two).step (bstep k0.1 hD0)).c0, ((vS.two).step (bstep k0.1 hD0)).c1, ((tA).step (bstep k0.1 hD0)).c0, ((tA).step (bstep k0.1 hD0)).c1⟩
                have HE0 := Lib.hid (same_r vW.len hj0.1 HwW.out.1 hwj0 fun i => by simp only [HwW.out.2, hbj0, H9.out]; exact (one_j Hr.out hi3 i).1)
                clear hwj0 hbj0
                go_wp2_with fail
                refine hK.out _ _ (k1) (fun hHeld => ?_)
                clear hK K
                try simp only [Act.put, List.setIfInBounds_toArray, List.set_cons_zero, List.set_cons_succ]
                refine wpAnyH_ready (rs := [12]) (by kernel_rfl) (by simp) ?_
                refine AllReadyH.cons (o := { dst := some 262, op := Go.Op.call { callee := Go.Callee.value (Go.Operand.func 51), args := #[Go.Operand.tmp 255, Go.Operand.tmp 261], argTypes := #[24, 31] }, type := 4, pos := "law.go:114", after := #[{ on := 5, ground := Go.Ground.data }, { on := 11, ground := Go.Ground.data }, { on := 11, ground := Go.Ground.chain }, { on := 4, ground := Go.Ground.guard }], guard := some (4, false) }) rfl (fun K hK => ?_) AllReadyH.nil
                go_simp
                refine (is_yes (vW.sl.below k1.1) hj0 HE0.out).mono ?_
                rintro e z0 ⟨rfl, hE0⟩
                have k2 : Below y4.heap.size y4 z0 ∧ z0.cell? ⟨uW.heap.size, 0, none⟩ = some (.int .i64 (M : Int)) ∧ z0.cell? ⟨uW.heap.size, 1, none⟩ = some (.slice gW kT cW) ∧ z0.cell? ⟨uS.heap.size, 0, none⟩ = some (.int .i64 (M : Int)) ∧ z0.cell? ⟨uS.heap.size, 1, none⟩ = some (.slice gS kT cS) ∧ z0.cell? ⟨w.heap.size, 0, none⟩ = some (.int .i64 (M : Int)) ∧ z0.cell? ⟨w.heap.size, 1, none⟩ = some (.slice a kT c) := ⟨bstep k1.1 hE0, ((vW.two).step (bstep k1.1 hE0)).c0, ((vW.two).step (bstep k1.1 hE0)).c1, ((vS.two).step (bstep k1.1 hE0)).c0, ((vS.two).step (bstep k1.1 hE0)).c1, ((tA).step (bstep k1.1 hE0)).c0, ((tA).step (bstep k1.1 hE0)).c1⟩
                clear hj0 HE0
                go_wp2_with fail
                refine hK.out _ _ (k2) (fun hHeld => ?_)
                clear hK K
                try simp only [Act.put, List.setIfInBounds_toArray, List.set_cons_zero, List.set_cons_succ]
                refine wpAnyH_take (i := 13) (oi := { dst := some 263, op := Go.Op.unOp Go.UnOp.not 4 (Go.Operand.tmp 262), type := 4, pos := "law.go:114", after := #[{ on := 12, ground := Go.Ground.data }, { on := 4, ground := Go.Ground.guard }], guard := some (4, false) }) (v := ?v13zf) rfl (by kernel_rfl) (by kernel_rfl) (by kernel_rfl) (fun _ _ _ h => h) (Or.inl ⟨by rfl, ?hy13zf⟩) hHeld ?rest13zf
                case hy13zf =>
                  intro w hSw
                  try dsimp only at hSw
                  go_simp
                  try with_reducible rfl
                try simp only [Act.put, List.setIfInBounds_toArray, List.set_cons_zero, List.set_cons_succ]
                refine wpAnyH_take (i := 14) (oi := { dst := some 264, op := Go.Op.pick (Go.Operand.tmp 254) (Go.Operand.const (Go.Value.bool true)) (Go.Operand.tmp 263), type := 4, pos := "law.go:114", after := #[{ on := 4, ground := Go.Ground.data }, { on := 13, ground := Go.Ground.data }], guard := none }) (v := ?v14zf) rfl (by kernel_rfl) (by kernel_rfl) (by kernel_rfl) (fun _ _ _ h => h) (Or.inl ⟨by rfl, ?hy14zf⟩) hHeld ?rest14zf
                case hy14zf =>
                  intro w hSw
                  try dsimp only at hSw
                  go_simp
                  try with_reducible rfl
                try simp only [Act.put, List.setIfInBounds_toArray, List.set_cons_zero, List.set_cons_succ]
                refine wpAnyH_take (i := 15) (oi := { dst := some 265, op := Go.Op.move (Go.Operand.tmp 264), type := 4, pos := "law.go:114", after := #[{ on := 14, ground := Go.Ground.data }, { on := 12, ground := Go.Ground.chain }], guard := none }) (v := ?v15zf) rfl (by kernel_rfl) (by kernel_rfl) (by kernel_rfl) (fun _ _ _ h => h) (Or.inl ⟨by rfl, ?hy15zf⟩) hHeld ?rest15zf
                case hy15zf =>
                  intro w hSw
                  try dsimp only at hSw
                  go_simp
                  try with_reducible rfl
                try simp only [Act.put, List.setIfInBounds_toArray, List.set_cons_zero, List.set_cons_succ]
                refine wpAnyH_take (i := 16) (oi := { dst := some 266, op := Go.Op.load 24 (Go.Operand.tmp 18), type := 24, pos := "law.go:114", after := #[{ on := 15, ground := Go.Ground.guard }], guard := some (15, false) }) (v := ?v16zf) rfl (by kernel_rfl) (by kernel_rfl) (by kernel_rfl) (fun _ _ _ h => h) (Or.inl ⟨by rfl, ?hy16zf⟩) hHeld ?rest16zf
                case hy16zf =>
                  intro w hSw
                  try dsimp only at hSw
                  go_simp
                  try with_reducible rfl
                try simp only [Act.put, List.setIfInBounds_toArray, List.set_cons_zero, List.set_cons_succ]
                refine wpAnyH_take (i := 17) (oi := { dst := some 267, op := Go.Op.fieldAddr 24 (Go.Operand.tmp 4) 0, type := 0, pos := "law.go:114", after := #[{ on := 15, ground := Go.Ground.guard }], guard := some (15, false) }) (v := ?v17zf) rfl (by kernel_rfl) (by kernel_rfl) (by kernel_rfl) (fun _ _ _ h => h) (Or.inl ⟨by rfl, ?hy17zf⟩) hHeld ?rest17zf
                case hy17zf =>
                  intro w hSw
                  try dsimp only at hSw
                  go_simp
                  try with_reducible rfl
                try simp only [Act.put, List.setIfInBounds_toArray, List.set_cons_zero, List.set_cons_succ]
                refine wpAnyH_take (i := 18) (oi := { dst := some 268, op := Go.Op.load 3 (Go.Operand.tmp 267), type := 3, pos := "law.go:114", after := #[{ on := 17, ground := Go.Ground.data }, { on := 15, ground := Go.Ground.guard }], guard := some (15, false) }) (v := ?v18zf) rfl (by kernel_rfl) (by kernel_rfl) (by kernel_rfl) (fun _ _ _ h => h) (Or.inl ⟨by rfl, ?hy18zf⟩) hHeld ?rest18zf
                case hy18zf =>
                  intro w hSw
                  try dsimp only at hSw
                  go_simp
                  try with_reducible rfl
                try simp only [Act.put, List.setIfInBounds_toArray, List.set_cons_zero, List.set_cons_succ]
                refine wpAnyH_take (i := 19) (oi := { dst := some 269, op := Go.Op.fieldAddr 24 (Go.Operand.tmp 4) 1, type := 0, pos := "law.go:114", after := #[{ on := 15, ground := Go.Ground.guard }], guard := some (15, false) }) (v := ?v19zf) rfl (by kernel_rfl) (by kernel_rfl) (by kernel_rfl) (fun _ _ _ h => h) (Or.inl ⟨by rfl, ?hy19zf⟩) hHeld ?rest19zf
                case hy19zf =>
                  intro w hSw
                  try dsimp only at hSw
                  go_simp
                  try with_reducible rfl
                try simp only [Act.put, List.setIfInBounds_toArray, List.set_cons_zero, List.set_cons_succ]
                refine wpAnyH_take (i := 20) (oi := { dst := some 270, op := Go.Op.load 22 (Go.Operand.tmp 269), type := 22, pos := "law.go:114", after := #[{ on := 19, ground := Go.Ground.data }, { on := 15, ground := Go.Ground.guard }], guard := some (15, false) }) (v := ?v20zf) rfl (by kernel_rfl) (by kernel_rfl) (by kernel_rfl) (fun _ _ _ h => h) (Or.inl ⟨by rfl, ?hy20zf⟩) hHeld ?rest20zf
                case hy20zf =>
                  intro w hSw
                  try dsimp only at hSw
                  go_simp
                  try with_reducible rfl
                try simp only [Act.put, List.setIfInBounds_toArray, List.set_cons_zero, List.set_cons_succ]
                refine wpAnyH_take (i := 21) (oi := { dst := some 271, op := Go.Op.move (Go.Operand.tmp 25), type := 22, pos := "law.go:114", after := #[{ on := 15, ground := Go.Ground.guard }], guard := some (15, false) }) (v := ?v21zf) rfl (by kernel_rfl) (by kernel_rfl) (by kernel_rfl) (fun _ _ _ h => h) (Or.inl ⟨by rfl, ?hy21zf⟩) hHeld ?rest21zf
                case hy21zf =>
                  intro w hSw
                  try dsimp only at hSw
                  go_simp
                  try with_reducible rfl
                try simp only [Act.put, List.setIfInBounds_toArray, List.set_cons_zero, List.set_cons_succ]
                refine wpAnyH_ready (rs := [22]) (by kernel_rfl) (by simp) ?_
                refine AllReadyH.cons (o := { dst := some 272, op := Go.Op.call { callee := Go.Callee.value (Go.Operand.func 17), args := #[Go.Operand.tmp 268, Go.Operand.tmp 270, Go.Operand.tmp 271, Go.Operand.const (Go.Value.bool false), Go.Operand.const (Go.Value.bool true), Go.Operand.const (Go.Value.bool false), Go.Operand.const (Go.Value.bool false)], argTypes := #[3, 22, 22, 4, 4, 4, 4] }, type := 31, pos := "law.go:114", after := #[{ on := 18, ground := Go.Ground.data }, { on := 20, ground := Go.Ground.data }, { on := 21, ground := Go.Ground.data }, { on := 15, ground := Go.Ground.chain }, { on := 15, ground := Go.Ground.guard }], guard := some (15, false) }) rfl (fun K hK => ?_) AllReadyH.nil
                go_simp
                refine (joinQ false true false false ((s1.below bel).below k2.1).sl (h9.below k2.1) s1.wds hw9 hM6 HK.out).mono ?_
                unfold SetQ
                rintro e j1 ⟨gj1, cj1, Rj1, rfl, hj1, hwj1, hbj1, hD1⟩
                have k3 : Below y4.heap.size y4 j1 ∧ j1.cell? ⟨uW.heap.size, 0, none⟩ = some (.int .i64 (M : Int)) ∧ j1.cell? ⟨uW.heap.size, 1, none⟩ = some (.slice gW kT cW) ∧ j1.cell? ⟨uS.heap.size, 0, none⟩ = some (.int .i64 (M : Int)) ∧ j1.cell? ⟨uS.heap.size, 1, none⟩ = some (.slice gS kT cS) ∧ j1.cell? ⟨w.heap.size, 0, none⟩ = some (.int .i64 (M : Int)) ∧ j1.cell? ⟨w.heap.size, 1, none⟩ = some (.slice a kT c) := ⟨bstep k2.1 hD1, ((vW.two).step (bstep k2.1 hD1)).c0, ((vW.two).step (bstep k2.1 hD1)).c1, ((vS.two).step (bstep k2.1 hD1)).c0, ((vS.two).step (bstep k2.1 hD1)).c1, ((tA).step (bstep k2.1 hD1)).c0, ((tA).step (bstep k2.1 hD1)).c1⟩
                have HE1 := Lib.hid (same_r vS.len hj1.1 HwS.out.1 hwj1 fun i => by simp only [HwS.out.2, hbj1, H9.out]; exact (one_j Hr.out hi3 i).2)
                clear hwj1 hbj1
                go_wp2_with fail
                refine hK.out _ _ (k3) (fun hHeld => ?_)
                clear hK K
                try simp only [Act.put, List.setIfInBounds_toArray, List.set_cons_zero, List.set_cons_succ]
                refine wpAnyH_ready (rs := [23]) (by kernel_rfl) (by simp) ?_
                refine AllReadyH.cons (o := { dst := some 273, op := Go.Op.call { callee := Go.Callee.value (Go.Operand.func 51), args := #[Go.Operand.tmp 266, Go.Operand.tmp 272], argTypes := #[24, 31] }, type := 4, pos := "law.go:114", after := #[{ on := 16, ground := Go.Ground.data }, { on := 22, ground := Go.Ground.data }, { on := 22, ground := Go.Ground.chain }, { on := 15, ground := Go.Ground.guard }], guard := some (15, false) }) rfl (fun K hK => ?_) AllReadyH.nil
                go_simp
                refine (is_yes (vS.sl.below k3.1) hj1 HE1.out).mono ?_
                rintro e z1 ⟨rfl, hE1⟩
                have k4 : Below y4.heap.size y4 z1 ∧ z1.cell? ⟨uW.heap.size, 0, none⟩ = some (.int .i64 (M : Int)) ∧ z1.cell? ⟨uW.heap.size, 1, none⟩ = some (.slice gW kT cW) ∧ z1.cell? ⟨uS.heap.size, 0, none⟩ = some (.int .i64 (M : Int)) ∧ z1.cell? ⟨uS.heap.size, 1, none⟩ = some (.slice gS kT cS) ∧ z1.cell? ⟨w.heap.size, 0, none⟩ = some (.int .i64 (M : Int)) ∧ z1.cell? ⟨w.heap.size, 1, none⟩ = some (.slice a kT c) := ⟨bstep k3.1 hE1, ((vW.two).step (bstep k3.1 hE1)).c0, ((vW.two).step (bstep k3.1 hE1)).c1, ((vS.two).step (bstep k3.1 hE1)).c0, ((vS.two).step (bstep k3.1 hE1)).c1, ((tA).step (bstep k3.1 hE1)).c0, ((tA).step (bstep k3.1 hE1)).c1⟩
                clear hj1 HE1
                go_wp2_with fail
                refine hK.out _ _ (k4) (fun hHeld => ?_)
                clear hK K
                try simp only [Act.put, List.setIfInBounds_toArray, List.set_cons_zero, List.set_cons_succ]
                refine wpAnyH_take (i := 24) (oi := { dst := some 274, op := Go.Op.unOp Go.UnOp.not 4 (Go.Operand.tmp 273), type := 4, pos := "law.go:114", after := #[{ on := 23, ground := Go.Ground.data }, { on := 15, ground := Go.Ground.guard }], guard := some (15, false) }) (v := ?v24zf) rfl (by kernel_rfl) (by kernel_rfl) (by kernel_rfl) (fun _ _ _ h => h) (Or.inl ⟨by rfl, ?hy24zf⟩) hHeld ?rest24zf
                case hy24zf =>
                  intro w hSw
                  try dsimp only at hSw
                  go_simp
                  try with_reducible rfl
                try simp only [Act.put, List.setIfInBounds_toArray, List.set_cons_zero, List.set_cons_succ]
                refine wpAnyH_take (i := 25) (oi := { dst := some 275, op := Go.Op.pick (Go.Operand.tmp 265) (Go.Operand.const (Go.Value.bool true)) (Go.Operand.tmp 274), type := 4, pos := "law.go:114", after := #[{ on := 15, ground := Go.Ground.data }, { on := 24, ground := Go.Ground.data }], guard := none }) (v := ?v25zf) rfl (by kernel_rfl) (by kernel_rfl) (by kernel_rfl) (fun _ _ _ h => h) (Or.inl ⟨by rfl, ?hy25zf⟩) hHeld ?rest25zf
                case hy25zf =>
                  intro w hSw
                  try dsimp only at hSw
                  go_simp
                  try with_reducible rfl
                try simp only [Act.put, List.setIfInBounds_toArray, List.set_cons_zero, List.set_cons_succ]
                refine wpAnyH_done (by kernel_rfl) ?_ _
                refine NoPanic.normal ?_
                have hB8 := k4.1
                clear k0 k1 k2 k3 k4
                replace bel := bstep bel hB8
                replace tX := tX.step hB8
                replace tA := tA.step hB8
                replace tR := tR.step hB8
                replace vN := vN.step hB8
                replace vO := vO.step hB8
                replace vW := vW.step hB8
                replace vS := vS.step hB8
                replace vT := vT.step hB8
                replace oX := ownsRow_below oX hB8
                replace sL := sL.below hB8
                clear hB8 h9
                have dtX1 := tX.c1
                have dvW_two1 := vW.two.c1
                have dvS_two1 := vS.two.c1
                have dvT_two1 := vT.two.c1
                have dvN_two1 := vN.two.c1
                have dvO_two1 := vO.two.c1
                have hC6 : Sep [(g, kT, c3, l), (gW, kT, cW, RW), (gS, kT, cS, RS), (gT, kT, cT, RT), (gN, kN, cN, RN), (gO, kO, cO, RO)] := (show Sep [(g, kT, c3, l), (gN, kN, cN, RN), (gO, kO, cO, RO), (gW, kT, cW, RW), (gS, kT, cS, RS), (gT, kT, cT, RT)] from HC.out.sep).perm (List.Perm.cons _ (List.perm_append_comm (l₁ := [(gN, kN, cN, RN), (gO, kO, cO, RO)]) (l₂ := [(gW, kT, cW, RW), (gS, kT, cS, RS), (gT, kT, cT, RT)])))
                have hn9 : kT ≤ 100000 := by omega
                have hnN : kN ≤ 100000 := by
                  cases hin : inB m with
                  | true => obtain ⟨e1, e2, e3, e4⟩ := HPN.out.2.1 hin; have := inB_yes hin; omega
                  | false => obtain ⟨e1, e2, e3⟩ := HPN.out.2.2 hin; omega
                have hnO : kO ≤ 100000 := by
                  cases hin : (inB m && allB m L) with
                  | true => obtain ⟨e1, e2, e3, e4⟩ := HPO.out.2.1 hin; rw [Bool.and_eq_true] at hin; have := inB_yes hin.1; omega
                  | false => obtain ⟨e1, e2, e3⟩ := HPO.out.2.2 hin; omega
                have oX := own_cut s1.sl.1 oX
                have oW := vW.own
                have oS := vS.own
                have oT := vT.own
                have oN := vN.own
                have oO := vO.own
                have q := fun cs hcs => apart_sep z1 [(g, kT, c3, l), (gW, kT, cW, RW), (gS, kT, cS, RS), (gT, kT, cT, RT), (gN, kN, cN, RN), (gO, kO, cO, RO)] w.heap.size 6 cs hC6 (by rintro t ht; simp only [List.mem_cons, List.not_mem_nil, or_false] at ht; rcases ht with rfl | rfl | rfl | rfl | rfl | rfl <;> first | exact oX | exact oW | exact oS | exact oT | exact oN | exact oO) (by rintro t ht; simp only [List.mem_cons, List.not_mem_nil, or_false] at ht; rcases ht with rfl | rfl | rfl | rfl | rfl | rfl <;> first | exact hn9 | exact hnN | exact hnO) rfl (by omega) (by omega) bel.size hcs
                clear hC6 HC oW oS oT oN oO
                go_wp2_with fail
                refine (q _ rfl).mono ?_
                rintro e y9 ⟨rfl, hE9⟩
                go_wp2_with fail
                go_ret
                exact ⟨rfl, bel.trans hE9⟩
end Go.Proofs.YtcdjfgkjllonhaaDoor
