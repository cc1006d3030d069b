/-
  The walk of BitsAlgebra (under way: two sets are made).
-/
import Derived.Test.YtcdjfgkjllonhaaDoorBl4
namespace Go.Proofs.YtcdjfgkjllonhaaDoor
open Go.RowKit Go.Shelf

/-- A row stays as it is where another block is written. -/
theorem own_ne {w : World} {base : Nat} {e : TypeId} {size : Nat} {v : Value} {n : Nat} {xs : List Value} (h : w.ownsRow base e size v n xs) {b : Nat} (hne : ∀ q, v.ownBlock = some q → q ≠ b) (j : Nat) (x : Value) : (w.setCell ⟨b, j, none⟩ x).ownsRow base e size v n xs := by
  obtain ⟨h1, h2⟩ := h
  refine ⟨h1, ?_⟩
  rcases h2 with h3 | ⟨g, cap, cur, hv, hb, hh, hr⟩
  · exact .inl h3
  · have hq : g ≠ b := hne g (by rw [hv]; rfl)
    exact .inr ⟨g, cap, cur, hv, hb, (Below.heap_setCell _ _ _ _ hq).trans hh, hr⟩

theorem Five.mk7 {w : World} {N K : Nat} {W : World} {b0 b1 b2 b3 b4 b5 b6 c0 c1 c2 c3 c4 c5 c6 : Nat} {g0 g1 g2 g3 g4 g5 g6 : Option Addr} {R0 R1 R2 R3 R4 R5 R6 : List Int} (h0 : MdS w W b0 N K g0 c0 R0) (h1 : MdS w W b1 N K g1 c1 R1) (h2 : MdS w W b2 N K g2 c2 R2) (h3 : MdS w W b3 N K g3 c3 R3) (h4 : MdS w W b4 N K g4 c4 R4) (h5 : MdS w W b5 N K g5 c5 R5) (h6 : MdS w W b6 N K g6 c6 R6) :
    ∃ T, Five w N K T W ∧ (∀ W', Five w N K T W' → MdS w W' b0 N K g0 c0 R0) ∧ (∀ W', Five w N K T W' → MdS w W' b1 N K g1 c1 R1) ∧ (∀ W', Five w N K T W' → MdS w W' b2 N K g2 c2 R2) ∧ (∀ W', Five w N K T W' → MdS w W' b3 N K g3 c3 R3) ∧ (∀ W', Five w N K T W' → MdS w W' b4 N K g4 c4 R4) ∧ (∀ W', Five w N K T W' → MdS w W' b5 N K g5 c5 R5) ∧ (∀ W', Five w N K T W' → MdS w W' b6 N K g6 c6 R6) := by
  refine ⟨[(b0, g0, c0, R0), (b1, g1, c1, R1), (b2, g2, c2, R2), (b3, g3, c3, R3), (b4, g4, c4, R4), (b5, g5, c5, R5), (b6, g6, c6, R6)], ?_, ?_, ?_, ?_, ?_, ?_, ?_, ?_⟩
  · unfold Five
    intro t ht
    simp only [List.mem_cons, List.not_mem_nil, or_false] at ht
    rcases ht with rfl | rfl | rfl | rfl | rfl | rfl | rfl
    · exact h0
    · exact h1
    · exact h2
    · exact h3
    · exact h4
    · exact h5
    · exact h6
  · intro W' h; unfold Five at h; exact h (b0, g0, c0, R0) (by simp)
  · intro W' h; unfold Five at h; exact h (b1, g1, c1, R1) (by simp)
  · intro W' h; unfold Five at h; exact h (b2, g2, c2, R2) (by simp)
  · intro W' h; unfold Five at h; exact h (b3, g3, c3, R3) (by simp)
  · intro W' h; unfold Five at h; exact h (b4, g4, c4, R4) (by simp)
  · intro W' h; unfold Five at h; exact h (b5, g5, c5, R5) (by simp)
  · intro W' h; unfold Five at h; exact h (b6, g6, c6, R6) (by simp)
theorem Five.bel {w : World} {N K : Nat} {T : List (Nat × Option Addr × Nat × List Int)} {W : World} {b : Nat} {g : Option Addr} {c : Nat} {R : List Int} (h : Five w N K T W) (p : ∀ W', Five w N K T W' → MdS w W' b N K g c R) : Below w.heap.size w W := (p _ h).bel
theorem heap_step {W W' : World} {b : Nat} {o : Obj} (h : W.heap[b]? = some o) (hb : Below W.heap.size W W') : W'.heap[b]? = some o := (hb.block b (Array.getElem?_eq_some_iff.1 h).1).trans h
theorem cell_of {w : World} {b : Nat} {vs : Array Value} {t : TypeId} (h : w.heap[b]? = some (.cells vs t (0, 0))) (j : Nat) (v : Value) (hj : vs[j]? = some v) : w.cell? ⟨b, j, none⟩ = some v := by simp [World.cell?, h, hj]
theorem right_yes {W : World} {N K : Nat} {g : Option Addr} {c : Nat} {R : List Int} (h : SetIn W (N : Int) g K c R) (hR : RightS (N : Int) R) : Calls Tryd.prog 34 #[.agg #[.int .i64 (N : Int), .slice g K c]] W fun e w' => e = .returned (.bool true) ∧ Below W.heap.size W w' := by
  have q := right_any W (N : Int) g K c R h
  rw [rightB_yes hR] at q
  exact q
theorem rk_both {A B O I V : List Int} (ho : ∀ j, bt O j = (bt A j || bt B j)) (hi : ∀ j, bt I j = (bt A j && bt B j)) (hv : ∀ j, bt V j = (bt A j && !bt B j)) (i : Nat) : rk O i + rk I i = rk A i + rk B i ∧ rk V i + rk I i = rk A i := by
  induction i with
  | zero => simp [rk_zero]
  | succ i ih =>
    rw [rk_succ, rk_succ, rk_succ, rk_succ, rk_succ, ho, hi, hv]
    cases bt A i <;> cases bt B i <;> simp <;> omega
theorem all_both {A B O I V : List Int} {K : Nat} (ha : A.length = K) (hb : B.length = K) (hO : O.length = K) (hI : I.length = K) (hV : V.length = K) (ho : ∀ j, bt O j = (bt A j || bt B j)) (hi : ∀ j, bt I j = (bt A j && bt B j)) (hv : ∀ j, bt V j = (bt A j && !bt B j)) : (all O).length + (all I).length = (all A).length + (all B).length ∧ (all V).length + (all I).length = (all A).length := by
  have h := rk_both ho hi hv (64 * K)
  rw [rk_big (by omega), rk_big (by omega), rk_big (by omega), rk_big (by omega), rk_big (by omega)] at h
  exact h
theorem or_good {W : World} {N K : Nat} {g g2 : Option Addr} {c c2 : Nat} {R R2 : List Int} (h : SetIn W (N : Int) g K c R) (h2 : SetIn W (N : Int) g2 K c2 R2) (hR : RightS (N : Int) R) (hR2 : RightS (N : Int) R2) (hK : K = (N + 63) / 64) (hN : N ≤ 65536) :
    Calls Tryd.prog 30 #[.agg #[.int .i64 (N : Int), .slice g K c], .agg #[.int .i64 (N : Int), .slice g2 K c2]] W (GoodE W N K fun j => bt R j || bt R2 j) :=
  (orOk_any W N g g2 K c K c2 R R2 h h2 (rightB_yes hR) (rightB_yes hR2)).mono fun e w' hs => SetE.good h.tab hK hN (fun j hj => by rw [hR.out (by omega), hR2.out (by omega)]; rfl) hs
theorem and_good {W : World} {N K : Nat} {g g2 : Option Addr} {c c2 : Nat} {R R2 : List Int} (h : SetIn W (N : Int) g K c R) (h2 : SetIn W (N : Int) g2 K c2 R2) (hR : RightS (N : Int) R) (hR2 : RightS (N : Int) R2) (hK : K = (N + 63) / 64) (hN : N ≤ 65536) :
    Calls Tryd.prog 31 #[.agg #[.int .i64 (N : Int), .slice g K c], .agg #[.int .i64 (N : Int), .slice g2 K c2]] W (GoodE W N K fun j => bt R j && bt R2 j) :=
  (andOk_any W N g g2 K c K c2 R R2 h h2 (rightB_yes hR) (rightB_yes hR2)).mono fun e w' hs => SetE.good h.tab hK hN (fun j hj => by rw [hR.out (by omega)]; rfl) hs
theorem minus_good {W : World} {N K : Nat} {g g2 : Option Addr} {c c2 : Nat} {R R2 : List Int} (h : SetIn W (N : Int) g K c R) (h2 : SetIn W (N : Int) g2 K c2 R2) (hR : RightS (N : Int) R) (hR2 : RightS (N : Int) R2) (hK : K = (N + 63) / 64) (hN : N ≤ 65536) :
    Calls Tryd.prog 32 #[.agg #[.int .i64 (N : Int), .slice g K c], .agg #[.int .i64 (N : Int), .slice g2 K c2]] W (GoodE W N K fun j => bt R j && !bt R2 j) :=
  (minusOk_any W N g g2 K c K c2 R R2 h h2 (rightB_yes hR) (rightB_yes hR2)).mono fun e w' hs => SetE.good h.tab hK hN (fun j hj => by rw [hR.out (by omega)]; rfl) hs
theorem not_good {W : World} {N K : Nat} {g : Option Addr} {c : Nat} {R : List Int} (h : SetIn W (N : Int) g K c R) (hR : RightS (N : Int) R) (hK : K = (N + 63) / 64) (hN : N ≤ 65536) :
    Calls Tryd.prog 19 #[.agg #[.int .i64 (N : Int), .slice g K c]] W (GoodE W N K fun j => decide (j < N) && !bt R j) :=
  (notOk_any W N g K c R h (rightB_yes hR)).mono fun e w' hs => SetE.good h.tab hK hN (fun j hj => by rw [decide_eq_false (by omega)]; rfl) hs

set_option maxRecDepth 100000 in
set_option maxHeartbeats 8000000 in
theorem algebra_walk (w : World) (hT : Tbz w) (x : Int) (a : Option Addr) (len cap : Nat) (l : List Int) (a2 : Option Addr) (len2 cap2 : Nat) (l2 : List Int) (hx : (Lit.int .u16 x).wf = true) (hs : Sl .u64 w a len cap l) (hf : Fits .u64 l) (hs2 : Sl .u64 w a2 len2 cap2 l2) (hf2 : Fits .u64 l2) :
    Calls Tryd.prog 9 #[.int .u16 x, .slice a len cap, .slice a2 len2 cap2] w fun e w' => e = .returned (.bool true) ∧ Below w.heap.size w w' := by
  obtain ⟨hx0, hx1⟩ := bounds_u16 hx
  have hw := Wds.of_fits hf
  have hw2 := Wds.of_fits hf2
  obtain ⟨m, hm⟩ : ∃ m : Nat, m = min (min len len2) 16 := ⟨_, rfl⟩
  obtain ⟨N, hN⟩ : ∃ N : Nat, (N : Int) = x % (64 * (min m 16 : Nat) + 1) := ⟨(x % (64 * (min m 16 : Nat) + 1)).toNat, by rw [Int.toNat_of_nonneg (Int.emod_nonneg _ (by omega))]⟩
  have hNb : N ≤ 1024 := by
    have := Int.emod_lt_of_pos x (show (0 : Int) < 64 * ((min m 16 : Nat) : Int) + 1 by omega)
    omega
  have hc1 := hs.2.1
  have hc2 := hs2.2.1
  have em : (if (16 : Int) < (if len2 < len then (len2 : Int) else (len : Int)) then (16 : Int) else if len2 < len then (len2 : Int) else (len : Int)) = (m : Int) := by
    by_cases h1 : len2 < len
    · simp only [if_pos h1]
      split <;> omega
    · simp only [if_neg h1]
      split <;> omega
  have hmc : (m : Int) ≤ (cap : Int) := by omega
  have hmc2 : (m : Int) ≤ (cap2 : Int) := by omega
  have hmcn : m ≤ cap := by omega
  have hmcn2 : m ≤ cap2 := by omega
  have hm0 : (0 : Int) ≤ (m : Int) := by omega
  have hsT := hs.upto m (by omega)
  have hsT2 := hs2.upto m (by omega)
  have hwT : Wds (l.take m) := fun y hy => hw y (List.mem_of_mem_take hy)
  have hwT2 : Wds (l2.take m) := fun y hy => hw2 y (List.mem_of_mem_take hy)
  have HN := Lib.hid hN
  clear hx hf hf2 hs hs2 hm hN hw hw2 hc1 hc2
  go_enter Tryd.func9, Tryd.ntmps9
  go_wp2_with fail
  refine (awake_any w hT).mono ?_
  rintro e w1 ⟨rfl, hB1⟩
  obtain ⟨Kw, hK⟩ : ∃ q, q = (N + 63) / 64 := ⟨_, rfl⟩
  have HK := Lib.hid hK
  clear hK
  go_upto_region 4 with fail
  try simp only [em]
  clear em
  go_cut [8, 9] from 40 to 49 (fun P Q wx => ∃ (ab bb : Nat) (g : Option Addr) (c : Nat) (R : List Int) (g2 : Option Addr) (c2 : Nat) (R2 : List Int), P = .pointer (some ⟨ab, 0, none⟩) ∧ Q = .pointer (some ⟨bb, 0, none⟩) ∧ MdS w wx ab N Kw g c R ∧ MdS w wx bb N Kw g2 c2 R2 ∧ RightS (N : Int) R ∧ RightS (N : Int) R2)
  case first =>
    refine wp_region_noPanic ?_
    refine wp_region_held_drew (S := fun w' => Below w.heap.size w w') (by kernel_rfl) (hB1.drew) (fun hHeld => ?_)
    obtain ⟨x0, hx00⟩ : ∃ wz, wz = w1.drew := ⟨_, rfl⟩
    have hbx0 : Below w.heap.size w x0 := by rw [hx00]; exact hB1.drew
    have hB1bx0 := hbx0
    have hw0 := hbx0.size
    rw [← hx00] at hHeld ⊢
    clear hx00
    refine wpAnyH_take (i := 0) (oi := { dst := some 40, op := Go.Op.move (Go.Operand.tmp 0), type := 44, pos := "outright.go:94", after := #[], guard := none }) (v := ?v0x1) rfl (by kernel_rfl) (by kernel_rfl) (by kernel_rfl) (fun _ _ _ h => h) (Or.inl ⟨by rfl, ?hy0x1⟩) hHeld ?rest0x1
    case hy0x1 =>
      intro w hSw
      try dsimp only at hSw
      go_simp
      try with_reducible rfl
    try simp only [Act.put, List.setIfInBounds_toArray, List.set_cons_zero, List.set_cons_succ]
    refine wpAnyH_take (i := 1) (oi := { dst := some 41, op := Go.Op.move (Go.Operand.tmp 1), type := 22, pos := "outright.go:94", after := #[], guard := none }) (v := ?v1x2) rfl (by kernel_rfl) (by kernel_rfl) (by kernel_rfl) (fun _ _ _ h => h) (Or.inl ⟨by rfl, ?hy1x2⟩) hHeld ?rest1x2
    case hy1x2 =>
      intro w hSw
      try dsimp only at hSw
      go_simp
      try with_reducible rfl
    try simp only [Act.put, List.setIfInBounds_toArray, List.set_cons_zero, List.set_cons_succ]
    refine wpAnyH_take (i := 2) (oi := { dst := some 42, op := Go.Op.move (Go.Operand.tmp 7), type := 3, pos := "outright.go:94", after := #[], guard := none }) (v := ?v2x3) rfl (by kernel_rfl) (by kernel_rfl) (by kernel_rfl) (fun _ _ _ h => h) (Or.inl ⟨by rfl, ?hy2x3⟩) hHeld ?rest2x3
    case hy2x3 =>
      intro w hSw
      try dsimp only at hSw
      go_simp
      try with_reducible rfl
    try simp only [Act.put, List.setIfInBounds_toArray, List.set_cons_zero, List.set_cons_succ]
    refine wpAnyH_take (i := 3) (oi := { dst := some 43, op := Go.Op.slice 22 (Go.Operand.tmp 41) none (some (Go.Operand.tmp 42)) none, type := 22, pos := "outright.go:94", after := #[{ on := 1, ground := Go.Ground.data }, { on := 2, ground := Go.Ground.data }], guard := none }) (v := ?v3x4) rfl (by kernel_rfl) (by kernel_rfl) (by kernel_rfl) (fun _ _ _ h => h) (Or.inl ⟨by rfl, ?hy3x4⟩) hHeld ?rest3x4
    case hy3x4 =>
      intro w hSw
      try dsimp only at hSw
      go_simp
      try with_reducible rfl
    try simp only [Act.put, List.setIfInBounds_toArray, List.set_cons_zero, List.set_cons_succ]
    refine wpAnyH_take (i := 5) (oi := { dst := some 45, op := Go.Op.move (Go.Operand.tmp 0), type := 44, pos := "outright.go:94", after := #[], guard := none }) (v := ?v5x5) rfl (by kernel_rfl) (by kernel_rfl) (by kernel_rfl) (fun _ _ _ h => h) (Or.inl ⟨by rfl, ?hy5x5⟩) hHeld ?rest5x5
    case hy5x5 =>
      intro w hSw
      try dsimp only at hSw
      go_simp
      try with_reducible rfl
    try simp only [Act.put, List.setIfInBounds_toArray, List.set_cons_zero, List.set_cons_succ]
    refine wpAnyH_take (i := 6) (oi := { dst := some 46, op := Go.Op.move (Go.Operand.tmp 2), type := 22, pos := "outright.go:94", after := #[], guard := none }) (v := ?v6x6) rfl (by kernel_rfl) (by kernel_rfl) (by kernel_rfl) (fun _ _ _ h => h) (Or.inl ⟨by rfl, ?hy6x6⟩) hHeld ?rest6x6
    case hy6x6 =>
      intro w hSw
      try dsimp only at hSw
      go_simp
      try with_reducible rfl
    try simp only [Act.put, List.setIfInBounds_toArray, List.set_cons_zero, List.set_cons_succ]
    refine wpAnyH_take (i := 7) (oi := { dst := some 47, op := Go.Op.move (Go.Operand.tmp 7), type := 3, pos := "outright.go:94", after := #[], guard := none }) (v := ?v7x7) rfl (by kernel_rfl) (by kernel_rfl) (by kernel_rfl) (fun _ _ _ h => h) (Or.inl ⟨by rfl, ?hy7x7⟩) hHeld ?rest7x7
    case hy7x7 =>
      intro w hSw
      try dsimp only at hSw
      go_simp
      try with_reducible rfl
    try simp only [Act.put, List.setIfInBounds_toArray, List.set_cons_zero, List.set_cons_succ]
    refine wpAnyH_take (i := 8) (oi := { dst := some 48, op := Go.Op.slice 22 (Go.Operand.tmp 46) none (some (Go.Operand.tmp 47)) none, type := 22, pos := "outright.go:94", after := #[{ on := 6, ground := Go.Ground.data }, { on := 7, ground := Go.Ground.data }], guard := none }) (v := ?v8x8) rfl (by kernel_rfl) (by kernel_rfl) (by kernel_rfl) (fun _ _ _ h => h) (Or.inl ⟨by rfl, ?hy8x8⟩) hHeld ?rest8x8
    case hy8x8 =>
      intro w hSw
      try dsimp only at hSw
      go_simp
      try with_reducible rfl
    try simp only [Act.put, List.setIfInBounds_toArray, List.set_cons_zero, List.set_cons_succ]
    refine wpAnyH_ready (rs := [4, 10, 11]) (by kernel_rfl) (by simp) ?_
    refine AllReadyH.cons (o := { dst := some 44, op := Go.Op.call { callee := Go.Callee.value (Go.Operand.func 23), args := #[Go.Operand.tmp 40, Go.Operand.tmp 43], argTypes := #[44, 22] }, type := 24, pos := "outright.go:94", after := #[{ on := 0, ground := Go.Ground.data }, { on := 3, ground := Go.Ground.data }], guard := none }) rfl (fun K hK => ?_) (AllReadyH.cons (o := { dst := some 8, op := Go.Op.alloc 24, type := 0, pos := "outright.go:94", after := #[], guard := none }) rfl (fun K hK => ?_) (AllReadyH.cons (o := { dst := some 9, op := Go.Op.alloc 24, type := 0, pos := "outright.go:94", after := #[], guard := none }) rfl (fun K hK => ?_) AllReadyH.nil))
    · go_simp
      refine (made_any x0 x a m cap (l.take m) (hsT.below (hB1bx0)) hwT hx0 (by omega) N HN.out).mono ?_
      unfold MadeS
      rw [← HK.out]
      rintro e x1 ⟨g4, c4, R4, rfl, ho4x1, hWd4, hR4, hDx1⟩
      have hbx1 := bstep hbx0 hDx1
      have hzx1 := hDx1.size
      have hB1bx1 := hbx1
      have hq4 := fun q e => own_blk ho4x1 (k := q) e
      go_wp2_with fail
      refine hK.out _ _ (hbx1) (fun hHeld => ?_)
      clear hK K
      try simp only [Act.put, List.setIfInBounds_toArray, List.set_cons_zero, List.set_cons_succ]
      refine wpAnyH_ready (rs := [9, 10, 11]) (by kernel_rfl) (by simp) ?_
      refine AllReadyH.cons (o := { dst := some 49, op := Go.Op.call { callee := Go.Callee.value (Go.Operand.func 23), args := #[Go.Operand.tmp 45, Go.Operand.tmp 48], argTypes := #[44, 22] }, type := 24, pos := "outright.go:94", after := #[{ on := 5, ground := Go.Ground.data }, { on := 8, ground := Go.Ground.data }, { on := 4, ground := Go.Ground.chain }], guard := none }) rfl (fun K hK => ?_) (AllReadyH.cons (o := { dst := some 8, op := Go.Op.alloc 24, type := 0, pos := "outright.go:94", after := #[], guard := none }) rfl (fun K hK => ?_) (AllReadyH.cons (o := { dst := some 9, op := Go.Op.alloc 24, type := 0, pos := "outright.go:94", after := #[], guard := none }) rfl (fun K hK => ?_) AllReadyH.nil))
      · go_simp
        refine (made_any x1 x a2 m cap2 (l2.take m) (hsT2.below (hB1bx1)) hwT2 hx0 (by omega) N HN.out).mono ?_
        unfold MadeS
        rw [← HK.out]
        rintro e x2 ⟨g9, c9, R9, rfl, ho9x2, hWd9, hR9, hDx2⟩
        have hbx2 := bstep hbx1 hDx2
        have hzx2 := hDx2.size
        have ho4x2 := ownsRow_below ho4x1 hDx2
        have hB1bx2 := hbx2
        have hq9 := fun q e => own_blk ho9x2 (k := q) e
        go_wp2_with fail
        refine hK.out _ _ (hbx2) (fun hHeld => ?_)
        clear hK K
        try simp only [Act.put, List.setIfInBounds_toArray, List.set_cons_zero, List.set_cons_succ]
        refine wpAnyH_ready (rs := [10, 11]) (by kernel_rfl) (by simp) ?_
        refine AllReadyH.cons (o := { dst := some 8, op := Go.Op.alloc 24, type := 0, pos := "outright.go:94", after := #[], guard := none }) rfl (fun K hK => ?_) (AllReadyH.cons (o := { dst := some 9, op := Go.Op.alloc 24, type := 0, pos := "outright.go:94", after := #[], guard := none }) rfl (fun K hK => ?_) AllReadyH.nil)
        · obtain ⟨x3, hwx3⟩ : ∃ wz, wz = x2.alloc (.cells #[.int .i64 0, .slice none 0 0] 24) := ⟨_, rfl⟩
          have hDx3 : Below x2.heap.size x2 x3 := by rw [hwx3]; exact (Below.refl _ _).alloc (Nat.le_refl _) _
          have ht10x3 : Two x3 x2.heap.size 24 (.int .i64 0) (.slice none 0 0) := by rw [hwx3]; exact Two.new _ _ _ _
          have hbx3 := bstep hbx2 hDx3
          have hzx3 := hDx3.size
          have ho4x3 := ownsRow_below ho4x2 hDx3
          have ho9x3 := ownsRow_below ho9x2 hDx3
          have hB1bx3 := hbx3
          have hk10 := ht10x3.lt
          go_simp
          rw [← hwx3]
          clear hwx3
          refine hK.out _ _ (hbx3) (fun hHeld => ?_)
          clear hK K
          try simp only [Act.put, List.setIfInBounds_toArray, List.set_cons_zero, List.set_cons_succ]
          refine wpAnyH_ready (rs := [11]) (by kernel_rfl) (by simp) ?_
          refine AllReadyH.cons (o := { dst := some 9, op := Go.Op.alloc 24, type := 0, pos := "outright.go:94", after := #[], guard := none }) rfl (fun K hK => ?_) AllReadyH.nil
          · obtain ⟨x4, hwx4⟩ : ∃ wz, wz = x3.alloc (.cells #[.int .i64 0, .slice none 0 0] 24) := ⟨_, rfl⟩
            have hDx4 : Below x3.heap.size x3 x4 := by rw [hwx4]; exact (Below.refl _ _).alloc (Nat.le_refl _) _
            have ht11x4 : Two x4 x3.heap.size 24 (.int .i64 0) (.slice none 0 0) := by rw [hwx4]; exact Two.new _ _ _ _
            have hbx4 := bstep hbx3 hDx4
            have hzx4 := hDx4.size
            have ho4x4 := ownsRow_below ho4x3 hDx4
            have ho9x4 := ownsRow_below ho9x3 hDx4
            have ht10x4 := ht10x3.step hDx4
            have hB1bx4 := hbx4
            have hk11 := ht11x4.lt
            go_simp
            rw [← hwx4]
            clear hwx4
            refine hK.out _ _ (hbx4) (fun hHeld => ?_)
            clear hK K
            try simp only [Act.put, List.setIfInBounds_toArray, List.set_cons_zero, List.set_cons_succ]
            refine wpAnyH_ready (rs := [12]) (by kernel_rfl) (by simp) ?_
            refine AllReadyH.cons (o := { dst := none, op := Go.Op.store 24 (Go.Operand.tmp 8) (Go.Operand.tmp 44), type := 0, pos := "outright.go:94", after := #[{ on := 10, ground := Go.Ground.data }, { on := 4, ground := Go.Ground.data }, { on := 9, ground := Go.Ground.chain }, { on := 0, ground := Go.Ground.phase }, { on := 1, ground := Go.Ground.phase }, { on := 2, ground := Go.Ground.phase }, { on := 3, ground := Go.Ground.phase }, { on := 4, ground := Go.Ground.phase }, { on := 5, ground := Go.Ground.textOnly Go.Departure.lateStores }, { on := 6, ground := Go.Ground.textOnly Go.Departure.lateStores }, { on := 7, ground := Go.Ground.textOnly Go.Departure.lateStores }, { on := 8, ground := Go.Ground.textOnly Go.Departure.lateStoresUnsure }, { on := 9, ground := Go.Ground.textOnly Go.Departure.lateStoresUnsure }, { on := 10, ground := Go.Ground.phase }, { on := 11, ground := Go.Ground.phase }], guard := none }) rfl (fun K hK => ?_) AllReadyH.nil
            · have q0 := ht10x4.c0
              have q1 := ht10x4.c1
              have q2 := ht10x4.f0
              have q3 := ht10x4.f1
              obtain ⟨x5, hwx5⟩ : ∃ wz, wz = ((x4.setCell ⟨x2.heap.size, 0, none⟩ (.int .i64 (N : Int))).setCell ⟨x2.heap.size, 1, none⟩ (.slice g4 Kw c4)) := ⟨_, rfl⟩
              have hbx5 : Below w.heap.size w x5 := by rw [hwx5]; exact (hbx4.setCell (p := ⟨x2.heap.size, 0, none⟩) (by show w.heap.size ≤ x2.heap.size; omega) _).setCell (p := ⟨x2.heap.size, 1, none⟩) (by show w.heap.size ≤ x2.heap.size; omega) _
              have ht10x5 : Two x5 x2.heap.size 24 (.int .i64 (N : Int)) (.slice g4 Kw c4) := by rw [hwx5]; exact put1 (put0 ht10x4 _) _
              have ht11x5 : Two x5 x3.heap.size 24 (.int .i64 0) (.slice none 0 0) := by rw [hwx5]; exact two_set (two_set ht11x4 (by omega) _ _) (by omega) _ _
              have ho4x5 : x5.ownsRow x0.heap.size 30 1 (.slice g4 Kw c4) Kw (R4.map (Value.int .u64)) := by rw [hwx5]; exact own_ne (own_ne ho4x4 (fun q e => by have := hq4 q e; omega) _ _) (fun q e => by have := hq4 q e; omega) _ _
              have ho9x5 : x5.ownsRow x1.heap.size 30 1 (.slice g9 Kw c9) Kw (R9.map (Value.int .u64)) := by rw [hwx5]; exact own_ne (own_ne ho9x4 (fun q e => by have := hq9 q e; omega) _ _) (fun q e => by have := hq9 q e; omega) _ _
              go_simp
              rw [← hwx5]
              clear hwx5 q0 q1 q2 q3
              refine hK.out _ _ (hbx5) (fun hHeld => ?_)
              clear hK K
              try simp only [Act.put, List.setIfInBounds_toArray, List.set_cons_zero, List.set_cons_succ]
              refine wpAnyH_ready (rs := [13]) (by kernel_rfl) (by simp) ?_
              refine AllReadyH.cons (o := { dst := none, op := Go.Op.store 24 (Go.Operand.tmp 9) (Go.Operand.tmp 49), type := 0, pos := "outright.go:94", after := #[{ on := 11, ground := Go.Ground.data }, { on := 9, ground := Go.Ground.data }, { on := 12, ground := Go.Ground.chain }, { on := 0, ground := Go.Ground.phase }, { on := 1, ground := Go.Ground.phase }, { on := 2, ground := Go.Ground.phase }, { on := 3, ground := Go.Ground.phase }, { on := 4, ground := Go.Ground.phase }, { on := 5, ground := Go.Ground.phase }, { on := 6, ground := Go.Ground.phase }, { on := 7, ground := Go.Ground.phase }, { on := 8, ground := Go.Ground.phase }, { on := 9, ground := Go.Ground.phase }, { on := 10, ground := Go.Ground.phase }, { on := 11, ground := Go.Ground.phase }, { on := 12, ground := Go.Ground.phase }], guard := none }) rfl (fun K hK => ?_) AllReadyH.nil
              · have q0 := ht11x5.c0
                have q1 := ht11x5.c1
                have q2 := ht11x5.f0
                have q3 := ht11x5.f1
                obtain ⟨x6, hwx6⟩ : ∃ wz, wz = ((x5.setCell ⟨x3.heap.size, 0, none⟩ (.int .i64 (N : Int))).setCell ⟨x3.heap.size, 1, none⟩ (.slice g9 Kw c9)) := ⟨_, rfl⟩
                have hbx6 : Below w.heap.size w x6 := by rw [hwx6]; exact (hbx5.setCell (p := ⟨x3.heap.size, 0, none⟩) (by show w.heap.size ≤ x3.heap.size; omega) _).setCell (p := ⟨x3.heap.size, 1, none⟩) (by show w.heap.size ≤ x3.heap.size; omega) _
                have ht11x6 : Two x6 x3.heap.size 24 (.int .i64 (N : Int)) (.slice g9 Kw c9) := by rw [hwx6]; exact put1 (put0 ht11x5 _) _
                have ht10x6 : Two x6 x2.heap.size 24 (.int .i64 (N : Int)) (.slice g4 Kw c4) := by rw [hwx6]; exact two_set (two_set ht10x5 (by omega) _ _) (by omega) _ _
                have ho4x6 : x6.ownsRow x0.heap.size 30 1 (.slice g4 Kw c4) Kw (R4.map (Value.int .u64)) := by rw [hwx6]; exact own_ne (own_ne ho4x5 (fun q e => by have := hq4 q e; omega) _ _) (fun q e => by have := hq4 q e; omega) _ _
                have ho9x6 : x6.ownsRow x1.heap.size 30 1 (.slice g9 Kw c9) Kw (R9.map (Value.int .u64)) := by rw [hwx6]; exact own_ne (own_ne ho9x5 (fun q e => by have := hq9 q e; omega) _ _) (fun q e => by have := hq9 q e; omega) _ _
                go_simp
                rw [← hwx6]
                clear hwx6 q0 q1 q2 q3
                refine hK.out _ _ (hbx6) (fun hHeld => ?_)
                clear hK K
                try simp only [Act.put, List.setIfInBounds_toArray, List.set_cons_zero, List.set_cons_succ]
                refine wpAnyH_done (by kernel_rfl) ?_ _
                refine NoPanic.normal ?_
                have hTb := hT.step hbx6
                go_wp2_with fail
                go_meet
                case rel => exact ⟨_, _, g4, c4, R4, g9, c9, R9, rfl, rfl, ⟨hbx6, ⟨own_sl ho4x6, hWd4, by omega, by omega, hTb⟩, ht10x6⟩, ⟨hbx6, ⟨own_sl ho9x6, hWd9, by omega, by omega, hTb⟩, ht11x6⟩, hR4, hR9⟩
        · obtain ⟨x7, hwx7⟩ : ∃ wz, wz = x2.alloc (.cells #[.int .i64 0, .slice none 0 0] 24) := ⟨_, rfl⟩
          have hDx7 : Below x2.heap.size x2 x7 := by rw [hwx7]; exact (Below.refl _ _).alloc (Nat.le_refl _) _
          have ht11x7 : Two x7 x2.heap.size 24 (.int .i64 0) (.slice none 0 0) := by rw [hwx7]; exact Two.new _ _ _ _
          have hbx7 := bstep hbx2 hDx7
          have hzx7 := hDx7.size
          have ho4x7 := ownsRow_below ho4x2 hDx7
          have ho9x7 := ownsRow_below ho9x2 hDx7
          have hB1bx7 := hbx7
          have hk11 := ht11x7.lt
          go_simp
          rw [← hwx7]
          clear hwx7
          refine hK.out _ _ (hbx7) (fun hHeld => ?_)
          clear hK K
          try simp only [Act.put, List.setIfInBounds_toArray, List.set_cons_zero, List.set_cons_succ]
          refine wpAnyH_ready (rs := [10]) (by kernel_rfl) (by simp) ?_
          refine AllReadyH.cons (o := { dst := some 8, op := Go.Op.alloc 24, type := 0, pos := "outright.go:94", after := #[], guard := none }) rfl (fun K hK => ?_) AllReadyH.nil
          · obtain ⟨x8, hwx8⟩ : ∃ wz, wz = x7.alloc (.cells #[.int .i64 0, .slice none 0 0] 24) := ⟨_, rfl⟩
            have hDx8 : Below x7.heap.size x7 x8 := by rw [hwx8]; exact (Below.refl _ _).alloc (Nat.le_refl _) _
            have ht10x8 : Two x8 x7.heap.size 24 (.int .i64 0) (.slice none 0 0) := by rw [hwx8]; exact Two.new _ _ _ _
            have hbx8 := bstep hbx7 hDx8
            have hzx8 := hDx8.size
            have ho4x8 := ownsRow_below ho4x7 hDx8
            have ho9x8 := ownsRow_below ho9x7 hDx8
            have ht11x8 := ht11x7.step hDx8
            have hB1bx8 := hbx8
            have hk10 := ht10x8.lt
            go_simp
            rw [← hwx8]
            clear hwx8
            refine hK.out _ _ (hbx8) (fun hHeld => ?_)
            clear hK K
            try simp only [Act.put, List.setIfInBounds_toArray, List.set_cons_zero, List.set_cons_succ]
            refine wpAnyH_ready (rs := [12]) (by kernel_rfl) (by simp) ?_
            refine AllReadyH.cons (o := { dst := none, op := Go.Op.store 24 (Go.Operand.tmp 8) (Go.Operand.tmp 44), type := 0, pos := "outright.go:94", after := #[{ on := 10, ground := Go.Ground.data }, { on := 4, ground := Go.Ground.data }, { on := 9, ground := Go.Ground.chain }, { on := 0, ground := Go.Ground.phase }, { on := 1, ground := Go.Ground.phase }, { on := 2, ground := Go.Ground.phase }, { on := 3, ground := Go.Ground.phase }, { on := 4, ground := Go.Ground.phase }, { on := 5, ground := Go.Ground.textOnly Go.Departure.lateStores }, { on := 6, ground := Go.Ground.textOnly Go.Departure.lateStores }, { on := 7, ground := Go.Ground.textOnly Go.Departure.lateStores }, { on := 8, ground := Go.Ground.textOnly Go.Departure.lateStoresUnsure }, { on := 9, ground := Go.Ground.textOnly Go.Departure.lateStoresUnsure }, { on := 10, ground := Go.Ground.phase }, { on := 11, ground := Go.Ground.phase }], guard := none }) rfl (fun K hK => ?_) AllReadyH.nil
            · have q0 := ht10x8.c0
              have q1 := ht10x8.c1
              have q2 := ht10x8.f0
              have q3 := ht10x8.f1
              obtain ⟨x9, hwx9⟩ : ∃ wz, wz = ((x8.setCell ⟨x7.heap.size, 0, none⟩ (.int .i64 (N : Int))).setCell ⟨x7.heap.size, 1, none⟩ (.slice g4 Kw c4)) := ⟨_, rfl⟩
              have hbx9 : Below w.heap.size w x9 := by rw [hwx9]; exact (hbx8.setCell (p := ⟨x7.heap.size, 0, none⟩) (by show w.heap.size ≤ x7.heap.size; omega) _).setCell (p := ⟨x7.heap.size, 1, none⟩) (by show w.heap.size ≤ x7.heap.size; omega) _
              have ht10x9 : Two x9 x7.heap.size 24 (.int .i64 (N : Int)) (.slice g4 Kw c4) := by rw [hwx9]; exact put1 (put0 ht10x8 _) _
              have ht11x9 : Two x9 x2.heap.size 24 (.int .i64 0) (.slice none 0 0) := by rw [hwx9]; exact two_set (two_set ht11x8 (by omega) _ _) (by omega) _ _
              have ho4x9 : x9.ownsRow x0.heap.size 30 1 (.slice g4 Kw c4) Kw (R4.map (Value.int .u64)) := by rw [hwx9]; exact own_ne (own_ne ho4x8 (fun q e => by have := hq4 q e; omega) _ _) (fun q e => by have := hq4 q e; omega) _ _
              have ho9x9 : x9.ownsRow x1.heap.size 30 1 (.slice g9 Kw c9) Kw (R9.map (Value.int .u64)) := by rw [hwx9]; exact own_ne (own_ne ho9x8 (fun q e => by have := hq9 q e; omega) _ _) (fun q e => by have := hq9 q e; omega) _ _
              go_simp
              rw [← hwx9]
              clear hwx9 q0 q1 q2 q3
              refine hK.out _ _ (hbx9) (fun hHeld => ?_)
              clear hK K
              try simp only [Act.put, List.setIfInBounds_toArray, List.set_cons_zero, List.set_cons_succ]
              refine wpAnyH_ready (rs := [13]) (by kernel_rfl) (by simp) ?_
              refine AllReadyH.cons (o := { dst := none, op := Go.Op.store 24 (Go.Operand.tmp 9) (Go.Operand.tmp 49), type := 0, pos := "outright.go:94", after := #[{ on := 11, ground := Go.Ground.data }, { on := 9, ground := Go.Ground.data }, { on := 12, ground := Go.Ground.chain }, { on := 0, ground := Go.Ground.phase }, { on := 1, ground := Go.Ground.phase }, { on := 2, ground := Go.Ground.phase }, { on := 3, ground := Go.Ground.phase }, { on := 4, ground := Go.Ground.phase }, { on := 5, ground := Go.Ground.phase }, { on := 6, ground := Go.Ground.phase }, { on := 7, ground := Go.Ground.phase }, { on := 8, ground := Go.Ground.phase }, { on := 9, ground := Go.Ground.phase }, { on := 10, ground := Go.Ground.phase }, { on := 11, ground := Go.Ground.phase }, { on := 12, ground := Go.Ground.phase }], guard := none }) rfl (fun K hK => ?_) AllReadyH.nil
              · have q0 := ht11x9.c0
                have q1 := ht11x9.c1
                have q2 := ht11x9.f0
                have q3 := ht11x9.f1
                obtain ⟨x10, hwx10⟩ : ∃ wz, wz = ((x9.setCell ⟨x2.heap.size, 0, none⟩ (.int .i64 (N : Int))).setCell ⟨x2.heap.size, 1, none⟩ (.slice g9 Kw c9)) := ⟨_, rfl⟩
                have hbx10 : Below w.heap.size w x10 := by rw [hwx10]; exact (hbx9.setCell (p := ⟨x2.heap.size, 0, none⟩) (by show w.heap.size ≤ x2.heap.size; omega) _).setCell (p := ⟨x2.heap.size, 1, none⟩) (by show w.heap.size ≤ x2.heap.size; omega) _
                have ht11x10 : Two x10 x2.heap.size 24 (.int .i64 (N : Int)) (.slice g9 Kw c9) := by rw [hwx10]; exact put1 (put0 ht11x9 _) _
                have ht10x10 : Two x10 x7.heap.size 24 (.int .i64 (N : Int)) (.slice g4 Kw c4) := by rw [hwx10]; exact two_set (two_set ht10x9 (by omega) _ _) (by omega) _ _
                have ho4x10 : x10.ownsRow x0.heap.size 30 1 (.slice g4 Kw c4) Kw (R4.map (Value.int .u64)) := by rw [hwx10]; exact own_ne (own_ne ho4x9 (fun q e => by have := hq4 q e; omega) _ _) (fun q e => by have := hq4 q e; omega) _ _
                have ho9x10 : x10.ownsRow x1.heap.size 30 1 (.slice g9 Kw c9) Kw (R9.map (Value.int .u64)) := by rw [hwx10]; exact own_ne (own_ne ho9x9 (fun q e => by have := hq9 q e; omega) _ _) (fun q e => by have := hq9 q e; omega) _ _
                go_simp
                rw [← hwx10]
                clear hwx10 q0 q1 q2 q3
                refine hK.out _ _ (hbx10) (fun hHeld => ?_)
                clear hK K
                try simp only [Act.put, List.setIfInBounds_toArray, List.set_cons_zero, List.set_cons_succ]
                refine wpAnyH_done (by kernel_rfl) ?_ _
                refine NoPanic.normal ?_
                have hTb := hT.step hbx10
                go_wp2_with fail
                go_meet
                case rel => exact ⟨_, _, g4, c4, R4, g9, c9, R9, rfl, rfl, ⟨hbx10, ⟨own_sl ho4x10, hWd4, by omega, by omega, hTb⟩, ht10x10⟩, ⟨hbx10, ⟨own_sl ho9x10, hWd9, by omega, by omega, hTb⟩, ht11x10⟩, hR4, hR9⟩
      · obtain ⟨x11, hwx11⟩ : ∃ wz, wz = x1.alloc (.cells #[.int .i64 0, .slice none 0 0] 24) := ⟨_, rfl⟩
        have hDx11 : Below x1.heap.size x1 x11 := by rw [hwx11]; exact (Below.refl _ _).alloc (Nat.le_refl _) _
        have ht10x11 : Two x11 x1.heap.size 24 (.int .i64 0) (.slice none 0 0) := by rw [hwx11]; exact Two.new _ _ _ _
        have hbx11 := bstep hbx1 hDx11
        have hzx11 := hDx11.size
        have ho4x11 := ownsRow_below ho4x1 hDx11
        have hB1bx11 := hbx11
        have hk10 := ht10x11.lt
        go_simp
        rw [← hwx11]
        clear hwx11
        refine hK.out _ _ (hbx11) (fun hHeld => ?_)
        clear hK K
        try simp only [Act.put, List.setIfInBounds_toArray, List.set_cons_zero, List.set_cons_succ]
        refine wpAnyH_ready (rs := [9, 11]) (by kernel_rfl) (by simp) ?_
        refine AllReadyH.cons (o := { dst := some 49, op := Go.Op.call { callee := Go.Callee.value (Go.Operand.func 23), args := #[Go.Operand.tmp 45, Go.Operand.tmp 48], argTypes := #[44, 22] }, type := 24, pos := "outright.go:94", after := #[{ on := 5, ground := Go.Ground.data }, { on := 8, ground := Go.Ground.data }, { on := 4, ground := Go.Ground.chain }], guard := none }) rfl (fun K hK => ?_) (AllReadyH.cons (o := { dst := some 9, op := Go.Op.alloc 24, type := 0, pos := "outright.go:94", after := #[], guard := none }) rfl (fun K hK => ?_) AllReadyH.nil)
        · go_simp
          refine (made_any x11 x a2 m cap2 (l2.take m) (hsT2.below (hB1bx11)) hwT2 hx0 (by omega) N HN.out).mono ?_
          unfold MadeS
          rw [← HK.out]
          rintro e x12 ⟨g9, c9, R9, rfl, ho9x12, hWd9, hR9, hDx12⟩
          have hbx12 := bstep hbx11 hDx12
          have hzx12 := hDx12.size
          have ho4x12 := ownsRow_below ho4x11 hDx12
          have ht10x12 := ht10x11.step hDx12
          have hB1bx12 := hbx12
          have hq9 := fun q e => own_blk ho9x12 (k := q) e
          go_wp2_with fail
          refine hK.out _ _ (hbx12) (fun hHeld => ?_)
          clear hK K
          try simp only [Act.put, List.setIfInBounds_toArray, List.set_cons_zero, List.set_cons_succ]
          refine wpAnyH_ready (rs := [11]) (by kernel_rfl) (by simp) ?_
          refine AllReadyH.cons (o := { dst := some 9, op := Go.Op.alloc 24, type := 0, pos := "outright.go:94", after := #[], guard := none }) rfl (fun K hK => ?_) AllReadyH.nil
          · obtain ⟨x13, hwx13⟩ : ∃ wz, wz = x12.alloc (.cells #[.int .i64 0, .slice none 0 0] 24) := ⟨_, rfl⟩
            have hDx13 : Below x12.heap.size x12 x13 := by rw [hwx13]; exact (Below.refl _ _).alloc (Nat.le_refl _) _
            have ht11x13 : Two x13 x12.heap.size 24 (.int .i64 0) (.slice none 0 0) := by rw [hwx13]; exact Two.new _ _ _ _
            have hbx13 := bstep hbx12 hDx13
            have hzx13 := hDx13.size
            have ho4x13 := ownsRow_below ho4x12 hDx13
            have ho9x13 := ownsRow_below ho9x12 hDx13
            have ht10x13 := ht10x12.step hDx13
            have hB1bx13 := hbx13
            have hk11 := ht11x13.lt
            go_simp
            rw [← hwx13]
            clear hwx13
            refine hK.out _ _ (hbx13) (fun hHeld => ?_)
            clear hK K
            try simp only [Act.put, List.setIfInBounds_toArray, List.set_cons_zero, List.set_cons_succ]
            refine wpAnyH_ready (rs := [12]) (by kernel_rfl) (by simp) ?_
            refine AllReadyH.cons (o := { dst := none, op := Go.Op.store 24 (Go.Operand.tmp 8) (Go.Operand.tmp 44), type := 0, pos := "outright.go:94", after := #[{ on := 10, ground := Go.Ground.data }, { on := 4, ground := Go.Ground.data }, { on := 9, ground := Go.Ground.chain }, { on := 0, ground := Go.Ground.phase }, { on := 1, ground := Go.Ground.phase }, { on := 2, ground := Go.Ground.phase }, { on := 3, ground := Go.Ground.phase }, { on := 4, ground := Go.Ground.phase }, { on := 5, ground := Go.Ground.textOnly Go.Departure.lateStores }, { on := 6, ground := Go.Ground.textOnly Go.Departure.lateStores }, { on := 7, ground := Go.Ground.textOnly Go.Departure.lateStores }, { on := 8, ground := Go.Ground.textOnly Go.Departure.lateStoresUnsure }, { on := 9, ground := Go.Ground.textOnly Go.Departure.lateStoresUnsure }, { on := 10, ground := Go.Ground.phase }, { on := 11, ground := Go.Ground.phase }], guard := none }) rfl (fun K hK => ?_) AllReadyH.nil
            · have q0 := ht10x13.c0
              have q1 := ht10x13.c1
              have q2 := ht10x13.f0
              have q3 := ht10x13.f1
              obtain ⟨x14, hwx14⟩ : ∃ wz, wz = ((x13.setCell ⟨x1.heap.size, 0, none⟩ (.int .i64 (N : Int))).setCell ⟨x1.heap.size, 1, none⟩ (.slice g4 Kw c4)) := ⟨_, rfl⟩
              have hbx14 : Below w.heap.size w x14 := by rw [hwx14]; exact (hbx13.setCell (p := ⟨x1.heap.size, 0, none⟩) (by show w.heap.size ≤ x1.heap.size; omega) _).setCell (p := ⟨x1.heap.size, 1, none⟩) (by show w.heap.size ≤ x1.heap.size; omega) _
              have ht10x14 : Two x14 x1.heap.size 24 (.int .i64 (N : Int)) (.slice g4 Kw c4) := by rw [hwx14]; exact put1 (put0 ht10x13 _) _
              have ht11x14 : Two x14 x12.heap.size 24 (.int .i64 0) (.slice none 0 0) := by rw [hwx14]; exact two_set (two_set ht11x13 (by omega) _ _) (by omega) _ _
              have ho4x14 : x14.ownsRow x0.heap.size 30 1 (.slice g4 Kw c4) Kw (R4.map (Value.int .u64)) := by rw [hwx14]; exact own_ne (own_ne ho4x13 (fun q e => by have := hq4 q e; omega) _ _) (fun q e => by have := hq4 q e; omega) _ _
              have ho9x14 : x14.ownsRow x11.heap.size 30 1 (.slice g9 Kw c9) Kw (R9.map (Value.int .u64)) := by rw [hwx14]; exact own_ne (own_ne ho9x13 (fun q e => by have := hq9 q e; omega) _ _) (fun q e => by have := hq9 q e; omega) _ _
              go_simp
              rw [← hwx14]
              clear hwx14 q0 q1 q2 q3
              refine hK.out _ _ (hbx14) (fun hHeld => ?_)
              clear hK K
              try simp only [Act.put, List.setIfInBounds_toArray, List.set_cons_zero, List.set_cons_succ]
              refine wpAnyH_ready (rs := [13]) (by kernel_rfl) (by simp) ?_
              refine AllReadyH.cons (o := { dst := none, op := Go.Op.store 24 (Go.Operand.tmp 9) (Go.Operand.tmp 49), type := 0, pos := "outright.go:94", after := #[{ on := 11, ground := Go.Ground.data }, { on := 9, ground := Go.Ground.data }, { on := 12, ground := Go.Ground.chain }, { on := 0, ground := Go.Ground.phase }, { on := 1, ground := Go.Ground.phase }, { on := 2, ground := Go.Ground.phase }, { on := 3, ground := Go.Ground.phase }, { on := 4, ground := Go.Ground.phase }, { on := 5, ground := Go.Ground.phase }, { on := 6, ground := Go.Ground.phase }, { on := 7, ground := Go.Ground.phase }, { on := 8, ground := Go.Ground.phase }, { on := 9, ground := Go.Ground.phase }, { on := 10, ground := Go.Ground.phase }, { on := 11, ground := Go.Ground.phase }, { on := 12, ground := Go.Ground.phase }], guard := none }) rfl (fun K hK => ?_) AllReadyH.nil
              · have q0 := ht11x14.c0
                have q1 := ht11x14.c1
                have q2 := ht11x14.f0
                have q3 := ht11x14.f1
                obtain ⟨x15, hwx15⟩ : ∃ wz, wz = ((x14.setCell ⟨x12.heap.size, 0, none⟩ (.int .i64 (N : Int))).setCell ⟨x12.heap.size, 1, none⟩ (.slice g9 Kw c9)) := ⟨_, rfl⟩
                have hbx15 : Below w.heap.size w x15 := by rw [hwx15]; exact (hbx14.setCell (p := ⟨x12.heap.size, 0, none⟩) (by show w.heap.size ≤ x12.heap.size; omega) _).setCell (p := ⟨x12.heap.size, 1, none⟩) (by show w.heap.size ≤ x12.heap.size; omega) _
                have ht11x15 : Two x15 x12.heap.size 24 (.int .i64 (N : Int)) (.slice g9 Kw c9) := by rw [hwx15]; exact put1 (put0 ht11x14 _) _
                have ht10x15 : Two x15 x1.heap.size 24 (.int .i64 (N : Int)) (.slice g4 Kw c4) := by rw [hwx15]; exact two_set (two_set ht10x14 (by omega) _ _) (by omega) _ _
                have ho4x15 : x15.ownsRow x0.heap.size 30 1 (.slice g4 Kw c4) Kw (R4.map (Value.int .u64)) := by rw [hwx15]; exact own_ne (own_ne ho4x14 (fun q e => by have := hq4 q e; omega) _ _) (fun q e => by have := hq4 q e; omega) _ _
                have ho9x15 : x15.ownsRow x11.heap.size 30 1 (.slice g9 Kw c9) Kw (R9.map (Value.int .u64)) := by rw [hwx15]; exact own_ne (own_ne ho9x14 (fun q e => by have := hq9 q e; omega) _ _) (fun q e => by have := hq9 q e; omega) _ _
                go_simp
                rw [← hwx15]
                clear hwx15 q0 q1 q2 q3
                refine hK.out _ _ (hbx15) (fun hHeld => ?_)
                clear hK K
                try simp only [Act.put, List.setIfInBounds_toArray, List.set_cons_zero, List.set_cons_succ]
                refine wpAnyH_done (by kernel_rfl) ?_ _
                refine NoPanic.normal ?_
                have hTb := hT.step hbx15
                go_wp2_with fail
                go_meet
                case rel => exact ⟨_, _, g4, c4, R4, g9, c9, R9, rfl, rfl, ⟨hbx15, ⟨own_sl ho4x15, hWd4, by omega, by omega, hTb⟩, ht10x15⟩, ⟨hbx15, ⟨own_sl ho9x15, hWd9, by omega, by omega, hTb⟩, ht11x15⟩, hR4, hR9⟩
        · obtain ⟨x16, hwx16⟩ : ∃ wz, wz = x11.alloc (.cells #[.int .i64 0, .slice none 0 0] 24) := ⟨_, rfl⟩
          have hDx16 : Below x11.heap.size x11 x16 := by rw [hwx16]; exact (Below.refl _ _).alloc (Nat.le_refl _) _
          have ht11x16 : Two x16 x11.heap.size 24 (.int .i64 0) (.slice none 0 0) := by rw [hwx16]; exact Two.new _ _ _ _
          have hbx16 := bstep hbx11 hDx16
          have hzx16 := hDx16.size
          have ho4x16 := ownsRow_below ho4x11 hDx16
          have ht10x16 := ht10x11.step hDx16
          have hB1bx16 := hbx16
          have hk11 := ht11x16.lt
          go_simp
          rw [← hwx16]
          clear hwx16
          refine hK.out _ _ (hbx16) (fun hHeld => ?_)
          clear hK K
          try simp only [Act.put, List.setIfInBounds_toArray, List.set_cons_zero, List.set_cons_succ]
          refine wpAnyH_ready (rs := [9]) (by kernel_rfl) (by simp) ?_
          refine AllReadyH.cons (o := { dst := some 49, op := Go.Op.call { callee := Go.Callee.value (Go.Operand.func 23), args := #[Go.Operand.tmp 45, Go.Operand.tmp 48], argTypes := #[44, 22] }, type := 24, pos := "outright.go:94", after := #[{ on := 5, ground := Go.Ground.data }, { on := 8, ground := Go.Ground.data }, { on := 4, ground := Go.Ground.chain }], guard := none }) rfl (fun K hK => ?_) AllReadyH.nil
          · go_simp
            refine (made_any x16 x a2 m cap2 (l2.take m) (hsT2.below (hB1bx16)) hwT2 hx0 (by omega) N HN.out).mono ?_
            unfold MadeS
            rw [← HK.out]
            rintro e x17 ⟨g9, c9, R9, rfl, ho9x17, hWd9, hR9, hDx17⟩
            have hbx17 := bstep hbx16 hDx17
            have hzx17 := hDx17.size
            have ho4x17 := ownsRow_below ho4x16 hDx17
            have ht10x17 := ht10x16.step hDx17
            have ht11x17 := ht11x16.step hDx17
            have hB1bx17 := hbx17
            have hq9 := fun q e => own_blk ho9x17 (k := q) e
            go_wp2_with fail
            refine hK.out _ _ (hbx17) (fun hHeld => ?_)
            clear hK K
            try simp only [Act.put, List.setIfInBounds_toArray, List.set_cons_zero, List.set_cons_succ]
            refine wpAnyH_ready (rs := [12]) (by kernel_rfl) (by simp) ?_
            refine AllReadyH.cons (o := { dst := none, op := Go.Op.store 24 (Go.Operand.tmp 8) (Go.Operand.tmp 44), type := 0, pos := "outright.go:94", after := #[{ on := 10, ground := Go.Ground.data }, { on := 4, ground := Go.Ground.data }, { on := 9, ground := Go.Ground.chain }, { on := 0, ground := Go.Ground.phase }, { on := 1, ground := Go.Ground.phase }, { on := 2, ground := Go.Ground.phase }, { on := 3, ground := Go.Ground.phase }, { on := 4, ground := Go.Ground.phase }, { on := 5, ground := Go.Ground.textOnly Go.Departure.lateStores }, { on := 6, ground := Go.Ground.textOnly Go.Departure.lateStores }, { on := 7, ground := Go.Ground.textOnly Go.Departure.lateStores }, { on := 8, ground := Go.Ground.textOnly Go.Departure.lateStoresUnsure }, { on := 9, ground := Go.Ground.textOnly Go.Departure.lateStoresUnsure }, { on := 10, ground := Go.Ground.phase }, { on := 11, ground := Go.Ground.phase }], guard := none }) rfl (fun K hK => ?_) AllReadyH.nil
            · have q0 := ht10x17.c0
              have q1 := ht10x17.c1
              have q2 := ht10x17.f0
              have q3 := ht10x17.f1
              obtain ⟨x18, hwx18⟩ : ∃ wz, wz = ((x17.setCell ⟨x1.heap.size, 0, none⟩ (.int .i64 (N : Int))).setCell ⟨x1.heap.size, 1, none⟩ (.slice g4 Kw c4)) := ⟨_, rfl⟩
              have hbx18 : Below w.heap.size w x18 := by rw [hwx18]; exact (hbx17.setCell (p := ⟨x1.heap.size, 0, none⟩) (by show w.heap.size ≤ x1.heap.size; omega) _).setCell (p := ⟨x1.heap.size, 1, none⟩) (by show w.heap.size ≤ x1.heap.size; omega) _
              have ht10x18 : Two x18 x1.heap.size 24 (.int .i64 (N : Int)) (.slice g4 Kw c4) := by rw [hwx18]; exact put1 (put0 ht10x17 _) _
              have ht11x18 : Two x18 x11.heap.size 24 (.int .i64 0) (.slice none 0 0) := by rw [hwx18]; exact two_set (two_set ht11x17 (by omega) _ _) (by omega) _ _
              have ho4x18 : x18.ownsRow x0.heap.size 30 1 (.slice g4 Kw c4) Kw (R4.map (Value.int .u64)) := by rw [hwx18]; exact own_ne (own_ne ho4x17 (fun q e => by have := hq4 q e; omega) _ _) (fun q e => by have := hq4 q e; omega) _ _
              have ho9x18 : x18.ownsRow x16.heap.size 30 1 (.slice g9 Kw c9) Kw (R9.map (Value.int .u64)) := by rw [hwx18]; exact own_ne (own_ne ho9x17 (fun q e => by have := hq9 q e; omega) _ _) (fun q e => by have := hq9 q e; omega) _ _
              go_simp
              rw [← hwx18]
              clear hwx18 q0 q1 q2 q3
              refine hK.out _ _ (hbx18) (fun hHeld => ?_)
              clear hK K
              try simp only [Act.put, List.setIfInBounds_toArray, List.set_cons_zero, List.set_cons_succ]
              refine wpAnyH_ready (rs := [13]) (by kernel_rfl) (by simp) ?_
              refine AllReadyH.cons (o := { dst := none, op := Go.Op.store 24 (Go.Operand.tmp 9) (Go.Operand.tmp 49), type := 0, pos := "outright.go:94", after := #[{ on := 11, ground := Go.Ground.data }, { on := 9, ground := Go.Ground.data }, { on := 12, ground := Go.Ground.chain }, { on := 0, ground := Go.Ground.phase }, { on := 1, ground := Go.Ground.phase }, { on := 2, ground := Go.Ground.phase }, { on := 3, ground := Go.Ground.phase }, { on := 4, ground := Go.Ground.phase }, { on := 5, ground := Go.Ground.phase }, { on := 6, ground := Go.Ground.phase }, { on := 7, ground := Go.Ground.phase }, { on := 8, ground := Go.Ground.phase }, { on := 9, ground := Go.Ground.phase }, { on := 10, ground := Go.Ground.phase }, { on := 11, ground := Go.Ground.phase }, { on := 12, ground := Go.Ground.phase }], guard := none }) rfl (fun K hK => ?_) AllReadyH.nil
              · have q0 := ht11x18.c0
                have q1 := ht11x18.c1
                have q2 := ht11x18.f0
                have q3 := ht11x18.f1
                obtain ⟨x19, hwx19⟩ : ∃ wz, wz = ((x18.setCell ⟨x11.heap.size, 0, none⟩ (.int .i64 (N : Int))).setCell ⟨x11.heap.size, 1, none⟩ (.slice g9 Kw c9)) := ⟨_, rfl⟩
                have hbx19 : Below w.heap.size w x19 := by rw [hwx19]; exact (hbx18.setCell (p := ⟨x11.heap.size, 0, none⟩) (by show w.heap.size ≤ x11.heap.size; omega) _).setCell (p := ⟨x11.heap.size, 1, none⟩) (by show w.heap.size ≤ x11.heap.size; omega) _
                have ht11x19 : Two x19 x11.heap.size 24 (.int .i64 (N : Int)) (.slice g9 Kw c9) := by rw [hwx19]; exact put1 (put0 ht11x18 _) _
                have ht10x19 : Two x19 x1.heap.size 24 (.int .i64 (N : Int)) (.slice g4 Kw c4) := by rw [hwx19]; exact two_set (two_set ht10x18 (by omega) _ _) (by omega) _ _
                have ho4x19 : x19.ownsRow x0.heap.size 30 1 (.slice g4 Kw c4) Kw (R4.map (Value.int .u64)) := by rw [hwx19]; exact own_ne (own_ne ho4x18 (fun q e => by have := hq4 q e; omega) _ _) (fun q e => by have := hq4 q e; omega) _ _
                have ho9x19 : x19.ownsRow x16.heap.size 30 1 (.slice g9 Kw c9) Kw (R9.map (Value.int .u64)) := by rw [hwx19]; exact own_ne (own_ne ho9x18 (fun q e => by have := hq9 q e; omega) _ _) (fun q e => by have := hq9 q e; omega) _ _
                go_simp
                rw [← hwx19]
                clear hwx19 q0 q1 q2 q3
                refine hK.out _ _ (hbx19) (fun hHeld => ?_)
                clear hK K
                try simp only [Act.put, List.setIfInBounds_toArray, List.set_cons_zero, List.set_cons_succ]
                refine wpAnyH_done (by kernel_rfl) ?_ _
                refine NoPanic.normal ?_
                have hTb := hT.step hbx19
                go_wp2_with fail
                go_meet
                case rel => exact ⟨_, _, g4, c4, R4, g9, c9, R9, rfl, rfl, ⟨hbx19, ⟨own_sl ho4x19, hWd4, by omega, by omega, hTb⟩, ht10x19⟩, ⟨hbx19, ⟨own_sl ho9x19, hWd9, by omega, by omega, hTb⟩, ht11x19⟩, hR4, hR9⟩
      · obtain ⟨x20, hwx20⟩ : ∃ wz, wz = x1.alloc (.cells #[.int .i64 0, .slice none 0 0] 24) := ⟨_, rfl⟩
        have hDx20 : Below x1.heap.size x1 x20 := by rw [hwx20]; exact (Below.refl _ _).alloc (Nat.le_refl _) _
        have ht11x20 : Two x20 x1.heap.size 24 (.int .i64 0) (.slice none 0 0) := by rw [hwx20]; exact Two.new _ _ _ _
        have hbx20 := bstep hbx1 hDx20
        have hzx20 := hDx20.size
        have ho4x20 := ownsRow_below ho4x1 hDx20
        have hB1bx20 := hbx20
        have hk11 := ht11x20.lt
        go_simp
        rw [← hwx20]
        clear hwx20
        refine hK.out _ _ (hbx20) (fun hHeld => ?_)
        clear hK K
        try simp only [Act.put, List.setIfInBounds_toArray, List.set_cons_zero, List.set_cons_succ]
        refine wpAnyH_ready (rs := [9, 10]) (by kernel_rfl) (by simp) ?_
        refine AllReadyH.cons (o := { dst := some 49, op := Go.Op.call { callee := Go.Callee.value (Go.Operand.func 23), args := #[Go.Operand.tmp 45, Go.Operand.tmp 48], argTypes := #[44, 22] }, type := 24, pos := "outright.go:94", after := #[{ on := 5, ground := Go.Ground.data }, { on := 8, ground := Go.Ground.data }, { on := 4, ground := Go.Ground.chain }], guard := none }) rfl (fun K hK => ?_) (AllReadyH.cons (o := { dst := some 8, op := Go.Op.alloc 24, type := 0, pos := "outright.go:94", after := #[], guard := none }) rfl (fun K hK => ?_) AllReadyH.nil)
        · go_simp
          refine (made_any x20 x a2 m cap2 (l2.take m) (hsT2.below (hB1bx20)) hwT2 hx0 (by omega) N HN.out).mono ?_
          unfold MadeS
          rw [← HK.out]
          rintro e x21 ⟨g9, c9, R9, rfl, ho9x21, hWd9, hR9, hDx21⟩
          have hbx21 := bstep hbx20 hDx21
          have hzx21 := hDx21.size
          have ho4x21 := ownsRow_below ho4x20 hDx21
          have ht11x21 := ht11x20.step hDx21
          have hB1bx21 := hbx21
          have hq9 := fun q e => own_blk ho9x21 (k := q) e
          go_wp2_with fail
          refine hK.out _ _ (hbx21) (fun hHeld => ?_)
          clear hK K
          try simp only [Act.put, List.setIfInBounds_toArray, List.set_cons_zero, List.set_cons_succ]
          refine wpAnyH_ready (rs := [10]) (by kernel_rfl) (by simp) ?_
          refine AllReadyH.cons (o := { dst := some 8, op := Go.Op.alloc 24, type := 0, pos := "outright.go:94", after := #[], guard := none }) rfl (fun K hK => ?_) AllReadyH.nil
          · obtain ⟨x22, hwx22⟩ : ∃ wz, wz = x21.alloc (.cells #[.int .i64 0, .slice none 0 0] 24) := ⟨_, rfl⟩
            have hDx22 : Below x21.heap.size x21 x22 := by rw [hwx22]; exact (Below.refl _ _).alloc (Nat.le_refl _) _
            have ht10x22 : Two x22 x21.heap.size 24 (.int .i64 0) (.slice none 0 0) := by rw [hwx22]; exact Two.new _ _ _ _
            have hbx22 := bstep hbx21 hDx22
            have hzx22 := hDx22.size
            have ho4x22 := ownsRow_below ho4x21 hDx22
            have ho9x22 := ownsRow_below ho9x21 hDx22
            have ht11x22 := ht11x21.step hDx22
            have hB1bx22 := hbx22
            have hk10 := ht10x22.lt
            go_simp
            rw [← hwx22]
            clear hwx22
            refine hK.out _ _ (hbx22) (fun hHeld => ?_)
            clear hK K
            try simp only [Act.put, List.setIfInBounds_toArray, List.set_cons_zero, List.set_cons_succ]
            refine wpAnyH_ready (rs := [12]) (by kernel_rfl) (by simp) ?_
            refine AllReadyH.cons (o := { dst := none, op := Go.Op.store 24 (Go.Operand.tmp 8) (Go.Operand.tmp 44), type := 0, pos := "outright.go:94", after := #[{ on := 10, ground := Go.Ground.data }, { on := 4, ground := Go.Ground.data }, { on := 9, ground := Go.Ground.chain }, { on := 0, ground := Go.Ground.phase }, { on := 1, ground := Go.Ground.phase }, { on := 2, ground := Go.Ground.phase }, { on := 3, ground := Go.Ground.phase }, { on := 4, ground := Go.Ground.phase }, { on := 5, ground := Go.Ground.textOnly Go.Departure.lateStores }, { on := 6, ground := Go.Ground.textOnly Go.Departure.lateStores }, { on := 7, ground := Go.Ground.textOnly Go.Departure.lateStores }, { on := 8, ground := Go.Ground.textOnly Go.Departure.lateStoresUnsure }, { on := 9, ground := Go.Ground.textOnly Go.Departure.lateStoresUnsure }, { on := 10, ground := Go.Ground.phase }, { on := 11, ground := Go.Ground.phase }], guard := none }) rfl (fun K hK => ?_) AllReadyH.nil
            · have q0 := ht10x22.c0
              have q1 := ht10x22.c1
              have q2 := ht10x22.f0
              have q3 := ht10x22.f1
              obtain ⟨x23, hwx23⟩ : ∃ wz, wz = ((x22.setCell ⟨x21.heap.size, 0, none⟩ (.int .i64 (N : Int))).setCell ⟨x21.heap.size, 1, none⟩ (.slice g4 Kw c4)) := ⟨_, rfl⟩
              have hbx23 : Below w.heap.size w x23 := by rw [hwx23]; exact (hbx22.setCell (p := ⟨x21.heap.size, 0, none⟩) (by show w.heap.size ≤ x21.heap.size; omega) _).setCell (p := ⟨x21.heap.size, 1, none⟩) (by show w.heap.size ≤ x21.heap.size; omega) _
              have ht10x23 : Two x23 x21.heap.size 24 (.int .i64 (N : Int)) (.slice g4 Kw c4) := by rw [hwx23]; exact put1 (put0 ht10x22 _) _
              have ht11x23 : Two x23 x1.heap.size 24 (.int .i64 0) (.slice none 0 0) := by rw [hwx23]; exact two_set (two_set ht11x22 (by omega) _ _) (by omega) _ _
              have ho4x23 : x23.ownsRow x0.heap.size 30 1 (.slice g4 Kw c4) Kw (R4.map (Value.int .u64)) := by rw [hwx23]; exact own_ne (own_ne ho4x22 (fun q e => by have := hq4 q e; omega) _ _) (fun q e => by have := hq4 q e; omega) _ _
              have ho9x23 : x23.ownsRow x20.heap.size 30 1 (.slice g9 Kw c9) Kw (R9.map (Value.int .u64)) := by rw [hwx23]; exact own_ne (own_ne ho9x22 (fun q e => by have := hq9 q e; omega) _ _) (fun q e => by have := hq9 q e; omega) _ _
              go_simp
              rw [← hwx23]
              clear hwx23 q0 q1 q2 q3
              refine hK.out _ _ (hbx23) (fun hHeld => ?_)
              clear hK K
              try simp only [Act.put, List.setIfInBounds_toArray, List.set_cons_zero, List.set_cons_succ]
              refine wpAnyH_ready (rs := [13]) (by kernel_rfl) (by simp) ?_
              refine AllReadyH.cons (o := { dst := none, op := Go.Op.store 24 (Go.Operand.tmp 9) (Go.Operand.tmp 49), type := 0, pos := "outright.go:94", after := #[{ on := 11, ground := Go.Ground.data }, { on := 9, ground := Go.Ground.data }, { on := 12, ground := Go.Ground.chain }, { on := 0, ground := Go.Ground.phase }, { on := 1, ground := Go.Ground.phase }, { on := 2, ground := Go.Ground.phase }, { on := 3, ground := Go.Ground.phase }, { on := 4, ground := Go.Ground.phase }, { on := 5, ground := Go.Ground.phase }, { on := 6, ground := Go.Ground.phase }, { on := 7, ground := Go.Ground.phase }, { on := 8, ground := Go.Ground.phase }, { on := 9, ground := Go.Ground.phase }, { on := 10, ground := Go.Ground.phase }, { on := 11, ground := Go.Ground.phase }, { on := 12, ground := Go.Ground.phase }], guard := none }) rfl (fun K hK => ?_) AllReadyH.nil
              · have q0 := ht11x23.c0
                have q1 := ht11x23.c1
                have q2 := ht11x23.f0
                have q3 := ht11x23.f1
                obtain ⟨x24, hwx24⟩ : ∃ wz, wz = ((x23.setCell ⟨x1.heap.size, 0, none⟩ (.int .i64 (N : Int))).setCell ⟨x1.heap.size, 1, none⟩ (.slice g9 Kw c9)) := ⟨_, rfl⟩
                have hbx24 : Below w.heap.size w x24 := by rw [hwx24]; exact (hbx23.setCell (p := ⟨x1.heap.size, 0, none⟩) (by show w.heap.size ≤ x1.heap.size; omega) _).setCell (p := ⟨x1.heap.size, 1, none⟩) (by show w.heap.size ≤ x1.heap.size; omega) _
                have ht11x24 : Two x24 x1.heap.size 24 (.int .i64 (N : Int)) (.slice g9 Kw c9) := by rw [hwx24]; exact put1 (put0 ht11x23 _) _
                have ht10x24 : Two x24 x21.heap.size 24 (.int .i64 (N : Int)) (.slice g4 Kw c4) := by rw [hwx24]; exact two_set (two_set ht10x23 (by omega) _ _) (by omega) _ _
                have ho4x24 : x24.ownsRow x0.heap.size 30 1 (.slice g4 Kw c4) Kw (R4.map (Value.int .u64)) := by rw [hwx24]; exact own_ne (own_ne ho4x23 (fun q e => by have := hq4 q e; omega) _ _) (fun q e => by have := hq4 q e; omega) _ _
                have ho9x24 : x24.ownsRow x20.heap.size 30 1 (.slice g9 Kw c9) Kw (R9.map (Value.int .u64)) := by rw [hwx24]; exact own_ne (own_ne ho9x23 (fun q e => by have := hq9 q e; omega) _ _) (fun q e => by have := hq9 q e; omega) _ _
                go_simp
                rw [← hwx24]
                clear hwx24 q0 q1 q2 q3
                refine hK.out _ _ (hbx24) (fun hHeld => ?_)
                clear hK K
                try simp only [Act.put, List.setIfInBounds_toArray, List.set_cons_zero, List.set_cons_succ]
                refine wpAnyH_done (by kernel_rfl) ?_ _
                refine NoPanic.normal ?_
                have hTb := hT.step hbx24
                go_wp2_with fail
                go_meet
                case rel => exact ⟨_, _, g4, c4, R4, g9, c9, R9, rfl, rfl, ⟨hbx24, ⟨own_sl ho4x24, hWd4, by omega, by omega, hTb⟩, ht10x24⟩, ⟨hbx24, ⟨own_sl ho9x24, hWd9, by omega, by omega, hTb⟩, ht11x24⟩, hR4, hR9⟩
        · obtain ⟨x25, hwx25⟩ : ∃ wz, wz = x20.alloc (.cells #[.int .i64 0, .slice none 0 0] 24) := ⟨_, rfl⟩
          have hDx25 : Below x20.heap.size x20 x25 := by rw [hwx25]; exact (Below.refl _ _).alloc (Nat.le_refl _) _
          have ht10x25 : Two x25 x20.heap.size 24 (.int .i64 0) (.slice none 0 0) := by rw [hwx25]; exact Two.new _ _ _ _
          have hbx25 := bstep hbx20 hDx25
          have hzx25 := hDx25.size
          have ho4x25 := ownsRow_below ho4x20 hDx25
          have ht11x25 := ht11x20.step hDx25
          have hB1bx25 := hbx25
          have hk10 := ht10x25.lt
          go_simp
          rw [← hwx25]
          clear hwx25
          refine hK.out _ _ (hbx25) (fun hHeld => ?_)
          clear hK K
          try simp only [Act.put, List.setIfInBounds_toArray, List.set_cons_zero, List.set_cons_succ]
          refine wpAnyH_ready (rs := [9]) (by kernel_rfl) (by simp) ?_
          refine AllReadyH.cons (o := { dst := some 49, op := Go.Op.call { callee := Go.Callee.value (Go.Operand.func 23), args := #[Go.Operand.tmp 45, Go.Operand.tmp 48], argTypes := #[44, 22] }, type := 24, pos := "outright.go:94", after := #[{ on := 5, ground := Go.Ground.data }, { on := 8, ground := Go.Ground.data }, { on := 4, ground := Go.Ground.chain }], guard := none }) rfl (fun K hK => ?_) AllReadyH.nil
          · go_simp
            refine (made_any x25 x a2 m cap2 (l2.take m) (hsT2.below (hB1bx25)) hwT2 hx0 (by omega) N HN.out).mono ?_
            unfold MadeS
            rw [← HK.out]
            rintro e x26 ⟨g9, c9, R9, rfl, ho9x26, hWd9, hR9, hDx26⟩
            have hbx26 := bstep hbx25 hDx26
            have hzx26 := hDx26.size
            have ho4x26 := ownsRow_below ho4x25 hDx26
            have ht11x26 := ht11x25.step hDx26
            have ht10x26 := ht10x25.step hDx26
            have hB1bx26 := hbx26
            have hq9 := fun q e => own_blk ho9x26 (k := q) e
            go_wp2_with fail
            refine hK.out _ _ (hbx26) (fun hHeld => ?_)
            clear hK K
            try simp only [Act.put, List.setIfInBounds_toArray, List.set_cons_zero, List.set_cons_succ]
            refine wpAnyH_ready (rs := [12]) (by kernel_rfl) (by simp) ?_
            refine AllReadyH.cons (o := { dst := none, op := Go.Op.store 24 (Go.Operand.tmp 8) (Go.Operand.tmp 44), type := 0, pos := "outright.go:94", after := #[{ on := 10, ground := Go.Ground.data }, { on := 4, ground := Go.Ground.data }, { on := 9, ground := Go.Ground.chain }, { on := 0, ground := Go.Ground.phase }, { on := 1, ground := Go.Ground.phase }, { on := 2, ground := Go.Ground.phase }, { on := 3, ground := Go.Ground.phase }, { on := 4, ground := Go.Ground.phase }, { on := 5, ground := Go.Ground.textOnly Go.Departure.lateStores }, { on := 6, ground := Go.Ground.textOnly Go.Departure.lateStores }, { on := 7, ground := Go.Ground.textOnly Go.Departure.lateStores }, { on := 8, ground := Go.Ground.textOnly Go.Departure.lateStoresUnsure }, { on := 9, ground := Go.Ground.textOnly Go.Departure.lateStoresUnsure }, { on := 10, ground := Go.Ground.phase }, { on := 11, ground := Go.Ground.phase }], guard := none }) rfl (fun K hK => ?_) AllReadyH.nil
            · have q0 := ht10x26.c0
              have q1 := ht10x26.c1
              have q2 := ht10x26.f0
              have q3 := ht10x26.f1
              obtain ⟨x27, hwx27⟩ : ∃ wz, wz = ((x26.setCell ⟨x20.heap.size, 0, none⟩ (.int .i64 (N : Int))).setCell ⟨x20.heap.size, 1, none⟩ (.slice g4 Kw c4)) := ⟨_, rfl⟩
              have hbx27 : Below w.heap.size w x27 := by rw [hwx27]; exact (hbx26.setCell (p := ⟨x20.heap.size, 0, none⟩) (by show w.heap.size ≤ x20.heap.size; omega) _).setCell (p := ⟨x20.heap.size, 1, none⟩) (by show w.heap.size ≤ x20.heap.size; omega) _
              have ht10x27 : Two x27 x20.heap.size 24 (.int .i64 (N : Int)) (.slice g4 Kw c4) := by rw [hwx27]; exact put1 (put0 ht10x26 _) _
              have ht11x27 : Two x27 x1.heap.size 24 (.int .i64 0) (.slice none 0 0) := by rw [hwx27]; exact two_set (two_set ht11x26 (by omega) _ _) (by omega) _ _
              have ho4x27 : x27.ownsRow x0.heap.size 30 1 (.slice g4 Kw c4) Kw (R4.map (Value.int .u64)) := by rw [hwx27]; exact own_ne (own_ne ho4x26 (fun q e => by have := hq4 q e; omega) _ _) (fun q e => by have := hq4 q e; omega) _ _
              have ho9x27 : x27.ownsRow x25.heap.size 30 1 (.slice g9 Kw c9) Kw (R9.map (Value.int .u64)) := by rw [hwx27]; exact own_ne (own_ne ho9x26 (fun q e => by have := hq9 q e; omega) _ _) (fun q e => by have := hq9 q e; omega) _ _
              go_simp
              rw [← hwx27]
              clear hwx27 q0 q1 q2 q3
              refine hK.out _ _ (hbx27) (fun hHeld => ?_)
              clear hK K
              try simp only [Act.put, List.setIfInBounds_toArray, List.set_cons_zero, List.set_cons_succ]
              refine wpAnyH_ready (rs := [13]) (by kernel_rfl) (by simp) ?_
              refine AllReadyH.cons (o := { dst := none, op := Go.Op.store 24 (Go.Operand.tmp 9) (Go.Operand.tmp 49), type := 0, pos := "outright.go:94", after := #[{ on := 11, ground := Go.Ground.data }, { on := 9, ground := Go.Ground.data }, { on := 12, ground := Go.Ground.chain }, { on := 0, ground := Go.Ground.phase }, { on := 1, ground := Go.Ground.phase }, { on := 2, ground := Go.Ground.phase }, { on := 3, ground := Go.Ground.phase }, { on := 4, ground := Go.Ground.phase }, { on := 5, ground := Go.Ground.phase }, { on := 6, ground := Go.Ground.phase }, { on := 7, ground := Go.Ground.phase }, { on := 8, ground := Go.Ground.phase }, { on := 9, ground := Go.Ground.phase }, { on := 10, ground := Go.Ground.phase }, { on := 11, ground := Go.Ground.phase }, { on := 12, ground := Go.Ground.phase }], guard := none }) rfl (fun K hK => ?_) AllReadyH.nil
              · have q0 := ht11x27.c0
                have q1 := ht11x27.c1
                have q2 := ht11x27.f0
                have q3 := ht11x27.f1
                obtain ⟨x28, hwx28⟩ : ∃ wz, wz = ((x27.setCell ⟨x1.heap.size, 0, none⟩ (.int .i64 (N : Int))).setCell ⟨x1.heap.size, 1, none⟩ (.slice g9 Kw c9)) := ⟨_, rfl⟩
                have hbx28 : Below w.heap.size w x28 := by rw [hwx28]; exact (hbx27.setCell (p := ⟨x1.heap.size, 0, none⟩) (by show w.heap.size ≤ x1.heap.size; omega) _).setCell (p := ⟨x1.heap.size, 1, none⟩) (by show w.heap.size ≤ x1.heap.size; omega) _
                have ht11x28 : Two x28 x1.heap.size 24 (.int .i64 (N : Int)) (.slice g9 Kw c9) := by rw [hwx28]; exact put1 (put0 ht11x27 _) _
                have ht10x28 : Two x28 x20.heap.size 24 (.int .i64 (N : Int)) (.slice g4 Kw c4) := by rw [hwx28]; exact two_set (two_set ht10x27 (by omega) _ _) (by omega) _ _
                have ho4x28 : x28.ownsRow x0.heap.size 30 1 (.slice g4 Kw c4) Kw (R4.map (Value.int .u64)) := by rw [hwx28]; exact own_ne (own_ne ho4x27 (fun q e => by have := hq4 q e; omega) _ _) (fun q e => by have := hq4 q e; omega) _ _
                have ho9x28 : x28.ownsRow x25.heap.size 30 1 (.slice g9 Kw c9) Kw (R9.map (Value.int .u64)) := by rw [hwx28]; exact own_ne (own_ne ho9x27 (fun q e => by have := hq9 q e; omega) _ _) (fun q e => by have := hq9 q e; omega) _ _
                go_simp
                rw [← hwx28]
                clear hwx28 q0 q1 q2 q3
                refine hK.out _ _ (hbx28) (fun hHeld => ?_)
                clear hK K
                try simp only [Act.put, List.setIfInBounds_toArray, List.set_cons_zero, List.set_cons_succ]
                refine wpAnyH_done (by kernel_rfl) ?_ _
                refine NoPanic.normal ?_
                have hTb := hT.step hbx28
                go_wp2_with fail
                go_meet
                case rel => exact ⟨_, _, g4, c4, R4, g9, c9, R9, rfl, rfl, ⟨hbx28, ⟨own_sl ho4x28, hWd4, by omega, by omega, hTb⟩, ht10x28⟩, ⟨hbx28, ⟨own_sl ho9x28, hWd9, by omega, by omega, hTb⟩, ht11x28⟩, hR4, hR9⟩
    · obtain ⟨x29, hwx29⟩ : ∃ wz, wz = x0.alloc (.cells #[.int .i64 0, .slice none 0 0] 24) := ⟨_, rfl⟩
      have hDx29 : Below x0.heap.size x0 x29 := by rw [hwx29]; exact (Below.refl _ _).alloc (Nat.le_refl _) _
      have ht10x29 : Two x29 x0.heap.size 24 (.int .i64 0) (.slice none 0 0) := by rw [hwx29]; exact Two.new _ _ _ _
      have hbx29 := bstep hbx0 hDx29
      have hzx29 := hDx29.size
      have hB1bx29 := hbx29
      have hk10 := ht10x29.lt
      go_simp
      rw [← hwx29]
      clear hwx29
      refine hK.out _ _ (hbx29) (fun hHeld => ?_)
      clear hK K
      try simp only [Act.put, List.setIfInBounds_toArray, List.set_cons_zero, List.set_cons_succ]
      refine wpAnyH_ready (rs := [4, 11]) (by kernel_rfl) (by simp) ?_
      refine AllReadyH.cons (o := { dst := some 44, op := Go.Op.call { callee := Go.Callee.value (Go.Operand.func 23), args := #[Go.Operand.tmp 40, Go.Operand.tmp 43], argTypes := #[44, 22] }, type := 24, pos := "outright.go:94", after := #[{ on := 0, ground := Go.Ground.data }, { on := 3, ground := Go.Ground.data }], guard := none }) rfl (fun K hK => ?_) (AllReadyH.cons (o := { dst := some 9, op := Go.Op.alloc 24, type := 0, pos := "outright.go:94", after := #[], guard := none }) rfl (fun K hK => ?_) AllReadyH.nil)
      · go_simp
        refine (made_any x29 x a m cap (l.take m) (hsT.below (hB1bx29)) hwT hx0 (by omega) N HN.out).mono ?_
        unfold MadeS
        rw [← HK.out]
        rintro e x30 ⟨g4, c4, R4, rfl, ho4x30, hWd4, hR4, hDx30⟩
        have hbx30 := bstep hbx29 hDx30
        have hzx30 := hDx30.size
        have ht10x30 := ht10x29.step hDx30
        have hB1bx30 := hbx30
        have hq4 := fun q e => own_blk ho4x30 (k := q) e
        go_wp2_with fail
        refine hK.out _ _ (hbx30) (fun hHeld => ?_)
        clear hK K
        try simp only [Act.put, List.setIfInBounds_toArray, List.set_cons_zero, List.set_cons_succ]
        refine wpAnyH_ready (rs := [9, 11]) (by kernel_rfl) (by simp) ?_
        refine AllReadyH.cons (o := { dst := some 49, op := Go.Op.call { callee := Go.Callee.value (Go.Operand.func 23), args := #[Go.Operand.tmp 45, Go.Operand.tmp 48], argTypes := #[44, 22] }, type := 24, pos := "outright.go:94", after := #[{ on := 5, ground := Go.Ground.data }, { on := 8, ground := Go.Ground.data }, { on := 4, ground := Go.Ground.chain }], guard := none }) rfl (fun K hK => ?_) (AllReadyH.cons (o := { dst := some 9, op := Go.Op.alloc 24, type := 0, pos := "outright.go:94", after := #[], guard := none }) rfl (fun K hK => ?_) AllReadyH.nil)
        · go_simp
          refine (made_any x30 x a2 m cap2 (l2.take m) (hsT2.below (hB1bx30)) hwT2 hx0 (by omega) N HN.out).mono ?_
          unfold MadeS
          rw [← HK.out]
          rintro e x31 ⟨g9, c9, R9, rfl, ho9x31, hWd9, hR9, hDx31⟩
          have hbx31 := bstep hbx30 hDx31
          have hzx31 := hDx31.size
          have ho4x31 := ownsRow_below ho4x30 hDx31
          have ht10x31 := ht10x30.step hDx31
          have hB1bx31 := hbx31
          have hq9 := fun q e => own_blk ho9x31 (k := q) e
          go_wp2_with fail
          refine hK.out _ _ (hbx31) (fun hHeld => ?_)
          clear hK K
          try simp only [Act.put, List.setIfInBounds_toArray, List.set_cons_zero, List.set_cons_succ]
          refine wpAnyH_ready (rs := [11]) (by kernel_rfl) (by simp) ?_
          refine AllReadyH.cons (o := { dst := some 9, op := Go.Op.alloc 24, type := 0, pos := "outright.go:94", after := #[], guard := none }) rfl (fun K hK => ?_) AllReadyH.nil
          · obtain ⟨x32, hwx32⟩ : ∃ wz, wz = x31.alloc (.cells #[.int .i64 0, .slice none 0 0] 24) := ⟨_, rfl⟩
            have hDx32 : Below x31.heap.size x31 x32 := by rw [hwx32]; exact (Below.refl _ _).alloc (Nat.le_refl _) _
            have ht11x32 : Two x32 x31.heap.size 24 (.int .i64 0) (.slice none 0 0) := by rw [hwx32]; exact Two.new _ _ _ _
            have hbx32 := bstep hbx31 hDx32
            have hzx32 := hDx32.size
            have ho4x32 := ownsRow_below ho4x31 hDx32
            have ho9x32 := ownsRow_below ho9x31 hDx32
            have ht10x32 := ht10x31.step hDx32
            have hB1bx32 := hbx32
            have hk11 := ht11x32.lt
            go_simp
            rw [← hwx32]
            clear hwx32
            refine hK.out _ _ (hbx32) (fun hHeld => ?_)
            clear hK K
            try simp only [Act.put, List.setIfInBounds_toArray, List.set_cons_zero, List.set_cons_succ]
            refine wpAnyH_ready (rs := [12]) (by kernel_rfl) (by simp) ?_
            refine AllReadyH.cons (o := { dst := none, op := Go.Op.store 24 (Go.Operand.tmp 8) (Go.Operand.tmp 44), type := 0, pos := "outright.go:94", after := #[{ on := 10, ground := Go.Ground.data }, { on := 4, ground := Go.Ground.data }, { on := 9, ground := Go.Ground.chain }, { on := 0, ground := Go.Ground.phase }, { on := 1, ground := Go.Ground.phase }, { on := 2, ground := Go.Ground.phase }, { on := 3, ground := Go.Ground.phase }, { on := 4, ground := Go.Ground.phase }, { on := 5, ground := Go.Ground.textOnly Go.Departure.lateStores }, { on := 6, ground := Go.Ground.textOnly Go.Departure.lateStores }, { on := 7, ground := Go.Ground.textOnly Go.Departure.lateStores }, { on := 8, ground := Go.Ground.textOnly Go.Departure.lateStoresUnsure }, { on := 9, ground := Go.Ground.textOnly Go.Departure.lateStoresUnsure }, { on := 10, ground := Go.Ground.phase }, { on := 11, ground := Go.Ground.phase }], guard := none }) rfl (fun K hK => ?_) AllReadyH.nil
            · have q0 := ht10x32.c0
              have q1 := ht10x32.c1
              have q2 := ht10x32.f0
              have q3 := ht10x32.f1
              obtain ⟨x33, hwx33⟩ : ∃ wz, wz = ((x32.setCell ⟨x0.heap.size, 0, none⟩ (.int .i64 (N : Int))).setCell ⟨x0.heap.size, 1, none⟩ (.slice g4 Kw c4)) := ⟨_, rfl⟩
              have hbx33 : Below w.heap.size w x33 := by rw [hwx33]; exact (hbx32.setCell (p := ⟨x0.heap.size, 0, none⟩) (by show w.heap.size ≤ x0.heap.size; omega) _).setCell (p := ⟨x0.heap.size, 1, none⟩) (by show w.heap.size ≤ x0.heap.size; omega) _
              have ht10x33 : Two x33 x0.heap.size 24 (.int .i64 (N : Int)) (.slice g4 Kw c4) := by rw [hwx33]; exact put1 (put0 ht10x32 _) _
              have ht11x33 : Two x33 x31.heap.size 24 (.int .i64 0) (.slice none 0 0) := by rw [hwx33]; exact two_set (two_set ht11x32 (by omega) _ _) (by omega) _ _
              have ho4x33 : x33.ownsRow x29.heap.size 30 1 (.slice g4 Kw c4) Kw (R4.map (Value.int .u64)) := by rw [hwx33]; exact own_ne (own_ne ho4x32 (fun q e => by have := hq4 q e; omega) _ _) (fun q e => by have := hq4 q e; omega) _ _
              have ho9x33 : x33.ownsRow x30.heap.size 30 1 (.slice g9 Kw c9) Kw (R9.map (Value.int .u64)) := by rw [hwx33]; exact own_ne (own_ne ho9x32 (fun q e => by have := hq9 q e; omega) _ _) (fun q e => by have := hq9 q e; omega) _ _
              go_simp
              rw [← hwx33]
              clear hwx33 q0 q1 q2 q3
              refine hK.out _ _ (hbx33) (fun hHeld => ?_)
              clear hK K
              try simp only [Act.put, List.setIfInBounds_toArray, List.set_cons_zero, List.set_cons_succ]
              refine wpAnyH_ready (rs := [13]) (by kernel_rfl) (by simp) ?_
              refine AllReadyH.cons (o := { dst := none, op := Go.Op.store 24 (Go.Operand.tmp 9) (Go.Operand.tmp 49), type := 0, pos := "outright.go:94", after := #[{ on := 11, ground := Go.Ground.data }, { on := 9, ground := Go.Ground.data }, { on := 12, ground := Go.Ground.chain }, { on := 0, ground := Go.Ground.phase }, { on := 1, ground := Go.Ground.phase }, { on := 2, ground := Go.Ground.phase }, { on := 3, ground := Go.Ground.phase }, { on := 4, ground := Go.Ground.phase }, { on := 5, ground := Go.Ground.phase }, { on := 6, ground := Go.Ground.phase }, { on := 7, ground := Go.Ground.phase }, { on := 8, ground := Go.Ground.phase }, { on := 9, ground := Go.Ground.phase }, { on := 10, ground := Go.Ground.phase }, { on := 11, ground := Go.Ground.phase }, { on := 12, ground := Go.Ground.phase }], guard := none }) rfl (fun K hK => ?_) AllReadyH.nil
              · have q0 := ht11x33.c0
                have q1 := ht11x33.c1
                have q2 := ht11x33.f0
                have q3 := ht11x33.f1
                obtain ⟨x34, hwx34⟩ : ∃ wz, wz = ((x33.setCell ⟨x31.heap.size, 0, none⟩ (.int .i64 (N : Int))).setCell ⟨x31.heap.size, 1, none⟩ (.slice g9 Kw c9)) := ⟨_, rfl⟩
                have hbx34 : Below w.heap.size w x34 := by rw [hwx34]; exact (hbx33.setCell (p := ⟨x31.heap.size, 0, none⟩) (by show w.heap.size ≤ x31.heap.size; omega) _).setCell (p := ⟨x31.heap.size, 1, none⟩) (by show w.heap.size ≤ x31.heap.size; omega) _
                have ht11x34 : Two x34 x31.heap.size 24 (.int .i64 (N : Int)) (.slice g9 Kw c9) := by rw [hwx34]; exact put1 (put0 ht11x33 _) _
                have ht10x34 : Two x34 x0.heap.size 24 (.int .i64 (N : Int)) (.slice g4 Kw c4) := by rw [hwx34]; exact two_set (two_set ht10x33 (by omega) _ _) (by omega) _ _
                have ho4x34 : x34.ownsRow x29.heap.size 30 1 (.slice g4 Kw c4) Kw (R4.map (Value.int .u64)) := by rw [hwx34]; exact own_ne (own_ne ho4x33 (fun q e => by have := hq4 q e; omega) _ _) (fun q e => by have := hq4 q e; omega) _ _
                have ho9x34 : x34.ownsRow x30.heap.size 30 1 (.slice g9 Kw c9) Kw (R9.map (Value.int .u64)) := by rw [hwx34]; exact own_ne (own_ne ho9x33 (fun q e => by have := hq9 q e; omega) _ _) (fun q e => by have := hq9 q e; omega) _ _
                go_simp
                rw [← hwx34]
                clear hwx34 q0 q1 q2 q3
                refine hK.out _ _ (hbx34) (fun hHeld => ?_)
                clear hK K
                try simp only [Act.put, List.setIfInBounds_toArray, List.set_cons_zero, List.set_cons_succ]
                refine wpAnyH_done (by kernel_rfl) ?_ _
                refine NoPanic.normal ?_
                have hTb := hT.step hbx34
                go_wp2_with fail
                go_meet
                case rel => exact ⟨_, _, g4, c4, R4, g9, c9, R9, rfl, rfl, ⟨hbx34, ⟨own_sl ho4x34, hWd4, by omega, by omega, hTb⟩, ht10x34⟩, ⟨hbx34, ⟨own_sl ho9x34, hWd9, by omega, by omega, hTb⟩, ht11x34⟩, hR4, hR9⟩
        · obtain ⟨x35, hwx35⟩ : ∃ wz, wz = x30.alloc (.cells #[.int .i64 0, .slice none 0 0] 24) := ⟨_, rfl⟩
          have hDx35 : Below x30.heap.size x30 x35 := by rw [hwx35]; exact (Below.refl _ _).alloc (Nat.le_refl _) _
          have ht11x35 : Two x35 x30.heap.size 24 (.int .i64 0) (.slice none 0 0) := by rw [hwx35]; exact Two.new _ _ _ _
          have hbx35 := bstep hbx30 hDx35
          have hzx35 := hDx35.size
          have ho4x35 := ownsRow_below ho4x30 hDx35
          have ht10x35 := ht10x30.step hDx35
          have hB1bx35 := hbx35
          have hk11 := ht11x35.lt
          go_simp
          rw [← hwx35]
          clear hwx35
          refine hK.out _ _ (hbx35) (fun hHeld => ?_)
          clear hK K
          try simp only [Act.put, List.setIfInBounds_toArray, List.set_cons_zero, List.set_cons_succ]
          refine wpAnyH_ready (rs := [9]) (by kernel_rfl) (by simp) ?_
          refine AllReadyH.cons (o := { dst := some 49, op := Go.Op.call { callee := Go.Callee.value (Go.Operand.func 23), args := #[Go.Operand.tmp 45, Go.Operand.tmp 48], argTypes := #[44, 22] }, type := 24, pos := "outright.go:94", after := #[{ on := 5, ground := Go.Ground.data }, { on := 8, ground := Go.Ground.data }, { on := 4, ground := Go.Ground.chain }], guard := none }) rfl (fun K hK => ?_) AllReadyH.nil
          · go_simp
            refine (made_any x35 x a2 m cap2 (l2.take m) (hsT2.below (hB1bx35)) hwT2 hx0 (by omega) N HN.out).mono ?_
            unfold MadeS
            rw [← HK.out]
            rintro e x36 ⟨g9, c9, R9, rfl, ho9x36, hWd9, hR9, hDx36⟩
            have hbx36 := bstep hbx35 hDx36
            have hzx36 := hDx36.size
            have ho4x36 := ownsRow_below ho4x35 hDx36
            have ht10x36 := ht10x35.step hDx36
            have ht11x36 := ht11x35.step hDx36
            have hB1bx36 := hbx36
            have hq9 := fun q e => own_blk ho9x36 (k := q) e
            go_wp2_with fail
            refine hK.out _ _ (hbx36) (fun hHeld => ?_)
            clear hK K
            try simp only [Act.put, List.setIfInBounds_toArray, List.set_cons_zero, List.set_cons_succ]
            refine wpAnyH_ready (rs := [12]) (by kernel_rfl) (by simp) ?_
            refine AllReadyH.cons (o := { dst := none, op := Go.Op.store 24 (Go.Operand.tmp 8) (Go.Operand.tmp 44), type := 0, pos := "outright.go:94", after := #[{ on := 10, ground := Go.Ground.data }, { on := 4, ground := Go.Ground.data }, { on := 9, ground := Go.Ground.chain }, { on := 0, ground := Go.Ground.phase }, { on := 1, ground := Go.Ground.phase }, { on := 2, ground := Go.Ground.phase }, { on := 3, ground := Go.Ground.phase }, { on := 4, ground := Go.Ground.phase }, { on := 5, ground := Go.Ground.textOnly Go.Departure.lateStores }, { on := 6, ground := Go.Ground.textOnly Go.Departure.lateStores }, { on := 7, ground := Go.Ground.textOnly Go.Departure.lateStores }, { on := 8, ground := Go.Ground.textOnly Go.Departure.lateStoresUnsure }, { on := 9, ground := Go.Ground.textOnly Go.Departure.lateStoresUnsure }, { on := 10, ground := Go.Ground.phase }, { on := 11, ground := Go.Ground.phase }], guard := none }) rfl (fun K hK => ?_) AllReadyH.nil
            · have q0 := ht10x36.c0
              have q1 := ht10x36.c1
              have q2 := ht10x36.f0
              have q3 := ht10x36.f1
              obtain ⟨x37, hwx37⟩ : ∃ wz, wz = ((x36.setCell ⟨x0.heap.size, 0, none⟩ (.int .i64 (N : Int))).setCell ⟨x0.heap.size, 1, none⟩ (.slice g4 Kw c4)) := ⟨_, rfl⟩
              have hbx37 : Below w.heap.size w x37 := by rw [hwx37]; exact (hbx36.setCell (p := ⟨x0.heap.size, 0, none⟩) (by show w.heap.size ≤ x0.heap.size; omega) _).setCell (p := ⟨x0.heap.size, 1, none⟩) (by show w.heap.size ≤ x0.heap.size; omega) _
              have ht10x37 : Two x37 x0.heap.size 24 (.int .i64 (N : Int)) (.slice g4 Kw c4) := by rw [hwx37]; exact put1 (put0 ht10x36 _) _
              have ht11x37 : Two x37 x30.heap.size 24 (.int .i64 0) (.slice none 0 0) := by rw [hwx37]; exact two_set (two_set ht11x36 (by omega) _ _) (by omega) _ _
              have ho4x37 : x37.ownsRow x29.heap.size 30 1 (.slice g4 Kw c4) Kw (R4.map (Value.int .u64)) := by rw [hwx37]; exact own_ne (own_ne ho4x36 (fun q e => by have := hq4 q e; omega) _ _) (fun q e => by have := hq4 q e; omega) _ _
              have ho9x37 : x37.ownsRow x35.heap.size 30 1 (.slice g9 Kw c9) Kw (R9.map (Value.int .u64)) := by rw [hwx37]; exact own_ne (own_ne ho9x36 (fun q e => by have := hq9 q e; omega) _ _) (fun q e => by have := hq9 q e; omega) _ _
              go_simp
              rw [← hwx37]
              clear hwx37 q0 q1 q2 q3
              refine hK.out _ _ (hbx37) (fun hHeld => ?_)
              clear hK K
              try simp only [Act.put, List.setIfInBounds_toArray, List.set_cons_zero, List.set_cons_succ]
              refine wpAnyH_ready (rs := [13]) (by kernel_rfl) (by simp) ?_
              refine AllReadyH.cons (o := { dst := none, op := Go.Op.store 24 (Go.Operand.tmp 9) (Go.Operand.tmp 49), type := 0, pos := "outright.go:94", after := #[{ on := 11, ground := Go.Ground.data }, { on := 9, ground := Go.Ground.data }, { on := 12, ground := Go.Ground.chain }, { on := 0, ground := Go.Ground.phase }, { on := 1, ground := Go.Ground.phase }, { on := 2, ground := Go.Ground.phase }, { on := 3, ground := Go.Ground.phase }, { on := 4, ground := Go.Ground.phase }, { on := 5, ground := Go.Ground.phase }, { on := 6, ground := Go.Ground.phase }, { on := 7, ground := Go.Ground.phase }, { on := 8, ground := Go.Ground.phase }, { on := 9, ground := Go.Ground.phase }, { on := 10, ground := Go.Ground.phase }, { on := 11, ground := Go.Ground.phase }, { on := 12, ground := Go.Ground.phase }], guard := none }) rfl (fun K hK => ?_) AllReadyH.nil
              · have q0 := ht11x37.c0
                have q1 := ht11x37.c1
                have q2 := ht11x37.f0
                have q3 := ht11x37.f1
                obtain ⟨x38, hwx38⟩ : ∃ wz, wz = ((x37.setCell ⟨x30.heap.size, 0, none⟩ (.int .i64 (N : Int))).setCell ⟨x30.heap.size, 1, none⟩ (.slice g9 Kw c9)) := ⟨_, rfl⟩
                have hbx38 : Below w.heap.size w x38 := by rw [hwx38]; exact (hbx37.setCell (p := ⟨x30.heap.size, 0, none⟩) (by show w.heap.size ≤ x30.heap.size; omega) _).setCell (p := ⟨x30.heap.size, 1, none⟩) (by show w.heap.size ≤ x30.heap.size; omega) _
                have ht11x38 : Two x38 x30.heap.size 24 (.int .i64 (N : Int)) (.slice g9 Kw c9) := by rw [hwx38]; exact put1 (put0 ht11x37 _) _
                have ht10x38 : Two x38 x0.heap.size 24 (.int .i64 (N : Int)) (.slice g4 Kw c4) := by rw [hwx38]; exact two_set (two_set ht10x37 (by omega) _ _) (by omega) _ _
                have ho4x38 : x38.ownsRow x29.heap.size 30 1 (.slice g4 Kw c4) Kw (R4.map (Value.int .u64)) := by rw [hwx38]; exact own_ne (own_ne ho4x37 (fun q e => by have := hq4 q e; omega) _ _) (fun q e => by have := hq4 q e; omega) _ _
                have ho9x38 : x38.ownsRow x35.heap.size 30 1 (.slice g9 Kw c9) Kw (R9.map (Value.int .u64)) := by rw [hwx38]; exact own_ne (own_ne ho9x37 (fun q e => by have := hq9 q e; omega) _ _) (fun q e => by have := hq9 q e; omega) _ _
                go_simp
                rw [← hwx38]
                clear hwx38 q0 q1 q2 q3
                refine hK.out _ _ (hbx38) (fun hHeld => ?_)
                clear hK K
                try simp only [Act.put, List.setIfInBounds_toArray, List.set_cons_zero, List.set_cons_succ]
                refine wpAnyH_done (by kernel_rfl) ?_ _
                refine NoPanic.normal ?_
                have hTb := hT.step hbx38
                go_wp2_with fail
                go_meet
                case rel => exact ⟨_, _, g4, c4, R4, g9, c9, R9, rfl, rfl, ⟨hbx38, ⟨own_sl ho4x38, hWd4, by omega, by omega, hTb⟩, ht10x38⟩, ⟨hbx38, ⟨own_sl ho9x38, hWd9, by omega, by omega, hTb⟩, ht11x38⟩, hR4, hR9⟩
      · obtain ⟨x39, hwx39⟩ : ∃ wz, wz = x29.alloc (.cells #[.int .i64 0, .slice none 0 0] 24) := ⟨_, rfl⟩
        have hDx39 : Below x29.heap.size x29 x39 := by rw [hwx39]; exact (Below.refl _ _).alloc (Nat.le_refl _) _
        have ht11x39 : Two x39 x29.heap.size 24 (.int .i64 0) (.slice none 0 0) := by rw [hwx39]; exact Two.new _ _ _ _
        have hbx39 := bstep hbx29 hDx39
        have hzx39 := hDx39.size
        have ht10x39 := ht10x29.step hDx39
        have hB1bx39 := hbx39
        have hk11 := ht11x39.lt
        go_simp
        rw [← hwx39]
        clear hwx39
        refine hK.out _ _ (hbx39) (fun hHeld => ?_)
        clear hK K
        try simp only [Act.put, List.setIfInBounds_toArray, List.set_cons_zero, List.set_cons_succ]
        refine wpAnyH_ready (rs := [4]) (by kernel_rfl) (by simp) ?_
        refine AllReadyH.cons (o := { dst := some 44, op := Go.Op.call { callee := Go.Callee.value (Go.Operand.func 23), args := #[Go.Operand.tmp 40, Go.Operand.tmp 43], argTypes := #[44, 22] }, type := 24, pos := "outright.go:94", after := #[{ on := 0, ground := Go.Ground.data }, { on := 3, ground := Go.Ground.data }], guard := none }) rfl (fun K hK => ?_) AllReadyH.nil
        · go_simp
          refine (made_any x39 x a m cap (l.take m) (hsT.below (hB1bx39)) hwT hx0 (by omega) N HN.out).mono ?_
          unfold MadeS
          rw [← HK.out]
          rintro e x40 ⟨g4, c4, R4, rfl, ho4x40, hWd4, hR4, hDx40⟩
          have hbx40 := bstep hbx39 hDx40
          have hzx40 := hDx40.size
          have ht10x40 := ht10x39.step hDx40
          have ht11x40 := ht11x39.step hDx40
          have hB1bx40 := hbx40
          have hq4 := fun q e => own_blk ho4x40 (k := q) e
          go_wp2_with fail
          refine hK.out _ _ (hbx40) (fun hHeld => ?_)
          clear hK K
          try simp only [Act.put, List.setIfInBounds_toArray, List.set_cons_zero, List.set_cons_succ]
          refine wpAnyH_ready (rs := [9]) (by kernel_rfl) (by simp) ?_
          refine AllReadyH.cons (o := { dst := some 49, op := Go.Op.call { callee := Go.Callee.value (Go.Operand.func 23), args := #[Go.Operand.tmp 45, Go.Operand.tmp 48], argTypes := #[44, 22] }, type := 24, pos := "outright.go:94", after := #[{ on := 5, ground := Go.Ground.data }, { on := 8, ground := Go.Ground.data }, { on := 4, ground := Go.Ground.chain }], guard := none }) rfl (fun K hK => ?_) AllReadyH.nil
          · go_simp
            refine (made_any x40 x a2 m cap2 (l2.take m) (hsT2.below (hB1bx40)) hwT2 hx0 (by omega) N HN.out).mono ?_
            unfold MadeS
            rw [← HK.out]
            rintro e x41 ⟨g9, c9, R9, rfl, ho9x41, hWd9, hR9, hDx41⟩
            have hbx41 := bstep hbx40 hDx41
            have hzx41 := hDx41.size
            have ho4x41 := ownsRow_below ho4x40 hDx41
            have ht10x41 := ht10x40.step hDx41
            have ht11x41 := ht11x40.step hDx41
            have hB1bx41 := hbx41
            have hq9 := fun q e => own_blk ho9x41 (k := q) e
            go_wp2_with fail
            refine hK.out _ _ (hbx41) (fun hHeld => ?_)
            clear hK K
            try simp only [Act.put, List.setIfInBounds_toArray, List.set_cons_zero, List.set_cons_succ]
            refine wpAnyH_ready (rs := [12]) (by kernel_rfl) (by simp) ?_
            refine AllReadyH.cons (o := { dst := none, op := Go.Op.store 24 (Go.Operand.tmp 8) (Go.Operand.tmp 44), type := 0, pos := "outright.go:94", after := #[{ on := 10, ground := Go.Ground.data }, { on := 4, ground := Go.Ground.data }, { on := 9, ground := Go.Ground.chain }, { on := 0, ground := Go.Ground.phase }, { on := 1, ground := Go.Ground.phase }, { on := 2, ground := Go.Ground.phase }, { on := 3, ground := Go.Ground.phase }, { on := 4, ground := Go.Ground.phase }, { on := 5, ground := Go.Ground.textOnly Go.Departure.lateStores }, { on := 6, ground := Go.Ground.textOnly Go.Departure.lateStores }, { on := 7, ground := Go.Ground.textOnly Go.Departure.lateStores }, { on := 8, ground := Go.Ground.textOnly Go.Departure.lateStoresUnsure }, { on := 9, ground := Go.Ground.textOnly Go.Departure.lateStoresUnsure }, { on := 10, ground := Go.Ground.phase }, { on := 11, ground := Go.Ground.phase }], guard := none }) rfl (fun K hK => ?_) AllReadyH.nil
            · have q0 := ht10x41.c0
              have q1 := ht10x41.c1
              have q2 := ht10x41.f0
              have q3 := ht10x41.f1
              obtain ⟨x42, hwx42⟩ : ∃ wz, wz = ((x41.setCell ⟨x0.heap.size, 0, none⟩ (.int .i64 (N : Int))).setCell ⟨x0.heap.size, 1, none⟩ (.slice g4 Kw c4)) := ⟨_, rfl⟩
              have hbx42 : Below w.heap.size w x42 := by rw [hwx42]; exact (hbx41.setCell (p := ⟨x0.heap.size, 0, none⟩) (by show w.heap.size ≤ x0.heap.size; omega) _).setCell (p := ⟨x0.heap.size, 1, none⟩) (by show w.heap.size ≤ x0.heap.size; omega) _
              have ht10x42 : Two x42 x0.heap.size 24 (.int .i64 (N : Int)) (.slice g4 Kw c4) := by rw [hwx42]; exact put1 (put0 ht10x41 _) _
              have ht11x42 : Two x42 x29.heap.size 24 (.int .i64 0) (.slice none 0 0) := by rw [hwx42]; exact two_set (two_set ht11x41 (by omega) _ _) (by omega) _ _
              have ho4x42 : x42.ownsRow x39.heap.size 30 1 (.slice g4 Kw c4) Kw (R4.map (Value.int .u64)) := by rw [hwx42]; exact own_ne (own_ne ho4x41 (fun q e => by have := hq4 q e; omega) _ _) (fun q e => by have := hq4 q e; omega) _ _
              have ho9x42 : x42.ownsRow x40.heap.size 30 1 (.slice g9 Kw c9) Kw (R9.map (Value.int .u64)) := by rw [hwx42]; exact own_ne (own_ne ho9x41 (fun q e => by have := hq9 q e; omega) _ _) (fun q e => by have := hq9 q e; omega) _ _
              go_simp
              rw [← hwx42]
              clear hwx42 q0 q1 q2 q3
              refine hK.out _ _ (hbx42) (fun hHeld => ?_)
              clear hK K
              try simp only [Act.put, List.setIfInBounds_toArray, List.set_cons_zero, List.set_cons_succ]
              refine wpAnyH_ready (rs := [13]) (by kernel_rfl) (by simp) ?_
              refine AllReadyH.cons (o := { dst := none, op := Go.Op.store 24 (Go.Operand.tmp 9) (Go.Operand.tmp 49), type := 0, pos := "outright.go:94", after := #[{ on := 11, ground := Go.Ground.data }, { on := 9, ground := Go.Ground.data }, { on := 12, ground := Go.Ground.chain }, { on := 0, ground := Go.Ground.phase }, { on := 1, ground := Go.Ground.phase }, { on := 2, ground := Go.Ground.phase }, { on := 3, ground := Go.Ground.phase }, { on := 4, ground := Go.Ground.phase }, { on := 5, ground := Go.Ground.phase }, { on := 6, ground := Go.Ground.phase }, { on := 7, ground := Go.Ground.phase }, { on := 8, ground := Go.Ground.phase }, { on := 9, ground := Go.Ground.phase }, { on := 10, ground := Go.Ground.phase }, { on := 11, ground := Go.Ground.phase }, { on := 12, ground := Go.Ground.phase }], guard := none }) rfl (fun K hK => ?_) AllReadyH.nil
              · have q0 := ht11x42.c0
                have q1 := ht11x42.c1
                have q2 := ht11x42.f0
                have q3 := ht11x42.f1
                obtain ⟨x43, hwx43⟩ : ∃ wz, wz = ((x42.setCell ⟨x29.heap.size, 0, none⟩ (.int .i64 (N : Int))).setCell ⟨x29.heap.size, 1, none⟩ (.slice g9 Kw c9)) := ⟨_, rfl⟩
                have hbx43 : Below w.heap.size w x43 := by rw [hwx43]; exact (hbx42.setCell (p := ⟨x29.heap.size, 0, none⟩) (by show w.heap.size ≤ x29.heap.size; omega) _).setCell (p := ⟨x29.heap.size, 1, none⟩) (by show w.heap.size ≤ x29.heap.size; omega) _
                have ht11x43 : Two x43 x29.heap.size 24 (.int .i64 (N : Int)) (.slice g9 Kw c9) := by rw [hwx43]; exact put1 (put0 ht11x42 _) _
                have ht10x43 : Two x43 x0.heap.size 24 (.int .i64 (N : Int)) (.slice g4 Kw c4) := by rw [hwx43]; exact two_set (two_set ht10x42 (by omega) _ _) (by omega) _ _
                have ho4x43 : x43.ownsRow x39.heap.size 30 1 (.slice g4 Kw c4) Kw (R4.map (Value.int .u64)) := by rw [hwx43]; exact own_ne (own_ne ho4x42 (fun q e => by have := hq4 q e; omega) _ _) (fun q e => by have := hq4 q e; omega) _ _
                have ho9x43 : x43.ownsRow x40.heap.size 30 1 (.slice g9 Kw c9) Kw (R9.map (Value.int .u64)) := by rw [hwx43]; exact own_ne (own_ne ho9x42 (fun q e => by have := hq9 q e; omega) _ _) (fun q e => by have := hq9 q e; omega) _ _
                go_simp
                rw [← hwx43]
                clear hwx43 q0 q1 q2 q3
                refine hK.out _ _ (hbx43) (fun hHeld => ?_)
                clear hK K
                try simp only [Act.put, List.setIfInBounds_toArray, List.set_cons_zero, List.set_cons_succ]
                refine wpAnyH_done (by kernel_rfl) ?_ _
                refine NoPanic.normal ?_
                have hTb := hT.step hbx43
                go_wp2_with fail
                go_meet
                case rel => exact ⟨_, _, g4, c4, R4, g9, c9, R9, rfl, rfl, ⟨hbx43, ⟨own_sl ho4x43, hWd4, by omega, by omega, hTb⟩, ht10x43⟩, ⟨hbx43, ⟨own_sl ho9x43, hWd9, by omega, by omega, hTb⟩, ht11x43⟩, hR4, hR9⟩
    · obtain ⟨x44, hwx44⟩ : ∃ wz, wz = x0.alloc (.cells #[.int .i64 0, .slice none 0 0] 24) := ⟨_, rfl⟩
      have hDx44 : Below x0.heap.size x0 x44 := by rw [hwx44]; exact (Below.refl _ _).alloc (Nat.le_refl _) _
      have ht11x44 : Two x44 x0.heap.size 24 (.int .i64 0) (.slice none 0 0) := by rw [hwx44]; exact Two.new _ _ _ _
      have hbx44 := bstep hbx0 hDx44
      have hzx44 := hDx44.size
      have hB1bx44 := hbx44
      have hk11 := ht11x44.lt
      go_simp
      rw [← hwx44]
      clear hwx44
      refine hK.out _ _ (hbx44) (fun hHeld => ?_)
      clear hK K
      try simp only [Act.put, List.setIfInBounds_toArray, List.set_cons_zero, List.set_cons_succ]
      refine wpAnyH_ready (rs := [4, 10]) (by kernel_rfl) (by simp) ?_
      refine AllReadyH.cons (o := { dst := some 44, op := Go.Op.call { callee := Go.Callee.value (Go.Operand.func 23), args := #[Go.Operand.tmp 40, Go.Operand.tmp 43], argTypes := #[44, 22] }, type := 24, pos := "outright.go:94", after := #[{ on := 0, ground := Go.Ground.data }, { on := 3, ground := Go.Ground.data }], guard := none }) rfl (fun K hK => ?_) (AllReadyH.cons (o := { dst := some 8, op := Go.Op.alloc 24, type := 0, pos := "outright.go:94", after := #[], guard := none }) rfl (fun K hK => ?_) AllReadyH.nil)
      · go_simp
        refine (made_any x44 x a m cap (l.take m) (hsT.below (hB1bx44)) hwT hx0 (by omega) N HN.out).mono ?_
        unfold MadeS
        rw [← HK.out]
        rintro e x45 ⟨g4, c4, R4, rfl, ho4x45, hWd4, hR4, hDx45⟩
        have hbx45 := bstep hbx44 hDx45
        have hzx45 := hDx45.size
        have ht11x45 := ht11x44.step hDx45
        have hB1bx45 := hbx45
        have hq4 := fun q e => own_blk ho4x45 (k := q) e
        go_wp2_with fail
        refine hK.out _ _ (hbx45) (fun hHeld => ?_)
        clear hK K
        try simp only [Act.put, List.setIfInBounds_toArray, List.set_cons_zero, List.set_cons_succ]
        refine wpAnyH_ready (rs := [9, 10]) (by kernel_rfl) (by simp) ?_
        refine AllReadyH.cons (o := { dst := some 49, op := Go.Op.call { callee := Go.Callee.value (Go.Operand.func 23), args := #[Go.Operand.tmp 45, Go.Operand.tmp 48], argTypes := #[44, 22] }, type := 24, pos := "outright.go:94", after := #[{ on := 5, ground := Go.Ground.data }, { on := 8, ground := Go.Ground.data }, { on := 4, ground := Go.Ground.chain }], guard := none }) rfl (fun K hK => ?_) (AllReadyH.cons (o := { dst := some 8, op := Go.Op.alloc 24, type := 0, pos := "outright.go:94", after := #[], guard := none }) rfl (fun K hK => ?_) AllReadyH.nil)
        · go_simp
          refine (made_any x45 x a2 m cap2 (l2.take m) (hsT2.below (hB1bx45)) hwT2 hx0 (by omega) N HN.out).mono ?_
          unfold MadeS
          rw [← HK.out]
          rintro e x46 ⟨g9, c9, R9, rfl, ho9x46, hWd9, hR9, hDx46⟩
          have hbx46 := bstep hbx45 hDx46
          have hzx46 := hDx46.size
          have ho4x46 := ownsRow_below ho4x45 hDx46
          have ht11x46 := ht11x45.step hDx46
          have hB1bx46 := hbx46
          have hq9 := fun q e => own_blk ho9x46 (k := q) e
          go_wp2_with fail
          refine hK.out _ _ (hbx46) (fun hHeld => ?_)
          clear hK K
          try simp only [Act.put, List.setIfInBounds_toArray, List.set_cons_zero, List.set_cons_succ]
          refine wpAnyH_ready (rs := [10]) (by kernel_rfl) (by simp) ?_
          refine AllReadyH.cons (o := { dst := some 8, op := Go.Op.alloc 24, type := 0, pos := "outright.go:94", after := #[], guard := none }) rfl (fun K hK => ?_) AllReadyH.nil
          · obtain ⟨x47, hwx47⟩ : ∃ wz, wz = x46.alloc (.cells #[.int .i64 0, .slice none 0 0] 24) := ⟨_, rfl⟩
            have hDx47 : Below x46.heap.size x46 x47 := by rw [hwx47]; exact (Below.refl _ _).alloc (Nat.le_refl _) _
            have ht10x47 : Two x47 x46.heap.size 24 (.int .i64 0) (.slice none 0 0) := by rw [hwx47]; exact Two.new _ _ _ _
            have hbx47 := bstep hbx46 hDx47
            have hzx47 := hDx47.size
            have ho4x47 := ownsRow_below ho4x46 hDx47
            have ho9x47 := ownsRow_below ho9x46 hDx47
            have ht11x47 := ht11x46.step hDx47
            have hB1bx47 := hbx47
            have hk10 := ht10x47.lt
            go_simp
            rw [← hwx47]
            clear hwx47
            refine hK.out _ _ (hbx47) (fun hHeld => ?_)
            clear hK K
            try simp only [Act.put, List.setIfInBounds_toArray, List.set_cons_zero, List.set_cons_succ]
            refine wpAnyH_ready (rs := [12]) (by kernel_rfl) (by simp) ?_
            refine AllReadyH.cons (o := { dst := none, op := Go.Op.store 24 (Go.Operand.tmp 8) (Go.Operand.tmp 44), type := 0, pos := "outright.go:94", after := #[{ on := 10, ground := Go.Ground.data }, { on := 4, ground := Go.Ground.data }, { on := 9, ground := Go.Ground.chain }, { on := 0, ground := Go.Ground.phase }, { on := 1, ground := Go.Ground.phase }, { on := 2, ground := Go.Ground.phase }, { on := 3, ground := Go.Ground.phase }, { on := 4, ground := Go.Ground.phase }, { on := 5, ground := Go.Ground.textOnly Go.Departure.lateStores }, { on := 6, ground := Go.Ground.textOnly Go.Departure.lateStores }, { on := 7, ground := Go.Ground.textOnly Go.Departure.lateStores }, { on := 8, ground := Go.Ground.textOnly Go.Departure.lateStoresUnsure }, { on := 9, ground := Go.Ground.textOnly Go.Departure.lateStoresUnsure }, { on := 10, ground := Go.Ground.phase }, { on := 11, ground := Go.Ground.phase }], guard := none }) rfl (fun K hK => ?_) AllReadyH.nil
            · have q0 := ht10x47.c0
              have q1 := ht10x47.c1
              have q2 := ht10x47.f0
              have q3 := ht10x47.f1
              obtain ⟨x48, hwx48⟩ : ∃ wz, wz = ((x47.setCell ⟨x46.heap.size, 0, none⟩ (.int .i64 (N : Int))).setCell ⟨x46.heap.size, 1, none⟩ (.slice g4 Kw c4)) := ⟨_, rfl⟩
              have hbx48 : Below w.heap.size w x48 := by rw [hwx48]; exact (hbx47.setCell (p := ⟨x46.heap.size, 0, none⟩) (by show w.heap.size ≤ x46.heap.size; omega) _).setCell (p := ⟨x46.heap.size, 1, none⟩) (by show w.heap.size ≤ x46.heap.size; omega) _
              have ht10x48 : Two x48 x46.heap.size 24 (.int .i64 (N : Int)) (.slice g4 Kw c4) := by rw [hwx48]; exact put1 (put0 ht10x47 _) _
              have ht11x48 : Two x48 x0.heap.size 24 (.int .i64 0) (.slice none 0 0) := by rw [hwx48]; exact two_set (two_set ht11x47 (by omega) _ _) (by omega) _ _
              have ho4x48 : x48.ownsRow x44.heap.size 30 1 (.slice g4 Kw c4) Kw (R4.map (Value.int .u64)) := by rw [hwx48]; exact own_ne (own_ne ho4x47 (fun q e => by have := hq4 q e; omega) _ _) (fun q e => by have := hq4 q e; omega) _ _
              have ho9x48 : x48.ownsRow x45.heap.size 30 1 (.slice g9 Kw c9) Kw (R9.map (Value.int .u64)) := by rw [hwx48]; exact own_ne (own_ne ho9x47 (fun q e => by have := hq9 q e; omega) _ _) (fun q e => by have := hq9 q e; omega) _ _
              go_simp
              rw [← hwx48]
              clear hwx48 q0 q1 q2 q3
              refine hK.out _ _ (hbx48) (fun hHeld => ?_)
              clear hK K
              try simp only [Act.put, List.setIfInBounds_toArray, List.set_cons_zero, List.set_cons_succ]
              refine wpAnyH_ready (rs := [13]) (by kernel_rfl) (by simp) ?_
              refine AllReadyH.cons (o := { dst := none, op := Go.Op.store 24 (Go.Operand.tmp 9) (Go.Operand.tmp 49), type := 0, pos := "outright.go:94", after := #[{ on := 11, ground := Go.Ground.data }, { on := 9, ground := Go.Ground.data }, { on := 12, ground := Go.Ground.chain }, { on := 0, ground := Go.Ground.phase }, { on := 1, ground := Go.Ground.phase }, { on := 2, ground := Go.Ground.phase }, { on := 3, ground := Go.Ground.phase }, { on := 4, ground := Go.Ground.phase }, { on := 5, ground := Go.Ground.phase }, { on := 6, ground := Go.Ground.phase }, { on := 7, ground := Go.Ground.phase }, { on := 8, ground := Go.Ground.phase }, { on := 9, ground := Go.Ground.phase }, { on := 10, ground := Go.Ground.phase }, { on := 11, ground := Go.Ground.phase }, { on := 12, ground := Go.Ground.phase }], guard := none }) rfl (fun K hK => ?_) AllReadyH.nil
              · have q0 := ht11x48.c0
                have q1 := ht11x48.c1
                have q2 := ht11x48.f0
                have q3 := ht11x48.f1
                obtain ⟨x49, hwx49⟩ : ∃ wz, wz = ((x48.setCell ⟨x0.heap.size, 0, none⟩ (.int .i64 (N : Int))).setCell ⟨x0.heap.size, 1, none⟩ (.slice g9 Kw c9)) := ⟨_, rfl⟩
                have hbx49 : Below w.heap.size w x49 := by rw [hwx49]; exact (hbx48.setCell (p := ⟨x0.heap.size, 0, none⟩) (by show w.heap.size ≤ x0.heap.size; omega) _).setCell (p := ⟨x0.heap.size, 1, none⟩) (by show w.heap.size ≤ x0.heap.size; omega) _
                have ht11x49 : Two x49 x0.heap.size 24 (.int .i64 (N : Int)) (.slice g9 Kw c9) := by rw [hwx49]; exact put1 (put0 ht11x48 _) _
                have ht10x49 : Two x49 x46.heap.size 24 (.int .i64 (N : Int)) (.slice g4 Kw c4) := by rw [hwx49]; exact two_set (two_set ht10x48 (by omega) _ _) (by omega) _ _
                have ho4x49 : x49.ownsRow x44.heap.size 30 1 (.slice g4 Kw c4) Kw (R4.map (Value.int .u64)) := by rw [hwx49]; exact own_ne (own_ne ho4x48 (fun q e => by have := hq4 q e; omega) _ _) (fun q e => by have := hq4 q e; omega) _ _
                have ho9x49 : x49.ownsRow x45.heap.size 30 1 (.slice g9 Kw c9) Kw (R9.map (Value.int .u64)) := by rw [hwx49]; exact own_ne (own_ne ho9x48 (fun q e => by have := hq9 q e; omega) _ _) (fun q e => by have := hq9 q e; omega) _ _
                go_simp
                rw [← hwx49]
                clear hwx49 q0 q1 q2 q3
                refine hK.out _ _ (hbx49) (fun hHeld => ?_)
                clear hK K
                try simp only [Act.put, List.setIfInBounds_toArray, List.set_cons_zero, List.set_cons_succ]
                refine wpAnyH_done (by kernel_rfl) ?_ _
                refine NoPanic.normal ?_
                have hTb := hT.step hbx49
                go_wp2_with fail
                go_meet
                case rel => exact ⟨_, _, g4, c4, R4, g9, c9, R9, rfl, rfl, ⟨hbx49, ⟨own_sl ho4x49, hWd4, by omega, by omega, hTb⟩, ht10x49⟩, ⟨hbx49, ⟨own_sl ho9x49, hWd9, by omega, by omega, hTb⟩, ht11x49⟩, hR4, hR9⟩
        · obtain ⟨x50, hwx50⟩ : ∃ wz, wz = x45.alloc (.cells #[.int .i64 0, .slice none 0 0] 24) := ⟨_, rfl⟩
          have hDx50 : Below x45.heap.size x45 x50 := by rw [hwx50]; exact (Below.refl _ _).alloc (Nat.le_refl _) _
          have ht10x50 : Two x50 x45.heap.size 24 (.int .i64 0) (.slice none 0 0) := by rw [hwx50]; exact Two.new _ _ _ _
          have hbx50 := bstep hbx45 hDx50
          have hzx50 := hDx50.size
          have ho4x50 := ownsRow_below ho4x45 hDx50
          have ht11x50 := ht11x45.step hDx50
          have hB1bx50 := hbx50
          have hk10 := ht10x50.lt
          go_simp
          rw [← hwx50]
          clear hwx50
          refine hK.out _ _ (hbx50) (fun hHeld => ?_)
          clear hK K
          try simp only [Act.put, List.setIfInBounds_toArray, List.set_cons_zero, List.set_cons_succ]
          refine wpAnyH_ready (rs := [9]) (by kernel_rfl) (by simp) ?_
          refine AllReadyH.cons (o := { dst := some 49, op := Go.Op.call { callee := Go.Callee.value (Go.Operand.func 23), args := #[Go.Operand.tmp 45, Go.Operand.tmp 48], argTypes := #[44, 22] }, type := 24, pos := "outright.go:94", after := #[{ on := 5, ground := Go.Ground.data }, { on := 8, ground := Go.Ground.data }, { on := 4, ground := Go.Ground.chain }], guard := none }) rfl (fun K hK => ?_) AllReadyH.nil
          · go_simp
            refine (made_any x50 x a2 m cap2 (l2.take m) (hsT2.below (hB1bx50)) hwT2 hx0 (by omega) N HN.out).mono ?_
            unfold MadeS
            rw [← HK.out]
            rintro e x51 ⟨g9, c9, R9, rfl, ho9x51, hWd9, hR9, hDx51⟩
            have hbx51 := bstep hbx50 hDx51
            have hzx51 := hDx51.size
            have ho4x51 := ownsRow_below ho4x50 hDx51
            have ht11x51 := ht11x50.step hDx51
            have ht10x51 := ht10x50.step hDx51
            have hB1bx51 := hbx51
            have hq9 := fun q e => own_blk ho9x51 (k := q) e
            go_wp2_with fail
            refine hK.out _ _ (hbx51) (fun hHeld => ?_)
            clear hK K
            try simp only [Act.put, List.setIfInBounds_toArray, List.set_cons_zero, List.set_cons_succ]
            refine wpAnyH_ready (rs := [12]) (by kernel_rfl) (by simp) ?_
            refine AllReadyH.cons (o := { dst := none, op := Go.Op.store 24 (Go.Operand.tmp 8) (Go.Operand.tmp 44), type := 0, pos := "outright.go:94", after := #[{ on := 10, ground := Go.Ground.data }, { on := 4, ground := Go.Ground.data }, { on := 9, ground := Go.Ground.chain }, { on := 0, ground := Go.Ground.phase }, { on := 1, ground := Go.Ground.phase }, { on := 2, ground := Go.Ground.phase }, { on := 3, ground := Go.Ground.phase }, { on := 4, ground := Go.Ground.phase }, { on := 5, ground := Go.Ground.textOnly Go.Departure.lateStores }, { on := 6, ground := Go.Ground.textOnly Go.Departure.lateStores }, { on := 7, ground := Go.Ground.textOnly Go.Departure.lateStores }, { on := 8, ground := Go.Ground.textOnly Go.Departure.lateStoresUnsure }, { on := 9, ground := Go.Ground.textOnly Go.Departure.lateStoresUnsure }, { on := 10, ground := Go.Ground.phase }, { on := 11, ground := Go.Ground.phase }], guard := none }) rfl (fun K hK => ?_) AllReadyH.nil
            · have q0 := ht10x51.c0
              have q1 := ht10x51.c1
              have q2 := ht10x51.f0
              have q3 := ht10x51.f1
              obtain ⟨x52, hwx52⟩ : ∃ wz, wz = ((x51.setCell ⟨x45.heap.size, 0, none⟩ (.int .i64 (N : Int))).setCell ⟨x45.heap.size, 1, none⟩ (.slice g4 Kw c4)) := ⟨_, rfl⟩
              have hbx52 : Below w.heap.size w x52 := by rw [hwx52]; exact (hbx51.setCell (p := ⟨x45.heap.size, 0, none⟩) (by show w.heap.size ≤ x45.heap.size; omega) _).setCell (p := ⟨x45.heap.size, 1, none⟩) (by show w.heap.size ≤ x45.heap.size; omega) _
              have ht10x52 : Two x52 x45.heap.size 24 (.int .i64 (N : Int)) (.slice g4 Kw c4) := by rw [hwx52]; exact put1 (put0 ht10x51 _) _
              have ht11x52 : Two x52 x0.heap.size 24 (.int .i64 0) (.slice none 0 0) := by rw [hwx52]; exact two_set (two_set ht11x51 (by omega) _ _) (by omega) _ _
              have ho4x52 : x52.ownsRow x44.heap.size 30 1 (.slice g4 Kw c4) Kw (R4.map (Value.int .u64)) := by rw [hwx52]; exact own_ne (own_ne ho4x51 (fun q e => by have := hq4 q e; omega) _ _) (fun q e => by have := hq4 q e; omega) _ _
              have ho9x52 : x52.ownsRow x50.heap.size 30 1 (.slice g9 Kw c9) Kw (R9.map (Value.int .u64)) := by rw [hwx52]; exact own_ne (own_ne ho9x51 (fun q e => by have := hq9 q e; omega) _ _) (fun q e => by have := hq9 q e; omega) _ _
              go_simp
              rw [← hwx52]
              clear hwx52 q0 q1 q2 q3
              refine hK.out _ _ (hbx52) (fun hHeld => ?_)
              clear hK K
              try simp only [Act.put, List.setIfInBounds_toArray, List.set_cons_zero, List.set_cons_succ]
              refine wpAnyH_ready (rs := [13]) (by kernel_rfl) (by simp) ?_
              refine AllReadyH.cons (o := { dst := none, op := Go.Op.store 24 (Go.Operand.tmp 9) (Go.Operand.tmp 49), type := 0, pos := "outright.go:94", after := #[{ on := 11, ground := Go.Ground.data }, { on := 9, ground := Go.Ground.data }, { on := 12, ground := Go.Ground.chain }, { on := 0, ground := Go.Ground.phase }, { on := 1, ground := Go.Ground.phase }, { on := 2, ground := Go.Ground.phase }, { on := 3, ground := Go.Ground.phase }, { on := 4, ground := Go.Ground.phase }, { on := 5, ground := Go.Ground.phase }, { on := 6, ground := Go.Ground.phase }, { on := 7, ground := Go.Ground.phase }, { on := 8, ground := Go.Ground.phase }, { on := 9, ground := Go.Ground.phase }, { on := 10, ground := Go.Ground.phase }, { on := 11, ground := Go.Ground.phase }, { on := 12, ground := Go.Ground.phase }], guard := none }) rfl (fun K hK => ?_) AllReadyH.nil
              · have q0 := ht11x52.c0
                have q1 := ht11x52.c1
                have q2 := ht11x52.f0
                have q3 := ht11x52.f1
                obtain ⟨x53, hwx53⟩ : ∃ wz, wz = ((x52.setCell ⟨x0.heap.size, 0, none⟩ (.int .i64 (N : Int))).setCell ⟨x0.heap.size, 1, none⟩ (.slice g9 Kw c9)) := ⟨_, rfl⟩
                have hbx53 : Below w.heap.size w x53 := by rw [hwx53]; exact (hbx52.setCell (p := ⟨x0.heap.size, 0, none⟩) (by show w.heap.size ≤ x0.heap.size; omega) _).setCell (p := ⟨x0.heap.size, 1, none⟩) (by show w.heap.size ≤ x0.heap.size; omega) _
                have ht11x53 : Two x53 x0.heap.size 24 (.int .i64 (N : Int)) (.slice g9 Kw c9) := by rw [hwx53]; exact put1 (put0 ht11x52 _) _
                have ht10x53 : Two x53 x45.heap.size 24 (.int .i64 (N : Int)) (.slice g4 Kw c4) := by rw [hwx53]; exact two_set (two_set ht10x52 (by omega) _ _) (by omega) _ _
                have ho4x53 : x53.ownsRow x44.heap.size 30 1 (.slice g4 Kw c4) Kw (R4.map (Value.int .u64)) := by rw [hwx53]; exact own_ne (own_ne ho4x52 (fun q e => by have := hq4 q e; omega) _ _) (fun q e => by have := hq4 q e; omega) _ _
                have ho9x53 : x53.ownsRow x50.heap.size 30 1 (.slice g9 Kw c9) Kw (R9.map (Value.int .u64)) := by rw [hwx53]; exact own_ne (own_ne ho9x52 (fun q e => by have := hq9 q e; omega) _ _) (fun q e => by have := hq9 q e; omega) _ _
                go_simp
                rw [← hwx53]
                clear hwx53 q0 q1 q2 q3
                refine hK.out _ _ (hbx53) (fun hHeld => ?_)
                clear hK K
                try simp only [Act.put, List.setIfInBounds_toArray, List.set_cons_zero, List.set_cons_succ]
                refine wpAnyH_done (by kernel_rfl) ?_ _
                refine NoPanic.normal ?_
                have hTb := hT.step hbx53
                go_wp2_with fail
                go_meet
                case rel => exact ⟨_, _, g4, c4, R4, g9, c9, R9, rfl, rfl, ⟨hbx53, ⟨own_sl ho4x53, hWd4, by omega, by omega, hTb⟩, ht10x53⟩, ⟨hbx53, ⟨own_sl ho9x53, hWd9, by omega, by omega, hTb⟩, ht11x53⟩, hR4, hR9⟩
      · obtain ⟨x54, hwx54⟩ : ∃ wz, wz = x44.alloc (.cells #[.int .i64 0, .slice none 0 0] 24) := ⟨_, rfl⟩
        have hDx54 : Below x44.heap.size x44 x54 := by rw [hwx54]; exact (Below.refl _ _).alloc (Nat.le_refl _) _
        have ht10x54 : Two x54 x44.heap.size 24 (.int .i64 0) (.slice none 0 0) := by rw [hwx54]; exact Two.new _ _ _ _
        have hbx54 := bstep hbx44 hDx54
        have hzx54 := hDx54.size
        have ht11x54 := ht11x44.step hDx54
        have hB1bx54 := hbx54
        have hk10 := ht10x54.lt
        go_simp
        rw [← hwx54]
        clear hwx54
        refine hK.out _ _ (hbx54) (fun hHeld => ?_)
        clear hK K
        try simp only [Act.put, List.setIfInBounds_toArray, List.set_cons_zero, List.set_cons_succ]
        refine wpAnyH_ready (rs := [4]) (by kernel_rfl) (by simp) ?_
        refine AllReadyH.cons (o := { dst := some 44, op := Go.Op.call { callee := Go.Callee.value (Go.Operand.func 23), args := #[Go.Operand.tmp 40, Go.Operand.tmp 43], argTypes := #[44, 22] }, type := 24, pos := "outright.go:94", after := #[{ on := 0, ground := Go.Ground.data }, { on := 3, ground := Go.Ground.data }], guard := none }) rfl (fun K hK => ?_) AllReadyH.nil
        · go_simp
          refine (made_any x54 x a m cap (l.take m) (hsT.below (hB1bx54)) hwT hx0 (by omega) N HN.out).mono ?_
          unfold MadeS
          rw [← HK.out]
          rintro e x55 ⟨g4, c4, R4, rfl, ho4x55, hWd4, hR4, hDx55⟩
          have hbx55 := bstep hbx54 hDx55
          have hzx55 := hDx55.size
          have ht11x55 := ht11x54.step hDx55
          have ht10x55 := ht10x54.step hDx55
          have hB1bx55 := hbx55
          have hq4 := fun q e => own_blk ho4x55 (k := q) e
          go_wp2_with fail
          refine hK.out _ _ (hbx55) (fun hHeld => ?_)
          clear hK K
          try simp only [Act.put, List.setIfInBounds_toArray, List.set_cons_zero, List.set_cons_succ]
          refine wpAnyH_ready (rs := [9]) (by kernel_rfl) (by simp) ?_
          refine AllReadyH.cons (o := { dst := some 49, op := Go.Op.call { callee := Go.Callee.value (Go.Operand.func 23), args := #[Go.Operand.tmp 45, Go.Operand.tmp 48], argTypes := #[44, 22] }, type := 24, pos := "outright.go:94", after := #[{ on := 5, ground := Go.Ground.data }, { on := 8, ground := Go.Ground.data }, { on := 4, ground := Go.Ground.chain }], guard := none }) rfl (fun K hK => ?_) AllReadyH.nil
          · go_simp
            refine (made_any x55 x a2 m cap2 (l2.take m) (hsT2.below (hB1bx55)) hwT2 hx0 (by omega) N HN.out).mono ?_
            unfold MadeS
            rw [← HK.out]
            rintro e x56 ⟨g9, c9, R9, rfl, ho9x56, hWd9, hR9, hDx56⟩
            have hbx56 := bstep hbx55 hDx56
            have hzx56 := hDx56.size
            have ho4x56 := ownsRow_below ho4x55 hDx56
            have ht11x56 := ht11x55.step hDx56
            have ht10x56 := ht10x55.step hDx56
            have hB1bx56 := hbx56
            have hq9 := fun q e => own_blk ho9x56 (k := q) e
            go_wp2_with fail
            refine hK.out _ _ (hbx56) (fun hHeld => ?_)
            clear hK K
            try simp only [Act.put, List.setIfInBounds_toArray, List.set_cons_zero, List.set_cons_succ]
            refine wpAnyH_ready (rs := [12]) (by kernel_rfl) (by simp) ?_
            refine AllReadyH.cons (o := { dst := none, op := Go.Op.store 24 (Go.Operand.tmp 8) (Go.Operand.tmp 44), type := 0, pos := "outright.go:94", after := #[{ on := 10, ground := Go.Ground.data }, { on := 4, ground := Go.Ground.data }, { on := 9, ground := Go.Ground.chain }, { on := 0, ground := Go.Ground.phase }, { on := 1, ground := Go.Ground.phase }, { on := 2, ground := Go.Ground.phase }, { on := 3, ground := Go.Ground.phase }, { on := 4, ground := Go.Ground.phase }, { on := 5, ground := Go.Ground.textOnly Go.Departure.lateStores }, { on := 6, ground := Go.Ground.textOnly Go.Departure.lateStores }, { on := 7, ground := Go.Ground.textOnly Go.Departure.lateStores }, { on := 8, ground := Go.Ground.textOnly Go.Departure.lateStoresUnsure }, { on := 9, ground := Go.Ground.textOnly Go.Departure.lateStoresUnsure }, { on := 10, ground := Go.Ground.phase }, { on := 11, ground := Go.Ground.phase }], guard := none }) rfl (fun K hK => ?_) AllReadyH.nil
            · have q0 := ht10x56.c0
              have q1 := ht10x56.c1
              have q2 := ht10x56.f0
              have q3 := ht10x56.f1
              obtain ⟨x57, hwx57⟩ : ∃ wz, wz = ((x56.setCell ⟨x44.heap.size, 0, none⟩ (.int .i64 (N : Int))).setCell ⟨x44.heap.size, 1, none⟩ (.slice g4 Kw c4)) := ⟨_, rfl⟩
              have hbx57 : Below w.heap.size w x57 := by rw [hwx57]; exact (hbx56.setCell (p := ⟨x44.heap.size, 0, none⟩) (by show w.heap.size ≤ x44.heap.size; omega) _).setCell (p := ⟨x44.heap.size, 1, none⟩) (by show w.heap.size ≤ x44.heap.size; omega) _
              have ht10x57 : Two x57 x44.heap.size 24 (.int .i64 (N : Int)) (.slice g4 Kw c4) := by rw [hwx57]; exact put1 (put0 ht10x56 _) _
              have ht11x57 : Two x57 x0.heap.size 24 (.int .i64 0) (.slice none 0 0) := by rw [hwx57]; exact two_set (two_set ht11x56 (by omega) _ _) (by omega) _ _
              have ho4x57 : x57.ownsRow x54.heap.size 30 1 (.slice g4 Kw c4) Kw (R4.map (Value.int .u64)) := by rw [hwx57]; exact own_ne (own_ne ho4x56 (fun q e => by have := hq4 q e; omega) _ _) (fun q e => by have := hq4 q e; omega) _ _
              have ho9x57 : x57.ownsRow x55.heap.size 30 1 (.slice g9 Kw c9) Kw (R9.map (Value.int .u64)) := by rw [hwx57]; exact own_ne (own_ne ho9x56 (fun q e => by have := hq9 q e; omega) _ _) (fun q e => by have := hq9 q e; omega) _ _
              go_simp
              rw [← hwx57]
              clear hwx57 q0 q1 q2 q3
              refine hK.out _ _ (hbx57) (fun hHeld => ?_)
              clear hK K
              try simp only [Act.put, List.setIfInBounds_toArray, List.set_cons_zero, List.set_cons_succ]
              refine wpAnyH_ready (rs := [13]) (by kernel_rfl) (by simp) ?_
              refine AllReadyH.cons (o := { dst := none, op := Go.Op.store 24 (Go.Operand.tmp 9) (Go.Operand.tmp 49), type := 0, pos := "outright.go:94", after := #[{ on := 11, ground := Go.Ground.data }, { on := 9, ground := Go.Ground.data }, { on := 12, ground := Go.Ground.chain }, { on := 0, ground := Go.Ground.phase }, { on := 1, ground := Go.Ground.phase }, { on := 2, ground := Go.Ground.phase }, { on := 3, ground := Go.Ground.phase }, { on := 4, ground := Go.Ground.phase }, { on := 5, ground := Go.Ground.phase }, { on := 6, ground := Go.Ground.phase }, { on := 7, ground := Go.Ground.phase }, { on := 8, ground := Go.Ground.phase }, { on := 9, ground := Go.Ground.phase }, { on := 10, ground := Go.Ground.phase }, { on := 11, ground := Go.Ground.phase }, { on := 12, ground := Go.Ground.phase }], guard := none }) rfl (fun K hK => ?_) AllReadyH.nil
              · have q0 := ht11x57.c0
                have q1 := ht11x57.c1
                have q2 := ht11x57.f0
                have q3 := ht11x57.f1
                obtain ⟨x58, hwx58⟩ : ∃ wz, wz = ((x57.setCell ⟨x0.heap.size, 0, none⟩ (.int .i64 (N : Int))).setCell ⟨x0.heap.size, 1, none⟩ (.slice g9 Kw c9)) := ⟨_, rfl⟩
                have hbx58 : Below w.heap.size w x58 := by rw [hwx58]; exact (hbx57.setCell (p := ⟨x0.heap.size, 0, none⟩) (by show w.heap.size ≤ x0.heap.size; omega) _).setCell (p := ⟨x0.heap.size, 1, none⟩) (by show w.heap.size ≤ x0.heap.size; omega) _
                have ht11x58 : Two x58 x0.heap.size 24 (.int .i64 (N : Int)) (.slice g9 Kw c9) := by rw [hwx58]; exact put1 (put0 ht11x57 _) _
                have ht10x58 : Two x58 x44.heap.size 24 (.int .i64 (N : Int)) (.slice g4 Kw c4) := by rw [hwx58]; exact two_set (two_set ht10x57 (by omega) _ _) (by omega) _ _
                have ho4x58 : x58.ownsRow x54.heap.size 30 1 (.slice g4 Kw c4) Kw (R4.map (Value.int .u64)) := by rw [hwx58]; exact own_ne (own_ne ho4x57 (fun q e => by have := hq4 q e; omega) _ _) (fun q e => by have := hq4 q e; omega) _ _
                have ho9x58 : x58.ownsRow x55.heap.size 30 1 (.slice g9 Kw c9) Kw (R9.map (Value.int .u64)) := by rw [hwx58]; exact own_ne (own_ne ho9x57 (fun q e => by have := hq9 q e; omega) _ _) (fun q e => by have := hq9 q e; omega) _ _
                go_simp
                rw [← hwx58]
                clear hwx58 q0 q1 q2 q3
                refine hK.out _ _ (hbx58) (fun hHeld => ?_)
                clear hK K
                try simp only [Act.put, List.setIfInBounds_toArray, List.set_cons_zero, List.set_cons_succ]
                refine wpAnyH_done (by kernel_rfl) ?_ _
                refine NoPanic.normal ?_
                have hTb := hT.step hbx58
                go_wp2_with fail
                go_meet
                case rel => exact ⟨_, _, g4, c4, R4, g9, c9, R9, rfl, rfl, ⟨hbx58, ⟨own_sl ho4x58, hWd4, by omega, by omega, hTb⟩, ht10x58⟩, ⟨hbx58, ⟨own_sl ho9x58, hWd9, by omega, by omega, hTb⟩, ht11x58⟩, hR4, hR9⟩
  case rest =>
    obtain ⟨ab, bb, g, c, R, g2, c2, R2, rfl, rfl, hS, hM, hR, hR2⟩ := hcut
    have HR := Lib.hid (And.intro hR hR2)
    clear hR hR2 hsT hsT2 hwT hwT2
    have dS0 := hS.two.c0
    have dS1 := hS.two.c1
    have dM0 := hM.two.c0
    have dM1 := hM.two.c1
    have q := or_good hS.set hM.set (HR.out.1) (HR.out.2) HK.out (by omega)
    unfold GoodE at q
    go_wp2_with fail
    refine q.mono ?_
    rintro e vO ⟨g11, c11, R11, rfl, hI, hRt, hBt, hD⟩
    have HO := Lib.hid (And.intro hRt hBt)
    have hO := MdS.made hS.bel hD hI
    have hA9 : Below vO.heap.size vO (vO.alloc (.cells #[.int .i64 (N : Int), .slice g11 Kw c11] 24)) := (Below.refl _ _).alloc (Nat.le_refl _) _
    have hS := (hS.step hD).step hA9
    have hM := (hM.step hD).step hA9
    clear q hA9 hI hD hRt hBt dS0 dS1 dM0 dM1
    have dS0 := hS.two.c0
    have dS1 := hS.two.c1
    have dM0 := hM.two.c0
    have dM1 := hM.two.c1
    have q := and_good hS.set hM.set (HR.out.1) (HR.out.2) HK.out (by omega)
    unfold GoodE at q
    go_wp2_with fail
    refine q.mono ?_
    rintro e vA ⟨g12, c12, R12, rfl, hI, hRt, hBt, hD⟩
    have HA := Lib.hid (And.intro hRt hBt)
    have hA := MdS.made hS.bel hD hI
    have hA9 : Below vA.heap.size vA (vA.alloc (.cells #[.int .i64 (N : Int), .slice g12 Kw c12] 24)) := (Below.refl _ _).alloc (Nat.le_refl _) _
    have hS := (hS.step hD).step hA9
    have hM := (hM.step hD).step hA9
    have hO := (hO.step hD).step hA9
    clear q hA9 hI hD hRt hBt dS0 dS1 dM0 dM1
    have dS0 := hS.two.c0
    have dS1 := hS.two.c1
    have dM0 := hM.two.c0
    have dM1 := hM.two.c1
    have q := minus_good hS.set hM.set (HR.out.1) (HR.out.2) HK.out (by omega)
    unfold GoodE at q
    go_wp2_with fail
    refine q.mono ?_
    rintro e vV ⟨g13, c13, R13, rfl, hI, hRt, hBt, hD⟩
    have HV := Lib.hid (And.intro hRt hBt)
    have hV := MdS.made hS.bel hD hI
    have hA9 : Below vV.heap.size vV (vV.alloc (.cells #[.int .i64 (N : Int), .slice g13 Kw c13] 24)) := (Below.refl _ _).alloc (Nat.le_refl _) _
    have hS := (hS.step hD).step hA9
    have hM := (hM.step hD).step hA9
    have hO := (hO.step hD).step hA9
    have hA := (hA.step hD).step hA9
    clear q hA9 hI hD hRt hBt dS0 dS1 dM0 dM1
    have dS0 := hS.two.c0
    have dS1 := hS.two.c1
    have q := not_good hS.set (HR.out.1) HK.out (by omega)
    unfold GoodE at q
    go_wp2_with fail
    refine q.mono ?_
    rintro e vP ⟨g14, c14, R14, rfl, hI, hRt, hBt, hD⟩
    have HP := Lib.hid (And.intro hRt hBt)
    have hP := MdS.made hS.bel hD hI
    have hA9 : Below vP.heap.size vP (vP.alloc (.cells #[.int .i64 (N : Int), .slice g14 Kw c14] 24)) := (Below.refl _ _).alloc (Nat.le_refl _) _
    have hS := (hS.step hD).step hA9
    have hM := (hM.step hD).step hA9
    have hO := (hO.step hD).step hA9
    have hA := (hA.step hD).step hA9
    have hV := (hV.step hD).step hA9
    clear q hA9 hI hD hRt hBt dS0 dS1
    have dM0 := hM.two.c0
    have dM1 := hM.two.c1
    have q := not_good hM.set (HR.out.2) HK.out (by omega)
    unfold GoodE at q
    go_wp2_with fail
    refine q.mono ?_
    rintro e vQ ⟨g15, c15, R15, rfl, hI, hRt, hBt, hD⟩
    have HQ := Lib.hid (And.intro hRt hBt)
    have hQ := MdS.made hS.bel hD hI
    have hA9 : Below vQ.heap.size vQ (vQ.alloc (.cells #[.int .i64 (N : Int), .slice g15 Kw c15] 24)) := (Below.refl _ _).alloc (Nat.le_refl _) _
    have hS := (hS.step hD).step hA9
    have hM := (hM.step hD).step hA9
    have hO := (hO.step hD).step hA9
    have hA := (hA.step hD).step hA9
    have hV := (hV.step hD).step hA9
    have hP := (hP.step hD).step hA9
    clear q hA9 hI hD hRt hBt dM0 dM1
    have dO0 := hO.two.c0
    have dO1 := hO.two.c1
    have q := not_good hO.set (HO.out.1) HK.out (by omega)
    unfold GoodE at q
    go_wp2_with fail
    refine q.mono ?_
    rintro e vX ⟨g16, c16, R16, rfl, hI, hRt, hBt, hD⟩
    have HX := Lib.hid (And.intro hRt hBt)
    have hX := MdS.made hS.bel hD hI
    have hA9 : Below vX.heap.size vX (vX.alloc (.cells #[.int .i64 (N : Int), .slice g16 Kw c16] 24)) := (Below.refl _ _).alloc (Nat.le_refl _) _
    have hS := (hS.step hD).step hA9
    have hM := (hM.step hD).step hA9
    have hO := (hO.step hD).step hA9
    have hA := (hA.step hD).step hA9
    have hV := (hV.step hD).step hA9
    have hP := (hP.step hD).step hA9
    have hQ := (hQ.step hD).step hA9
    clear q hA9 hI hD hRt hBt dO0 dO1
    have dP0 := hP.two.c0
    have dP1 := hP.two.c1
    have dQ0 := hQ.two.c0
    have dQ1 := hQ.two.c1
    have q := and_good hP.set hQ.set (HP.out.1) (HQ.out.1) HK.out (by omega)
    unfold GoodE at q
    go_wp2_with fail
    refine q.mono ?_
    rintro e vY ⟨g17, c17, R17, rfl, hI, hRt, hBt, hD⟩
    have HY := Lib.hid (And.intro hRt hBt)
    have hY := MdS.made hS.bel hD hI
    have hA9 : Below vY.heap.size vY (vY.alloc (.cells #[.int .i64 (N : Int), .slice g17 Kw c17] 24)) := (Below.refl _ _).alloc (Nat.le_refl _) _
    have hS := (hS.step hD).step hA9
    have hM := (hM.step hD).step hA9
    have hO := (hO.step hD).step hA9
    have hA := (hA.step hD).step hA9
    have hV := (hV.step hD).step hA9
    have hP := (hP.step hD).step hA9
    have hQ := (hQ.step hD).step hA9
    have hX := (hX.step hD).step hA9
    clear q hA9 hI hD hRt hBt dP0 dP1 dQ0 dQ1
    have dS0 := hS.two.c0
    have dS1 := hS.two.c1
    have dQ0 := hQ.two.c0
    have dQ1 := hQ.two.c1
    have q := and_good hS.set hQ.set (HR.out.1) (HQ.out.1) HK.out (by omega)
    unfold GoodE at q
    go_wp2_with fail
    refine q.mono ?_
    rintro e vZ ⟨g18, c18, R18, rfl, hI, hRt, hBt, hD⟩
    have HZ := Lib.hid (And.intro hRt hBt)
    have hZ := MdS.made hS.bel hD hI
    have hA9 : Below vZ.heap.size vZ (vZ.alloc (.cells #[.int .i64 (N : Int), .slice g18 Kw c18] 24)) := (Below.refl _ _).alloc (Nat.le_refl _) _
    have hS := (hS.step hD).step hA9
    have hM := (hM.step hD).step hA9
    have hO := (hO.step hD).step hA9
    have hA := (hA.step hD).step hA9
    have hV := (hV.step hD).step hA9
    have hP := (hP.step hD).step hA9
    have hQ := (hQ.step hD).step hA9
    have hX := (hX.step hD).step hA9
    have hY := (hY.step hD).step hA9
    clear q hA9 hI hD hRt hBt dS0 dS1 dQ0 dQ1
    have dP0 := hP.two.c0
    have dP1 := hP.two.c1
    have q := not_good hP.set (HP.out.1) HK.out (by omega)
    unfold GoodE at q
    go_wp2_with fail
    refine q.mono ?_
    rintro e vB ⟨g19, c19, R19, rfl, hI, hRt, hBt, hD⟩
    have HB := Lib.hid (And.intro hRt hBt)
    have hB := MdS.made hS.bel hD hI
    have hA9 : Below vB.heap.size vB (vB.alloc (.cells #[.int .i64 (N : Int), .slice g19 Kw c19] 24)) := (Below.refl _ _).alloc (Nat.le_refl _) _
    have hS := (hS.step hD).step hA9
    have hM := (hM.step hD).step hA9
    have hO := (hO.step hD).step hA9
    have hA := (hA.step hD).step hA9
    have hV := (hV.step hD).step hA9
    have hP := (hP.step hD).step hA9
    have hQ := (hQ.step hD).step hA9
    have hX := (hX.step hD).step hA9
    have hY := (hY.step hD).step hA9
    have hZ := (hZ.step hD).step hA9
    clear q hA9 hI hD hRt hBt dP0 dP1
    have eXY : R16 = R17 := same_words hX.set hY.set (fun j => by
      have o1 : ¬ j < N → bt R j = false := fun h => HR.out.1.out (by omega)
      have o2 : ¬ j < N → bt R2 j = false := fun h => HR.out.2.out (by omega)
      rw [HX.out.2, HO.out.2, HY.out.2, HP.out.2, HQ.out.2]
      by_cases hj : j < N
      · simp [hj]
      · simp [hj])
    have eZI : R18 = R13 := same_words hZ.set hV.set (fun j => by
      have o1 : ¬ j < N → bt R j = false := fun h => HR.out.1.out (by omega)
      rw [HZ.out.2, HV.out.2, HQ.out.2]
      by_cases hj : j < N
      · simp [hj]
      · simp [hj, o1 hj])
    have eBS : R19 = R := same_words hB.set hS.set (fun j => by
      have o1 : ¬ j < N → bt R j = false := fun h => HR.out.1.out (by omega)
      rw [HB.out.2, HP.out.2]
      by_cases hj : j < N
      · simp [hj]
      · simp [hj, o1 hj])
    have HE := Lib.hid (And.intro eXY (And.intro eZI eBS))
    clear eXY eZI eBS
    have d0 := hX.two.c1
    have d1 := hY.two.c1
    have q := same_yes hX.set hY.set HE.out.1
    go_wp2_with fail
    refine q.mono ?_
    rintro e uX ⟨rfl, hD⟩
    have hS := hS.step hD
    have hM := hM.step hD
    have hO := hO.step hD
    have hA := hA.step hD
    have hV := hV.step hD
    have hP := hP.step hD
    have hQ := hQ.step hD
    have hX := hX.step hD
    have hY := hY.step hD
    have hZ := hZ.step hD
    have hB := hB.step hD
    clear q hD d0 d1
    have d0 := hZ.two.c1
    have d1 := hV.two.c1
    have q := same_yes hZ.set hV.set HE.out.2.1
    go_wp2_with fail
    refine q.mono ?_
    rintro e uZ ⟨rfl, hD⟩
    have hS := hS.step hD
    have hM := hM.step hD
    have hO := hO.step hD
    have hA := hA.step hD
    have hV := hV.step hD
    have hP := hP.step hD
    have hQ := hQ.step hD
    have hX := hX.step hD
    have hY := hY.step hD
    have hZ := hZ.step hD
    have hB := hB.step hD
    clear q hD d0 d1
    have d0 := hB.two.c1
    have d1 := hS.two.c1
    have q := same_yes hB.set hS.set HE.out.2.2
    go_wp2_with fail
    refine q.mono ?_
    rintro e uB ⟨rfl, hD⟩
    have hS := hS.step hD
    have hM := hM.step hD
    have hO := hO.step hD
    have hA := hA.step hD
    have hV := hV.step hD
    have hP := hP.step hD
    have hQ := hQ.step hD
    have hX := hX.step hD
    have hY := hY.step hD
    have hZ := hZ.step hD
    have hB := hB.step hD
    clear q hD d0 d1
    obtain ⟨T, hF0, hPJ⟩ := Five.mk7 hS hM hO hA hV hP hQ
    have HPJ := Lib.hid hPJ
    have dO0 := hO.two.c0
    have dO1 := hO.two.c1
    have dA0 := hA.two.c0
    have dA1 := hA.two.c1
    have dV0 := hV.two.c0
    have dV1 := hV.two.c1
    have dP0 := hP.two.c0
    have dP1 := hP.two.c1
    have dQ0 := hQ.two.c0
    have dQ1 := hQ.two.c1
    have hA9 : Below uB.heap.size uB (uB.alloc (.cells #[(.int .i64 (N : Int)), (.slice g11 Kw c11), (.int .i64 (N : Int)), (.slice g12 Kw c12), (.int .i64 (N : Int)), (.slice g13 Kw c13), (.int .i64 (N : Int)), (.slice g14 Kw c14), (.int .i64 (N : Int)), (.slice g15 Kw c15)] 24)) := (Below.refl _ _).alloc (Nat.le_refl _) _
    have hE1 : (uB.alloc (.cells #[(.int .i64 (N : Int)), (.slice g11 Kw c11), (.int .i64 (N : Int)), (.slice g12 Kw c12), (.int .i64 (N : Int)), (.slice g13 Kw c13), (.int .i64 (N : Int)), (.slice g14 Kw c14), (.int .i64 (N : Int)), (.slice g15 Kw c15)] 24)).heap[uB.heap.size]? = some (.cells #[(.int .i64 (N : Int)), (.slice g11 Kw c11), (.int .i64 (N : Int)), (.slice g12 Kw c12), (.int .i64 (N : Int)), (.slice g13 Kw c13), (.int .i64 (N : Int)), (.slice g14 Kw c14), (.int .i64 (N : Int)), (.slice g15 Kw c15)] 24 (0, 0)) := heap_alloc_new uB _
    have hF1 := hF0.step hA9
    go_wp2_with fail
    clear hPJ hF0 hS hM hO hA hV hP hQ hX hY hZ hB hA9 dO0 dO1 dA0 dA1 dV0 dV1 dP0 dP1 dQ0 dQ1
    obtain ⟨v1, hv1⟩ : ∃ wz, wz = uB.alloc (.cells #[(.int .i64 (N : Int)), (.slice g11 Kw c11), (.int .i64 (N : Int)), (.slice g12 Kw c12), (.int .i64 (N : Int)), (.slice g13 Kw c13), (.int .i64 (N : Int)), (.slice g14 Kw c14), (.int .i64 (N : Int)), (.slice g15 Kw c15)] 24) := ⟨_, rfl⟩
    rw [← hv1] at hE1 hF1 ⊢
    obtain ⟨eb, heb⟩ : ∃ b, b = uB.heap.size := ⟨_, rfl⟩
    rw [← heb] at hE1 ⊢
    clear hv1 heb
    go_loopw [149] (fun I wr => ∃ k : Nat, k ≤ 5 ∧ I = .int .i64 (k : Int) ∧ Five w N Kw T wr ∧ wr.heap[eb]? = some (.cells #[(.int .i64 (N : Int)), (.slice g11 Kw c11), (.int .i64 (N : Int)), (.slice g12 Kw c12), (.int .i64 (N : Int)), (.slice g13 Kw c13), (.int .i64 (N : Int)), (.slice g14 Kw c14), (.int .i64 (N : Int)), (.slice g15 Kw c15)] 24 (0, 0))) (fun I _ => 5 - (intOf I).toNat)
    case atStart => exact ⟨0, by omega, rfl, hF1, hE1⟩
    case round =>
      obtain ⟨k, hk, rfl, hF2, hE2⟩ := hrel
      clear hF1 hE1
      by_cases hlt : k < 5
      · have hk5 : k = 0 ∨ k = 1 ∨ k = 2 ∨ k = 3 ∨ k = 4 := by omega
        rcases hk5 with rfl | rfl | rfl | rfl | rfl
        · have e0 := cell_of hE2 0 (.int .i64 (N : Int)) rfl
          have e1 := cell_of hE2 1 (.slice g11 Kw c11) rfl
          have hA9 : Below wr.heap.size wr (wr.alloc (.cells #[(.int .i64 (N : Int)), (.slice g11 Kw c11)] 24)) := (Below.refl _ _).alloc (Nat.le_refl _) _
          have hT9 := Two.new wr 24 (.int .i64 (N : Int)) (.slice g11 Kw c11)
          have hF3 := hF2.step hA9
          have hE3 := heap_step hE2 hA9
          have q := right_yes (HPJ.out.2.2.1 _ hF3).set HO.out.1
          clear hE2 hF2
          go_wp2_with fail
          refine q.mono ?_
          rintro e v ⟨rfl, hD⟩
          have hT10 := hT9.step hD
          have hF4 := hF3.step hD
          have hE4 := heap_step hE3 hD
          clear hT9 hF3 hE3 q hD hA9 e0 e1
          have t0 := hT10.c0
          have s0 := (HPJ.out.1 _ hF4).two.c0
          have hne : ((N : Int) != (N : Int)) = false := by simp
          go_wp2_with fail
          go_roundw
          case rel => exact ⟨1, by omega, by first | rfl | go_num, hF4, hE4⟩
          case measure => simp [intOf]
        · have e0 := cell_of hE2 2 (.int .i64 (N : Int)) rfl
          have e1 := cell_of hE2 3 (.slice g12 Kw c12) rfl
          have hA9 : Below wr.heap.size wr (wr.alloc (.cells #[(.int .i64 (N : Int)), (.slice g12 Kw c12)] 24)) := (Below.refl _ _).alloc (Nat.le_refl _) _
          have hT9 := Two.new wr 24 (.int .i64 (N : Int)) (.slice g12 Kw c12)
          have hF3 := hF2.step hA9
          have hE3 := heap_step hE2 hA9
          have q := right_yes (HPJ.out.2.2.2.1 _ hF3).set HA.out.1
          clear hE2 hF2
          go_wp2_with fail
          refine q.mono ?_
          rintro e v ⟨rfl, hD⟩
          have hT10 := hT9.step hD
          have hF4 := hF3.step hD
          have hE4 := heap_step hE3 hD
          clear hT9 hF3 hE3 q hD hA9 e0 e1
          have t0 := hT10.c0
          have s0 := (HPJ.out.1 _ hF4).two.c0
          have hne : ((N : Int) != (N : Int)) = false := by simp
          go_wp2_with fail
          go_roundw
          case rel => exact ⟨2, by omega, by first | rfl | go_num, hF4, hE4⟩
          case measure => simp [intOf]
        · have e0 := cell_of hE2 4 (.int .i64 (N : Int)) rfl
          have e1 := cell_of hE2 5 (.slice g13 Kw c13) rfl
          have hA9 : Below wr.heap.size wr (wr.alloc (.cells #[(.int .i64 (N : Int)), (.slice g13 Kw c13)] 24)) := (Below.refl _ _).alloc (Nat.le_refl _) _
          have hT9 := Two.new wr 24 (.int .i64 (N : Int)) (.slice g13 Kw c13)
          have hF3 := hF2.step hA9
          have hE3 := heap_step hE2 hA9
          have q := right_yes (HPJ.out.2.2.2.2.1 _ hF3).set HV.out.1
          clear hE2 hF2
          go_wp2_with fail
          refine q.mono ?_
          rintro e v ⟨rfl, hD⟩
          have hT10 := hT9.step hD
          have hF4 := hF3.step hD
          have hE4 := heap_step hE3 hD
          clear hT9 hF3 hE3 q hD hA9 e0 e1
          have t0 := hT10.c0
          have s0 := (HPJ.out.1 _ hF4).two.c0
          have hne : ((N : Int) != (N : Int)) = false := by simp
          go_wp2_with fail
          go_roundw
          case rel => exact ⟨3, by omega, by first | rfl | go_num, hF4, hE4⟩
          case measure => simp [intOf]
        · have e0 := cell_of hE2 6 (.int .i64 (N : Int)) rfl
          have e1 := cell_of hE2 7 (.slice g14 Kw c14) rfl
          have hA9 : Below wr.heap.size wr (wr.alloc (.cells #[(.int .i64 (N : Int)), (.slice g14 Kw c14)] 24)) := (Below.refl _ _).alloc (Nat.le_refl _) _
          have hT9 := Two.new wr 24 (.int .i64 (N : Int)) (.slice g14 Kw c14)
          have hF3 := hF2.step hA9
          have hE3 := heap_step hE2 hA9
          have q := right_yes (HPJ.out.2.2.2.2.2.1 _ hF3).set HP.out.1
          clear hE2 hF2
          go_wp2_with fail
          refine q.mono ?_
          rintro e v ⟨rfl, hD⟩
          have hT10 := hT9.step hD
          have hF4 := hF3.step hD
          have hE4 := heap_step hE3 hD
          clear hT9 hF3 hE3 q hD hA9 e0 e1
          have t0 := hT10.c0
          have s0 := (HPJ.out.1 _ hF4).two.c0
          have hne : ((N : Int) != (N : Int)) = false := by simp
          go_wp2_with fail
          go_roundw
          case rel => exact ⟨4, by omega, by first | rfl | go_num, hF4, hE4⟩
          case measure => simp [intOf]
        · have e0 := cell_of hE2 8 (.int .i64 (N : Int)) rfl
          have e1 := cell_of hE2 9 (.slice g15 Kw c15) rfl
          have hA9 : Below wr.heap.size wr (wr.alloc (.cells #[(.int .i64 (N : Int)), (.slice g15 Kw c15)] 24)) := (Below.refl _ _).alloc (Nat.le_refl _) _
          have hT9 := Two.new wr 24 (.int .i64 (N : Int)) (.slice g15 Kw c15)
          have hF3 := hF2.step hA9
          have hE3 := heap_step hE2 hA9
          have q := right_yes (HPJ.out.2.2.2.2.2.2 _ hF3).set HQ.out.1
          clear hE2 hF2
          go_wp2_with fail
          refine q.mono ?_
          rintro e v ⟨rfl, hD⟩
          have hT10 := hT9.step hD
          have hF4 := hF3.step hD
          have hE4 := heap_step hE3 hD
          clear hT9 hF3 hE3 q hD hA9 e0 e1
          have t0 := hT10.c0
          have s0 := (HPJ.out.1 _ hF4).two.c0
          have hne : ((N : Int) != (N : Int)) = false := by simp
          go_wp2_with fail
          go_roundw
          case rel => exact ⟨5, by omega, by first | rfl | go_num, hF4, hE4⟩
          case measure => simp [intOf]
      · obtain rfl : k = 5 := by omega
        clear hE2
        have s0 := (HPJ.out.1 _ hF2).two.c0
        go_wp2_with fail
        clear s0
        have h5c : ((5 : Nat) : Int) = 5 := rfl
        simp only [h5c]
        clear h5c
        go_loopw [166] (fun I wr => ∃ k : Nat, k ≤ N ∧ I = .int .i64 (k : Int) ∧ Five w N Kw T wr) (fun I _ => N - (intOf I).toNat)
        case atStart => exact ⟨0, by omega, rfl, hF2⟩
        case round =>
          obtain ⟨k, hk, rfl, hF3⟩ := hrel
          clear hF2
          by_cases hlt : k < N
          · cases hb1 : bt R k with
            | true =>
              cases hb2 : bt R2 k with
              | true =>
                have hiN : k < N := hlt
                have i1 : (k : Int) < (N : Int) := by omega
                have hbO : bt R11 k = true := by rw [HO.out.2, hb1, hb2]; rfl
                have hbA : bt R12 k = true := by rw [HA.out.2, hb1, hb2]; rfl
                have hbV : bt R13 k = false := by rw [HV.out.2, hb1, hb2]; rfl
                have hbP : bt R14 k = false := by rw [HP.out.2, hb1, decide_eq_true hiN]; rfl
                have HBB := Lib.hid (And.intro hb1 (And.intro hb2 (And.intro hbO (And.intro hbA (And.intro hbV hbP)))))
                clear hb1 hb2 hbO hbA hbV hbP
                go_wp2_with fail
                have h0 : Five w N Kw T wr.drew ∧ wr.drew.cell? ⟨ab, 0, none⟩ = some (.int .i64 (N : Int)) ∧ wr.drew.cell? ⟨ab, 1, none⟩ = some (.slice g Kw c) ∧ wr.drew.cell? ⟨bb, 0, none⟩ = some (.int .i64 (N : Int)) ∧ wr.drew.cell? ⟨bb, 1, none⟩ = some (.slice g2 Kw c2) := ⟨hF3.step (Below.refl _ _).drew, (HPJ.out.1 _ (hF3.step (Below.refl _ _).drew)).two.c0, (HPJ.out.1 _ (hF3.step (Below.refl _ _).drew)).two.c1, (HPJ.out.2.1 _ (hF3.step (Below.refl _ _).drew)).two.c0, (HPJ.out.2.1 _ (hF3.step (Below.refl _ _).drew)).two.c1⟩
                clear hF3
                refine wp_region_noPanic ?_
                refine wp_region_held_drew (S := fun W => Five w N Kw T W ∧ W.cell? ⟨ab, 0, none⟩ = some (.int .i64 (N : Int)) ∧ W.cell? ⟨ab, 1, none⟩ = some (.slice g Kw c) ∧ W.cell? ⟨bb, 0, none⟩ = some (.int .i64 (N : Int)) ∧ W.cell? ⟨bb, 1, none⟩ = some (.slice g2 Kw c2)) (by kernel_rfl) (h0) (fun hHeld => ?_)
                refine wpAnyH_take (i := 0) (oi := { dst := some 169, op := Go.Op.load 24 (Go.Operand.tmp 8), type := 24, pos := "outright.go:113", after := #[], guard := none }) (v := ?v0qtt) rfl (by kernel_rfl) (by kernel_rfl) (by kernel_rfl) (fun _ _ _ h => h) (Or.inl ⟨by rfl, ?hy0qtt⟩) hHeld ?rest0qtt
                case hy0qtt =>
                  intro w hSw
                  try dsimp only at hSw
                  go_simp
                  try with_reducible rfl
                try simp only [Act.put, List.setIfInBounds_toArray, List.set_cons_zero, List.set_cons_succ]
                refine wpAnyH_take (i := 1) (oi := { dst := some 170, op := Go.Op.move (Go.Operand.tmp 30), type := 3, pos := "outright.go:113", after := #[], guard := none }) (v := ?v1qtt) rfl (by kernel_rfl) (by kernel_rfl) (by kernel_rfl) (fun _ _ _ h => h) (Or.inl ⟨by rfl, ?hy1qtt⟩) hHeld ?rest1qtt
                case hy1qtt =>
                  intro w hSw
                  try dsimp only at hSw
                  go_simp
                  try with_reducible rfl
                try simp only [Act.put, List.setIfInBounds_toArray, List.set_cons_zero, List.set_cons_succ]
                refine wpAnyH_take (i := 3) (oi := { dst := some 172, op := Go.Op.load 24 (Go.Operand.tmp 9), type := 24, pos := "outright.go:113", after := #[], guard := none }) (v := ?v3qtt) rfl (by kernel_rfl) (by kernel_rfl) (by kernel_rfl) (fun _ _ _ h => h) (Or.inl ⟨by rfl, ?hy3qtt⟩) hHeld ?rest3qtt
                case hy3qtt =>
                  intro w hSw
                  try dsimp only at hSw
                  go_simp
                  try with_reducible rfl
                try simp only [Act.put, List.setIfInBounds_toArray, List.set_cons_zero, List.set_cons_succ]
                refine wpAnyH_take (i := 4) (oi := { dst := some 173, op := Go.Op.move (Go.Operand.tmp 30), type := 3, pos := "outright.go:113", after := #[], guard := none }) (v := ?v4qtt) rfl (by kernel_rfl) (by kernel_rfl) (by kernel_rfl) (fun _ _ _ h => h) (Or.inl ⟨by rfl, ?hy4qtt⟩) hHeld ?rest4qtt
                case hy4qtt =>
                  intro w hSw
                  try dsimp only at hSw
                  go_simp
                  try with_reducible rfl
                try simp only [Act.put, List.setIfInBounds_toArray, List.set_cons_zero, List.set_cons_succ]
                refine wpAnyH_ready (rs := [2]) (by kernel_rfl) (by simp) ?_
                refine AllReadyH.cons (o := { dst := some 171, op := Go.Op.call { callee := Go.Callee.value (Go.Operand.func 28), args := #[Go.Operand.tmp 169, Go.Operand.tmp 170], argTypes := #[24, 3] }, type := 4, pos := "outright.go:113", after := #[{ on := 0, ground := Go.Ground.data }, { on := 1, ground := Go.Ground.data }], guard := none }) rfl (fun K hK => ?_) AllReadyH.nil
                go_simp
                refine (has_bit (HPJ.out.1 _ h0.1).set HR.out.1 (by omega) HBB.out.1).mono ?_
                rintro e v1 ⟨rfl, hD1⟩
                have h1 : Five w N Kw T v1 ∧ v1.cell? ⟨ab, 0, none⟩ = some (.int .i64 (N : Int)) ∧ v1.cell? ⟨ab, 1, none⟩ = some (.slice g Kw c) ∧ v1.cell? ⟨bb, 0, none⟩ = some (.int .i64 (N : Int)) ∧ v1.cell? ⟨bb, 1, none⟩ = some (.slice g2 Kw c2) := ⟨h0.1.step hD1, (HPJ.out.1 _ (h0.1.step hD1)).two.c0, (HPJ.out.1 _ (h0.1.step hD1)).two.c1, (HPJ.out.2.1 _ (h0.1.step hD1)).two.c0, (HPJ.out.2.1 _ (h0.1.step hD1)).two.c1⟩
                go_wp2_with fail
                refine hK.out _ _ (h1) (fun hHeld => ?_)
                clear hK K
                try simp only [Act.put, List.setIfInBounds_toArray, List.set_cons_zero, List.set_cons_succ]
                refine wpAnyH_ready (rs := [5]) (by kernel_rfl) (by simp) ?_
                refine AllReadyH.cons (o := { dst := some 174, op := Go.Op.call { callee := Go.Callee.value (Go.Operand.func 28), args := #[Go.Operand.tmp 172, Go.Operand.tmp 173], argTypes := #[24, 3] }, type := 4, pos := "outright.go:113", after := #[{ on := 3, ground := Go.Ground.data }, { on := 4, ground := Go.Ground.data }, { on := 2, ground := Go.Ground.chain }], guard := none }) rfl (fun K hK => ?_) AllReadyH.nil
                go_simp
                refine (has_bit (HPJ.out.2.1 _ h1.1).set HR.out.2 (by omega) HBB.out.2.1).mono ?_
                rintro e v2 ⟨rfl, hD2⟩
                have h2 : Five w N Kw T v2 ∧ v2.cell? ⟨ab, 0, none⟩ = some (.int .i64 (N : Int)) ∧ v2.cell? ⟨ab, 1, none⟩ = some (.slice g Kw c) ∧ v2.cell? ⟨bb, 0, none⟩ = some (.int .i64 (N : Int)) ∧ v2.cell? ⟨bb, 1, none⟩ = some (.slice g2 Kw c2) := ⟨h1.1.step hD2, (HPJ.out.1 _ (h1.1.step hD2)).two.c0, (HPJ.out.1 _ (h1.1.step hD2)).two.c1, (HPJ.out.2.1 _ (h1.1.step hD2)).two.c0, (HPJ.out.2.1 _ (h1.1.step hD2)).two.c1⟩
                go_wp2_with fail
                refine hK.out _ _ (h2) (fun hHeld => ?_)
                clear hK K
                try simp only [Act.put, List.setIfInBounds_toArray, List.set_cons_zero, List.set_cons_succ]
                refine wpAnyH_take (i := 6) (oi := { dst := some 31, op := Go.Op.assign (Go.Operand.tmp 171), type := 4, pos := "outright.go:113", after := #[{ on := 2, ground := Go.Ground.data }, { on := 5, ground := Go.Ground.chain }, { on := 0, ground := Go.Ground.phase }, { on := 1, ground := Go.Ground.phase }, { on := 2, ground := Go.Ground.phase }, { on := 3, ground := Go.Ground.textOnly Go.Departure.lateStores }, { on := 4, ground := Go.Ground.textOnly Go.Departure.lateStores }, { on := 5, ground := Go.Ground.textOnly Go.Departure.lateStoresUnsure }], guard := none }) (v := ?v6qtt) rfl (by kernel_rfl) (by kernel_rfl) (by kernel_rfl) (fun _ _ _ h => h) (Or.inl ⟨by rfl, ?hy6qtt⟩) hHeld ?rest6qtt
                case hy6qtt =>
                  intro w hSw
                  try dsimp only at hSw
                  go_simp
                  try with_reducible rfl
                try simp only [Act.put, List.setIfInBounds_toArray, List.set_cons_zero, List.set_cons_succ]
                refine wpAnyH_take (i := 7) (oi := { dst := some 32, op := Go.Op.assign (Go.Operand.tmp 174), type := 4, pos := "outright.go:113", after := #[{ on := 5, ground := Go.Ground.data }, { on := 6, ground := Go.Ground.chain }, { on := 0, ground := Go.Ground.phase }, { on := 1, ground := Go.Ground.phase }, { on := 2, ground := Go.Ground.phase }, { on := 3, ground := Go.Ground.phase }, { on := 4, ground := Go.Ground.phase }, { on := 5, ground := Go.Ground.phase }, { on := 6, ground := Go.Ground.phase }], guard := none }) (v := ?v7qtt) rfl (by kernel_rfl) (by kernel_rfl) (by kernel_rfl) (fun _ _ _ h => h) (Or.inl ⟨by rfl, ?hy7qtt⟩) hHeld ?rest7qtt
                case hy7qtt =>
                  intro w hSw
                  try dsimp only at hSw
                  go_simp
                  try with_reducible rfl
                try simp only [Act.put, List.setIfInBounds_toArray, List.set_cons_zero, List.set_cons_succ]
                refine wpAnyH_done (by kernel_rfl) ?_ _
                refine NoPanic.normal ?_
                have hF4 := h2.1
                clear h0 h1 h2
                have d0 := (HPJ.out.2.2.1 _ hF4).two.c0
                have d1 := (HPJ.out.2.2.1 _ hF4).two.c1
                have q := has_bit (HPJ.out.2.2.1 _ hF4).set HO.out.1 (by omega) HBB.out.2.2.1
                go_wp2_with fail
                refine q.mono ?_
                rintro e y4 ⟨rfl, hD⟩
                have hF5 := hF4.step hD
                clear hF4 q hD d0 d1
                have d0 := (HPJ.out.2.2.2.1 _ hF5).two.c0
                have d1 := (HPJ.out.2.2.2.1 _ hF5).two.c1
                have q := has_bit (HPJ.out.2.2.2.1 _ hF5).set HA.out.1 (by omega) HBB.out.2.2.2.1
                go_wp2_with fail
                refine q.mono ?_
                rintro e y5 ⟨rfl, hD⟩
                have hF6 := hF5.step hD
                clear hF5 q hD d0 d1
                have d0 := (HPJ.out.2.2.2.2.1 _ hF6).two.c0
                have d1 := (HPJ.out.2.2.2.2.1 _ hF6).two.c1
                have q := has_bit (HPJ.out.2.2.2.2.1 _ hF6).set HV.out.1 (by omega) HBB.out.2.2.2.2.1
                go_wp2_with fail
                refine q.mono ?_
                rintro e y6 ⟨rfl, hD⟩
                have hF7 := hF6.step hD
                clear hF6 q hD d0 d1
                have d0 := (HPJ.out.2.2.2.2.2.1 _ hF7).two.c0
                have d1 := (HPJ.out.2.2.2.2.2.1 _ hF7).two.c1
                have q := has_bit (HPJ.out.2.2.2.2.2.1 _ hF7).set HP.out.1 (by omega) HBB.out.2.2.2.2.2
                go_wp2_with fail
                refine q.mono ?_
                rintro e y7 ⟨rfl, hD⟩
                have hF8 := hF7.step hD
                clear hF7 q hD d0 d1
                go_wp2_with fail
                go_roundw
                case rel => exact ⟨k + 1, by omega, by go_num, hF8⟩
                case measure => simp [intOf]; omega
              | false =>
                have hiN : k < N := hlt
                have i1 : (k : Int) < (N : Int) := by omega
                have hbO : bt R11 k = true := by rw [HO.out.2, hb1, hb2]; rfl
                have hbA : bt R12 k = false := by rw [HA.out.2, hb1, hb2]; rfl
                have hbV : bt R13 k = true := by rw [HV.out.2, hb1, hb2]; rfl
                have hbP : bt R14 k = false := by rw [HP.out.2, hb1, decide_eq_true hiN]; rfl
                have HBB := Lib.hid (And.intro hb1 (And.intro hb2 (And.intro hbO (And.intro hbA (And.intro hbV hbP)))))
                clear hb1 hb2 hbO hbA hbV hbP
                go_wp2_with fail
                have h0 : Five w N Kw T wr.drew ∧ wr.drew.cell? ⟨ab, 0, none⟩ = some (.int .i64 (N : Int)) ∧ wr.drew.cell? ⟨ab, 1, none⟩ = some (.slice g Kw c) ∧ wr.drew.cell? ⟨bb, 0, none⟩ = some (.int .i64 (N : Int)) ∧ wr.drew.cell? ⟨bb, 1, none⟩ = some (.slice g2 Kw c2) := ⟨hF3.step (Below.refl _ _).drew, (HPJ.out.1 _ (hF3.step (Below.refl _ _).drew)).two.c0, (HPJ.out.1 _ (hF3.step (Below.refl _ _).drew)).two.c1, (HPJ.out.2.1 _ (hF3.step (Below.refl _ _).drew)).two.c0, (HPJ.out.2.1 _ (hF3.step (Below.refl _ _).drew)).two.c1⟩
                clear hF3
                refine wp_region_noPanic ?_
                refine wp_region_held_drew (S := fun W => Five w N Kw T W ∧ W.cell? ⟨ab, 0, none⟩ = some (.int .i64 (N : Int)) ∧ W.cell? ⟨ab, 1, none⟩ = some (.slice g Kw c) ∧ W.cell? ⟨bb, 0, none⟩ = some (.int .i64 (N : Int)) ∧ W.cell? ⟨bb, 1, none⟩ = some (.slice g2 Kw c2)) (by kernel_rfl) (h0) (fun hHeld => ?_)
                refine wpAnyH_take (i := 0) (oi := { dst := some 169, op := Go.Op.load 24 (Go.Operand.tmp 8), type := 24, pos := "outright.go:113", after := #[], guard := none }) (v := ?v0qtf) rfl (by kernel_rfl) (by kernel_rfl) (by kernel_rfl) (fun _ _ _ h => h) (Or.inl ⟨by rfl, ?hy0qtf⟩) hHeld ?rest0qtf
                case hy0qtf =>
                  intro w hSw
                  try dsimp only at hSw
                  go_simp
                  try with_reducible rfl
                try simp only [Act.put, List.setIfInBounds_toArray, List.set_cons_zero, List.set_cons_succ]
                refine wpAnyH_take (i := 1) (oi := { dst := some 170, op := Go.Op.move (Go.Operand.tmp 30), type := 3, pos := "outright.go:113", after := #[], guard := none }) (v := ?v1qtf) rfl (by kernel_rfl) (by kernel_rfl) (by kernel_rfl) (fun _ _ _ h => h) (Or.inl ⟨by rfl, ?hy1qtf⟩) hHeld ?rest1qtf
                case hy1qtf =>
                  intro w hSw
                  try dsimp only at hSw
                  go_simp
                  try with_reducible rfl
                try simp only [Act.put, List.setIfInBounds_toArray, List.set_cons_zero, List.set_cons_succ]
                refine wpAnyH_take (i := 3) (oi := { dst := some 172, op := Go.Op.load 24 (Go.Operand.tmp 9), type := 24, pos := "outright.go:113", after := #[], guard := none }) (v := ?v3qtf) rfl (by kernel_rfl) (by kernel_rfl) (by kernel_rfl) (fun _ _ _ h => h) (Or.inl ⟨by rfl, ?hy3qtf⟩) hHeld ?rest3qtf
                case hy3qtf =>
                  intro w hSw
                  try dsimp only at hSw
                  go_simp
                  try with_reducible rfl
                try simp only [Act.put, List.setIfInBounds_toArray, List.set_cons_zero, List.set_cons_succ]
                refine wpAnyH_take (i := 4) (oi := { dst := some 173, op := Go.Op.move (Go.Operand.tmp 30), type := 3, pos := "outright.go:113", after := #[], guard := none }) (v := ?v4qtf) rfl (by kernel_rfl) (by kernel_rfl) (by kernel_rfl) (fun _ _ _ h => h) (Or.inl ⟨by rfl, ?hy4qtf⟩) hHeld ?rest4qtf
                case hy4qtf =>
                  intro w hSw
                  try dsimp only at hSw
                  go_simp
                  try with_reducible rfl
                try simp only [Act.put, List.setIfInBounds_toArray, List.set_cons_zero, List.set_cons_succ]
                refine wpAnyH_ready (rs := [2]) (by kernel_rfl) (by simp) ?_
                refine AllReadyH.cons (o := { dst := some 171, op := Go.Op.call { callee := Go.Callee.value (Go.Operand.func 28), args := #[Go.Operand.tmp 169, Go.Operand.tmp 170], argTypes := #[24, 3] }, type := 4, pos := "outright.go:113", after := #[{ on := 0, ground := Go.Ground.data }, { on := 1, ground := Go.Ground.data }], guard := none }) rfl (fun K hK => ?_) AllReadyH.nil
                go_simp
                refine (has_bit (HPJ.out.1 _ h0.1).set HR.out.1 (by omega) HBB.out.1).mono ?_
                rintro e v1 ⟨rfl, hD1⟩
                have h1 : Five w N Kw T v1 ∧ v1.cell? ⟨ab, 0, none⟩ = some (.int .i64 (N : Int)) ∧ v1.cell? ⟨ab, 1, none⟩ = some (.slice g Kw c) ∧ v1.cell? ⟨bb, 0, none⟩ = some (.int .i64 (N : Int)) ∧ v1.cell? ⟨bb, 1, none⟩ = some (.slice g2 Kw c2) := ⟨h0.1.step hD1, (HPJ.out.1 _ (h0.1.step hD1)).two.c0, (HPJ.out.1 _ (h0.1.step hD1)).two.c1, (HPJ.out.2.1 _ (h0.1.step hD1)).two.c0, (HPJ.out.2.1 _ (h0.1.step hD1)).two.c1⟩
                go_wp2_with fail
                refine hK.out _ _ (h1) (fun hHeld => ?_)
                clear hK K
                try simp only [Act.put, List.setIfInBounds_toArray, List.set_cons_zero, List.set_cons_succ]
                refine wpAnyH_ready (rs := [5]) (by kernel_rfl) (by simp) ?_
                refine AllReadyH.cons (o := { dst := some 174, op := Go.Op.call { callee := Go.Callee.value (Go.Operand.func 28), args := #[Go.Operand.tmp 172, Go.Operand.tmp 173], argTypes := #[24, 3] }, type := 4, pos := "outright.go:113", after := #[{ on := 3, ground := Go.Ground.data }, { on := 4, ground := Go.Ground.data }, { on := 2, ground := Go.Ground.chain }], guard := none }) rfl (fun K hK => ?_) AllReadyH.nil
                go_simp
                refine (has_bit (HPJ.out.2.1 _ h1.1).set HR.out.2 (by omega) HBB.out.2.1).mono ?_
                rintro e v2 ⟨rfl, hD2⟩
                have h2 : Five w N Kw T v2 ∧ v2.cell? ⟨ab, 0, none⟩ = some (.int .i64 (N : Int)) ∧ v2.cell? ⟨ab, 1, none⟩ = some (.slice g Kw c) ∧ v2.cell? ⟨bb, 0, none⟩ = some (.int .i64 (N : Int)) ∧ v2.cell? ⟨bb, 1, none⟩ = some (.slice g2 Kw c2) := ⟨h1.1.step hD2, (HPJ.out.1 _ (h1.1.step hD2)).two.c0, (HPJ.out.1 _ (h1.1.step hD2)).two.c1, (HPJ.out.2.1 _ (h1.1.step hD2)).two.c0, (HPJ.out.2.1 _ (h1.1.step hD2)).two.c1⟩
                go_wp2_with fail
                refine hK.out _ _ (h2) (fun hHeld => ?_)
                clear hK K
                try simp only [Act.put, List.setIfInBounds_toArray, List.set_cons_zero, List.set_cons_succ]
                refine wpAnyH_take (i := 6) (oi := { dst := some 31, op := Go.Op.assign (Go.Operand.tmp 171), type := 4, pos := "outright.go:113", after := #[{ on := 2, ground := Go.Ground.data }, { on := 5, ground := Go.Ground.chain }, { on := 0, ground := Go.Ground.phase }, { on := 1, ground := Go.Ground.phase }, { on := 2, ground := Go.Ground.phase }, { on := 3, ground := Go.Ground.textOnly Go.Departure.lateStores }, { on := 4, ground := Go.Ground.textOnly Go.Departure.lateStores }, { on := 5, ground := Go.Ground.textOnly Go.Departure.lateStoresUnsure }], guard := none }) (v := ?v6qtf) rfl (by kernel_rfl) (by kernel_rfl) (by kernel_rfl) (fun _ _ _ h => h) (Or.inl ⟨by rfl, ?hy6qtf⟩) hHeld ?rest6qtf
                case hy6qtf =>
                  intro w hSw
                  try dsimp only at hSw
                  go_simp
                  try with_reducible rfl
                try simp only [Act.put, List.setIfInBounds_toArray, List.set_cons_zero, List.set_cons_succ]
                refine wpAnyH_take (i := 7) (oi := { dst := some 32, op := Go.Op.assign (Go.Operand.tmp 174), type := 4, pos := "outright.go:113", after := #[{ on := 5, ground := Go.Ground.data }, { on := 6, ground := Go.Ground.chain }, { on := 0, ground := Go.Ground.phase }, { on := 1, ground := Go.Ground.phase }, { on := 2, ground := Go.Ground.phase }, { on := 3, ground := Go.Ground.phase }, { on := 4, ground := Go.Ground.phase }, { on := 5, ground := Go.Ground.phase }, { on := 6, ground := Go.Ground.phase }], guard := none }) (v := ?v7qtf) rfl (by kernel_rfl) (by kernel_rfl) (by kernel_rfl) (fun _ _ _ h => h) (Or.inl ⟨by rfl, ?hy7qtf⟩) hHeld ?rest7qtf
                case hy7qtf =>
                  intro w hSw
                  try dsimp only at hSw
                  go_simp
                  try with_reducible rfl
                try simp only [Act.put, List.setIfInBounds_toArray, List.set_cons_zero, List.set_cons_succ]
                refine wpAnyH_done (by kernel_rfl) ?_ _
                refine NoPanic.normal ?_
                have hF4 := h2.1
                clear h0 h1 h2
                have d0 := (HPJ.out.2.2.1 _ hF4).two.c0
                have d1 := (HPJ.out.2.2.1 _ hF4).two.c1
                have q := has_bit (HPJ.out.2.2.1 _ hF4).set HO.out.1 (by omega) HBB.out.2.2.1
                go_wp2_with fail
                refine q.mono ?_
                rintro e y4 ⟨rfl, hD⟩
                have hF5 := hF4.step hD
                clear hF4 q hD d0 d1
                have d0 := (HPJ.out.2.2.2.1 _ hF5).two.c0
                have d1 := (HPJ.out.2.2.2.1 _ hF5).two.c1
                have q := has_bit (HPJ.out.2.2.2.1 _ hF5).set HA.out.1 (by omega) HBB.out.2.2.2.1
                go_wp2_with fail
                refine q.mono ?_
                rintro e y5 ⟨rfl, hD⟩
                have hF6 := hF5.step hD
                clear hF5 q hD d0 d1
                have d0 := (HPJ.out.2.2.2.2.1 _ hF6).two.c0
                have d1 := (HPJ.out.2.2.2.2.1 _ hF6).two.c1
                have q := has_bit (HPJ.out.2.2.2.2.1 _ hF6).set HV.out.1 (by omega) HBB.out.2.2.2.2.1
                go_wp2_with fail
                refine q.mono ?_
                rintro e y6 ⟨rfl, hD⟩
                have hF7 := hF6.step hD
                clear hF6 q hD d0 d1
                have d0 := (HPJ.out.2.2.2.2.2.1 _ hF7).two.c0
                have d1 := (HPJ.out.2.2.2.2.2.1 _ hF7).two.c1
                have q := has_bit (HPJ.out.2.2.2.2.2.1 _ hF7).set HP.out.1 (by omega) HBB.out.2.2.2.2.2
                go_wp2_with fail
                refine q.mono ?_
                rintro e y7 ⟨rfl, hD⟩
                have hF8 := hF7.step hD
                clear hF7 q hD d0 d1
                go_wp2_with fail
                go_roundw
                case rel => exact ⟨k + 1, by omega, by go_num, hF8⟩
                case measure => simp [intOf]; omega
            | false =>
              cases hb2 : bt R2 k with
              | true =>
                have hiN : k < N := hlt
                have i1 : (k : Int) < (N : Int) := by omega
                have hbO : bt R11 k = true := by rw [HO.out.2, hb1, hb2]; rfl
                have hbA : bt R12 k = false := by rw [HA.out.2, hb1, hb2]; rfl
                have hbV : bt R13 k = false := by rw [HV.out.2, hb1, hb2]; rfl
                have hbP : bt R14 k = true := by rw [HP.out.2, hb1, decide_eq_true hiN]; rfl
                have HBB := Lib.hid (And.intro hb1 (And.intro hb2 (And.intro hbO (And.intro hbA (And.intro hbV hbP)))))
                clear hb1 hb2 hbO hbA hbV hbP
                go_wp2_with fail
                have h0 : Five w N Kw T wr.drew ∧ wr.drew.cell? ⟨ab, 0, none⟩ = some (.int .i64 (N : Int)) ∧ wr.drew.cell? ⟨ab, 1, none⟩ = some (.slice g Kw c) ∧ wr.drew.cell? ⟨bb, 0, none⟩ = some (.int .i64 (N : Int)) ∧ wr.drew.cell? ⟨bb, 1, none⟩ = some (.slice g2 Kw c2) := ⟨hF3.step (Below.refl _ _).drew, (HPJ.out.1 _ (hF3.step (Below.refl _ _).drew)).two.c0, (HPJ.out.1 _ (hF3.step (Below.refl _ _).drew)).two.c1, (HPJ.out.2.1 _ (hF3.step (Below.refl _ _).drew)).two.c0, (HPJ.out.2.1 _ (hF3.step (Below.refl _ _).drew)).two.c1⟩
                clear hF3
                refine wp_region_noPanic ?_
                refine wp_region_held_drew (S := fun W => Five w N Kw T W ∧ W.cell? ⟨ab, 0, none⟩ = some (.int .i64 (N : Int)) ∧ W.cell? ⟨ab, 1, none⟩ = some (.slice g Kw c) ∧ W.cell? ⟨bb, 0, none⟩ = some (.int .i64 (N : Int)) ∧ W.cell? ⟨bb, 1, none⟩ = some (.slice g2 Kw c2)) (by kernel_rfl) (h0) (fun hHeld => ?_)
                refine wpAnyH_take (i := 0) (oi := { dst := some 169, op := Go.Op.load 24 (Go.Operand.tmp 8), type := 24, pos := "outright.go:113", after := #[], guard := none }) (v := ?v0qft) rfl (by kernel_rfl) (by kernel_rfl) (by kernel_rfl) (fun _ _ _ h => h) (Or.inl ⟨by rfl, ?hy0qft⟩) hHeld ?rest0qft
                case hy0qft =>
                  intro w hSw
                  try dsimp only at hSw
                  go_simp
                  try with_reducible rfl
                try simp only [Act.put, List.setIfInBounds_toArray, List.set_cons_zero, List.set_cons_succ]
                refine wpAnyH_take (i := 1) (oi := { dst := some 170, op := Go.Op.move (Go.Operand.tmp 30), type := 3, pos := "outright.go:113", after := #[], guard := none }) (v := ?v1qft) rfl (by kernel_rfl) (by kernel_rfl) (by kernel_rfl) (fun _ _ _ h => h) (Or.inl ⟨by rfl, ?hy1qft⟩) hHeld ?rest1qft
                case hy1qft =>
                  intro w hSw
                  try dsimp only at hSw
                  go_simp
                  try with_reducible rfl
                try simp only [Act.put, List.setIfInBounds_toArray, List.set_cons_zero, List.set_cons_succ]
                refine wpAnyH_take (i := 3) (oi := { dst := some 172, op := Go.Op.load 24 (Go.Operand.tmp 9), type := 24, pos := "outright.go:113", after := #[], guard := none }) (v := ?v3qft) rfl (by kernel_rfl) (by kernel_rfl) (by kernel_rfl) (fun _ _ _ h => h) (Or.inl ⟨by rfl, ?hy3qft⟩) hHeld ?rest3qft
                case hy3qft =>
                  intro w hSw
                  try dsimp only at hSw
                  go_simp
                  try with_reducible rfl
                try simp only [Act.put, List.setIfInBounds_toArray, List.set_cons_zero, List.set_cons_succ]
                refine wpAnyH_take (i := 4) (oi := { dst := some 173, op := Go.Op.move (Go.Operand.tmp 30), type := 3, pos := "outright.go:113", after := #[], guard := none }) (v := ?v4qft) rfl (by kernel_rfl) (by kernel_rfl) (by kernel_rfl) (fun _ _ _ h => h) (Or.inl ⟨by rfl, ?hy4qft⟩) hHeld ?rest4qft
                case hy4qft =>
                  intro w hSw
                  try dsimp only at hSw
                  go_simp
                  try with_reducible rfl
                try simp only [Act.put, List.setIfInBounds_toArray, List.set_cons_zero, List.set_cons_succ]
                refine wpAnyH_ready (rs := [2]) (by kernel_rfl) (by simp) ?_
                refine AllReadyH.cons (o := { dst := some 171, op := Go.Op.call { callee := Go.Callee.value (Go.Operand.func 28), args := #[Go.Operand.tmp 169, Go.Operand.tmp 170], argTypes := #[24, 3] }, type := 4, pos := "outright.go:113", after := #[{ on := 0, ground := Go.Ground.data }, { on := 1, ground := Go.Ground.data }], guard := none }) rfl (fun K hK => ?_) AllReadyH.nil
                go_simp
                refine (has_bit (HPJ.out.1 _ h0.1).set HR.out.1 (by omega) HBB.out.1).mono ?_
                rintro e v1 ⟨rfl, hD1⟩
                have h1 : Five w N Kw T v1 ∧ v1.cell? ⟨ab, 0, none⟩ = some (.int .i64 (N : Int)) ∧ v1.cell? ⟨ab, 1, none⟩ = some (.slice g Kw c) ∧ v1.cell? ⟨bb, 0, none⟩ = some (.int .i64 (N : Int)) ∧ v1.cell? ⟨bb, 1, none⟩ = some (.slice g2 Kw c2) := ⟨h0.1.step hD1, (HPJ.out.1 _ (h0.1.step hD1)).two.c0, (HPJ.out.1 _ (h0.1.step hD1)).two.c1, (HPJ.out.2.1 _ (h0.1.step hD1)).two.c0, (HPJ.out.2.1 _ (h0.1.step hD1)).two.c1⟩
                go_wp2_with fail
                refine hK.out _ _ (h1) (fun hHeld => ?_)
                clear hK K
                try simp only [Act.put, List.setIfInBounds_toArray, List.set_cons_zero, List.set_cons_succ]
                refine wpAnyH_ready (rs := [5]) (by kernel_rfl) (by simp) ?_
                refine AllReadyH.cons (o := { dst := some 174, op := Go.Op.call { callee := Go.Callee.value (Go.Operand.func 28), args := #[Go.Operand.tmp 172, Go.Operand.tmp 173], argTypes := #[24, 3] }, type := 4, pos := "outright.go:113", after := #[{ on := 3, ground := Go.Ground.data }, { on := 4, ground := Go.Ground.data }, { on := 2, ground := Go.Ground.chain }], guard := none }) rfl (fun K hK => ?_) AllReadyH.nil
                go_simp
                refine (has_bit (HPJ.out.2.1 _ h1.1).set HR.out.2 (by omega) HBB.out.2.1).mono ?_
                rintro e v2 ⟨rfl, hD2⟩
                have h2 : Five w N Kw T v2 ∧ v2.cell? ⟨ab, 0, none⟩ = some (.int .i64 (N : Int)) ∧ v2.cell? ⟨ab, 1, none⟩ = some (.slice g Kw c) ∧ v2.cell? ⟨bb, 0, none⟩ = some (.int .i64 (N : Int)) ∧ v2.cell? ⟨bb, 1, none⟩ = some (.slice g2 Kw c2) := ⟨h1.1.step hD2, (HPJ.out.1 _ (h1.1.step hD2)).two.c0, (HPJ.out.1 _ (h1.1.step hD2)).two.c1, (HPJ.out.2.1 _ (h1.1.step hD2)).two.c0, (HPJ.out.2.1 _ (h1.1.step hD2)).two.c1⟩
                go_wp2_with fail
                refine hK.out _ _ (h2) (fun hHeld => ?_)
                clear hK K
                try simp only [Act.put, List.setIfInBounds_toArray, List.set_cons_zero, List.set_cons_succ]
                refine wpAnyH_take (i := 6) (oi := { dst := some 31, op := Go.Op.assign (Go.Operand.tmp 171), type := 4, pos := "outright.go:113", after := #[{ on := 2, ground := Go.Ground.data }, { on := 5, ground := Go.Ground.chain }, { on := 0, ground := Go.Ground.phase }, { on := 1, ground := Go.Ground.phase }, { on := 2, ground := Go.Ground.phase }, { on := 3, ground := Go.Ground.textOnly Go.Departure.lateStores }, { on := 4, ground := Go.Ground.textOnly Go.Departure.lateStores }, { on := 5, ground := Go.Ground.textOnly Go.Departure.lateStoresUnsure }], guard := none }) (v := ?v6qft) rfl (by kernel_rfl) (by kernel_rfl) (by kernel_rfl) (fun _ _ _ h => h) (Or.inl ⟨by rfl, ?hy6qft⟩) hHeld ?rest6qft
                case hy6qft =>
                  intro w hSw
                  try dsimp only at hSw
                  go_simp
                  try with_reducible rfl
                try simp only [Act.put, List.setIfInBounds_toArray, List.set_cons_zero, List.set_cons_succ]
                refine wpAnyH_take (i := 7) (oi := { dst := some 32, op := Go.Op.assign (Go.Operand.tmp 174), type := 4, pos := "outright.go:113", after := #[{ on := 5, ground := Go.Ground.data }, { on := 6, ground := Go.Ground.chain }, { on := 0, ground := Go.Ground.phase }, { on := 1, ground := Go.Ground.phase }, { on := 2, ground := Go.Ground.phase }, { on := 3, ground := Go.Ground.phase }, { on := 4, ground := Go.Ground.phase }, { on := 5, ground := Go.Ground.phase }, { on := 6, ground := Go.Ground.phase }], guard := none }) (v := ?v7qft) rfl (by kernel_rfl) (by kernel_rfl) (by kernel_rfl) (fun _ _ _ h => h) (Or.inl ⟨by rfl, ?hy7qft⟩) hHeld ?rest7qft
                case hy7qft =>
                  intro w hSw
                  try dsimp only at hSw
                  go_simp
                  try with_reducible rfl
                try simp only [Act.put, List.setIfInBounds_toArray, List.set_cons_zero, List.set_cons_succ]
                refine wpAnyH_done (by kernel_rfl) ?_ _
                refine NoPanic.normal ?_
                have hF4 := h2.1
                clear h0 h1 h2
                have d0 := (HPJ.out.2.2.1 _ hF4).two.c0
                have d1 := (HPJ.out.2.2.1 _ hF4).two.c1
                have q := has_bit (HPJ.out.2.2.1 _ hF4).set HO.out.1 (by omega) HBB.out.2.2.1
                go_wp2_with fail
                refine q.mono ?_
                rintro e y4 ⟨rfl, hD⟩
                have hF5 := hF4.step hD
                clear hF4 q hD d0 d1
                have d0 := (HPJ.out.2.2.2.1 _ hF5).two.c0
                have d1 := (HPJ.out.2.2.2.1 _ hF5).two.c1
                have q := has_bit (HPJ.out.2.2.2.1 _ hF5).set HA.out.1 (by omega) HBB.out.2.2.2.1
                go_wp2_with fail
                refine q.mono ?_
                rintro e y5 ⟨rfl, hD⟩
                have hF6 := hF5.step hD
                clear hF5 q hD d0 d1
                have d0 := (HPJ.out.2.2.2.2.1 _ hF6).two.c0
                have d1 := (HPJ.out.2.2.2.2.1 _ hF6).two.c1
                have q := has_bit (HPJ.out.2.2.2.2.1 _ hF6).set HV.out.1 (by omega) HBB.out.2.2.2.2.1
                go_wp2_with fail
                refine q.mono ?_
                rintro e y6 ⟨rfl, hD⟩
                have hF7 := hF6.step hD
                clear hF6 q hD d0 d1
                have d0 := (HPJ.out.2.2.2.2.2.1 _ hF7).two.c0
                have d1 := (HPJ.out.2.2.2.2.2.1 _ hF7).two.c1
                have q := has_bit (HPJ.out.2.2.2.2.2.1 _ hF7).set HP.out.1 (by omega) HBB.out.2.2.2.2.2
                go_wp2_with fail
                refine q.mono ?_
                rintro e y7 ⟨rfl, hD⟩
                have hF8 := hF7.step hD
                clear hF7 q hD d0 d1
                go_wp2_with fail
                go_roundw
                case rel => exact ⟨k + 1, by omega, by go_num, hF8⟩
                case measure => simp [intOf]; omega
              | false =>
                have hiN : k < N := hlt
                have i1 : (k : Int) < (N : Int) := by omega
                have hbO : bt R11 k = false := by rw [HO.out.2, hb1, hb2]; rfl
                have hbA : bt R12 k = false := by rw [HA.out.2, hb1, hb2]; rfl
                have hbV : bt R13 k = false := by rw [HV.out.2, hb1, hb2]; rfl
                have hbP : bt R14 k = true := by rw [HP.out.2, hb1, decide_eq_true hiN]; rfl
                have HBB := Lib.hid (And.intro hb1 (And.intro hb2 (And.intro hbO (And.intro hbA (And.intro hbV hbP)))))
                clear hb1 hb2 hbO hbA hbV hbP
                go_wp2_with fail
                have h0 : Five w N Kw T wr.drew ∧ wr.drew.cell? ⟨ab, 0, none⟩ = some (.int .i64 (N : Int)) ∧ wr.drew.cell? ⟨ab, 1, none⟩ = some (.slice g Kw c) ∧ wr.drew.cell? ⟨bb, 0, none⟩ = some (.int .i64 (N : Int)) ∧ wr.drew.cell? ⟨bb, 1, none⟩ = some (.slice g2 Kw c2) := ⟨hF3.step (Below.refl _ _).drew, (HPJ.out.1 _ (hF3.step (Below.refl _ _).drew)).two.c0, (HPJ.out.1 _ (hF3.step (Below.refl _ _).drew)).two.c1, (HPJ.out.2.1 _ (hF3.step (Below.refl _ _).drew)).two.c0, (HPJ.out.2.1 _ (hF3.step (Below.refl _ _).drew)).two.c1⟩
                clear hF3
                refine wp_region_noPanic ?_
                refine wp_region_held_drew (S := fun W => Five w N Kw T W ∧ W.cell? ⟨ab, 0, none⟩ = some (.int .i64 (N : Int)) ∧ W.cell? ⟨ab, 1, none⟩ = some (.slice g Kw c) ∧ W.cell? ⟨bb, 0, none⟩ = some (.int .i64 (N : Int)) ∧ W.cell? ⟨bb, 1, none⟩ = some (.slice g2 Kw c2)) (by kernel_rfl) (h0) (fun hHeld => ?_)
                refine wpAnyH_take (i := 0) (oi := { dst := some 169, op := Go.Op.load 24 (Go.Operand.tmp 8), type := 24, pos := "outright.go:113", after := #[], guard := none }) (v := ?v0qff) rfl (by kernel_rfl) (by kernel_rfl) (by kernel_rfl) (fun _ _ _ h => h) (Or.inl ⟨by rfl, ?hy0qff⟩) hHeld ?rest0qff
                case hy0qff =>
                  intro w hSw
                  try dsimp only at hSw
                  go_simp
                  try with_reducible rfl
                try simp only [Act.put, List.setIfInBounds_toArray, List.set_cons_zero, List.set_cons_succ]
                refine wpAnyH_take (i := 1) (oi := { dst := some 170, op := Go.Op.move (Go.Operand.tmp 30), type := 3, pos := "outright.go:113", after := #[], guard := none }) (v := ?v1qff) rfl (by kernel_rfl) (by kernel_rfl) (by kernel_rfl) (fun _ _ _ h => h) (Or.inl ⟨by rfl, ?hy1qff⟩) hHeld ?rest1qff
                case hy1qff =>
                  intro w hSw
                  try dsimp only at hSw
                  go_simp
                  try with_reducible rfl
                try simp only [Act.put, List.setIfInBounds_toArray, List.set_cons_zero, List.set_cons_succ]
                refine wpAnyH_take (i := 3) (oi := { dst := some 172, op := Go.Op.load 24 (Go.Operand.tmp 9), type := 24, pos := "outright.go:113", after := #[], guard := none }) (v := ?v3qff) rfl (by kernel_rfl) (by kernel_rfl) (by kernel_rfl) (fun _ _ _ h => h) (Or.inl ⟨by rfl, ?hy3qff⟩) hHeld ?rest3qff
                case hy3qff =>
                  intro w hSw
                  try dsimp only at hSw
                  go_simp
                  try with_reducible rfl
                try simp only [Act.put, List.setIfInBounds_toArray, List.set_cons_zero, List.set_cons_succ]
                refine wpAnyH_take (i := 4) (oi := { dst := some 173, op := Go.Op.move (Go.Operand.tmp 30), type := 3, pos := "outright.go:113", after := #[], guard := none }) (v := ?v4qff) rfl (by kernel_rfl) (by kernel_rfl) (by kernel_rfl) (fun _ _ _ h => h) (Or.inl ⟨by rfl, ?hy4qff⟩) hHeld ?rest4qff
                case hy4qff =>
                  intro w hSw
                  try dsimp only at hSw
                  go_simp
                  try with_reducible rfl
                try simp only [Act.put, List.setIfInBounds_toArray, List.set_cons_zero, List.set_cons_succ]
                refine wpAnyH_ready (rs := [2]) (by kernel_rfl) (by simp) ?_
                refine AllReadyH.cons (o := { dst := some 171, op := Go.Op.call { callee := Go.Callee.value (Go.Operand.func 28), args := #[Go.Operand.tmp 169, Go.Operand.tmp 170], argTypes := #[24, 3] }, type := 4, pos := "outright.go:113", after := #[{ on := 0, ground := Go.Ground.data }, { on := 1, ground := Go.Ground.data }], guard := none }) rfl (fun K hK => ?_) AllReadyH.nil
                go_simp
                refine (has_bit (HPJ.out.1 _ h0.1).set HR.out.1 (by omega) HBB.out.1).mono ?_
                rintro e v1 ⟨rfl, hD1⟩
                have h1 : Five w N Kw T v1 ∧ v1.cell? ⟨ab, 0, none⟩ = some (.int .i64 (N : Int)) ∧ v1.cell? ⟨ab, 1, none⟩ = some (.slice g Kw c) ∧ v1.cell? ⟨bb, 0, none⟩ = some (.int .i64 (N : Int)) ∧ v1.cell? ⟨bb, 1, none⟩ = some (.slice g2 Kw c2) := ⟨h0.1.step hD1, (HPJ.out.1 _ (h0.1.step hD1)).two.c0, (HPJ.out.1 _ (h0.1.step hD1)).two.c1, (HPJ.out.2.1 _ (h0.1.step hD1)).two.c0, (HPJ.out.2.1 _ (h0.1.step hD1)).two.c1⟩
                go_wp2_with fail
                refine hK.out _ _ (h1) (fun hHeld => ?_)
                clear hK K
                try simp only [Act.put, List.setIfInBounds_toArray, List.set_cons_zero, List.set_cons_succ]
                refine wpAnyH_ready (rs := [5]) (by kernel_rfl) (by simp) ?_
                refine AllReadyH.cons (o := { dst := some 174, op := Go.Op.call { callee := Go.Callee.value (Go.Operand.func 28), args := #[Go.Operand.tmp 172, Go.Operand.tmp 173], argTypes := #[24, 3] }, type := 4, pos := "outright.go:113", after := #[{ on := 3, ground := Go.Ground.data }, { on := 4, ground := Go.Ground.data }, { on := 2, ground := Go.Ground.chain }], guard := none }) rfl (fun K hK => ?_) AllReadyH.nil
                go_simp
                refine (has_bit (HPJ.out.2.1 _ h1.1).set HR.out.2 (by omega) HBB.out.2.1).mono ?_
                rintro e v2 ⟨rfl, hD2⟩
                have h2 : Five w N Kw T v2 ∧ v2.cell? ⟨ab, 0, none⟩ = some (.int .i64 (N : Int)) ∧ v2.cell? ⟨ab, 1, none⟩ = some (.slice g Kw c) ∧ v2.cell? ⟨bb, 0, none⟩ = some (.int .i64 (N : Int)) ∧ v2.cell? ⟨bb, 1, none⟩ = some (.slice g2 Kw c2) := ⟨h1.1.step hD2, (HPJ.out.1 _ (h1.1.step hD2)).two.c0, (HPJ.out.1 _ (h1.1.step hD2)).two.c1, (HPJ.out.2.1 _ (h1.1.step hD2)).two.c0, (HPJ.out.2.1 _ (h1.1.step hD2)).two.c1⟩
                go_wp2_with fail
                refine hK.out _ _ (h2) (fun hHeld => ?_)
                clear hK K
                try simp only [Act.put, List.setIfInBounds_toArray, List.set_cons_zero, List.set_cons_succ]
                refine wpAnyH_take (i := 6) (oi := { dst := some 31, op := Go.Op.assign (Go.Operand.tmp 171), type := 4, pos := "outright.go:113", after := #[{ on := 2, ground := Go.Ground.data }, { on := 5, ground := Go.Ground.chain }, { on := 0, ground := Go.Ground.phase }, { on := 1, ground := Go.Ground.phase }, { on := 2, ground := Go.Ground.phase }, { on := 3, ground := Go.Ground.textOnly Go.Departure.lateStores }, { on := 4, ground := Go.Ground.textOnly Go.Departure.lateStores }, { on := 5, ground := Go.Ground.textOnly Go.Departure.lateStoresUnsure }], guard := none }) (v := ?v6qff) rfl (by kernel_rfl) (by kernel_rfl) (by kernel_rfl) (fun _ _ _ h => h) (Or.inl ⟨by rfl, ?hy6qff⟩) hHeld ?rest6qff
                case hy6qff =>
                  intro w hSw
                  try dsimp only at hSw
                  go_simp
                  try with_reducible rfl
                try simp only [Act.put, List.setIfInBounds_toArray, List.set_cons_zero, List.set_cons_succ]
                refine wpAnyH_take (i := 7) (oi := { dst := some 32, op := Go.Op.assign (Go.Operand.tmp 174), type := 4, pos := "outright.go:113", after := #[{ on := 5, ground := Go.Ground.data }, { on := 6, ground := Go.Ground.chain }, { on := 0, ground := Go.Ground.phase }, { on := 1, ground := Go.Ground.phase }, { on := 2, ground := Go.Ground.phase }, { on := 3, ground := Go.Ground.phase }, { on := 4, ground := Go.Ground.phase }, { on := 5, ground := Go.Ground.phase }, { on := 6, ground := Go.Ground.phase }], guard := none }) (v := ?v7qff) rfl (by kernel_rfl) (by kernel_rfl) (by kernel_rfl) (fun _ _ _ h => h) (Or.inl ⟨by rfl, ?hy7qff⟩) hHeld ?rest7qff
                case hy7qff =>
                  intro w hSw
                  try dsimp only at hSw
                  go_simp
                  try with_reducible rfl
                try simp only [Act.put, List.setIfInBounds_toArray, List.set_cons_zero, List.set_cons_succ]
                refine wpAnyH_done (by kernel_rfl) ?_ _
                refine NoPanic.normal ?_
                have hF4 := h2.1
                clear h0 h1 h2
                have d0 := (HPJ.out.2.2.1 _ hF4).two.c0
                have d1 := (HPJ.out.2.2.1 _ hF4).two.c1
                have q := has_bit (HPJ.out.2.2.1 _ hF4).set HO.out.1 (by omega) HBB.out.2.2.1
                go_wp2_with fail
                refine q.mono ?_
                rintro e y4 ⟨rfl, hD⟩
                have hF5 := hF4.step hD
                clear hF4 q hD d0 d1
                have d0 := (HPJ.out.2.2.2.1 _ hF5).two.c0
                have d1 := (HPJ.out.2.2.2.1 _ hF5).two.c1
                have q := has_bit (HPJ.out.2.2.2.1 _ hF5).set HA.out.1 (by omega) HBB.out.2.2.2.1
                go_wp2_with fail
                refine q.mono ?_
                rintro e y5 ⟨rfl, hD⟩
                have hF6 := hF5.step hD
                clear hF5 q hD d0 d1
                have d0 := (HPJ.out.2.2.2.2.1 _ hF6).two.c0
                have d1 := (HPJ.out.2.2.2.2.1 _ hF6).two.c1
                have q := has_bit (HPJ.out.2.2.2.2.1 _ hF6).set HV.out.1 (by omega) HBB.out.2.2.2.2.1
                go_wp2_with fail
                refine q.mono ?_
                rintro e y6 ⟨rfl, hD⟩
                have hF7 := hF6.step hD
                clear hF6 q hD d0 d1
                have d0 := (HPJ.out.2.2.2.2.2.1 _ hF7).two.c0
                have d1 := (HPJ.out.2.2.2.2.2.1 _ hF7).two.c1
                have q := has_bit (HPJ.out.2.2.2.2.2.1 _ hF7).set HP.out.1 (by omega) HBB.out.2.2.2.2.2
                go_wp2_with fail
                refine q.mono ?_
                rintro e y7 ⟨rfl, hD⟩
                have hF8 := hF7.step hD
                clear hF7 q hD d0 d1
                go_wp2_with fail
                go_roundw
                case rel => exact ⟨k + 1, by omega, by go_num, hF8⟩
                case measure => simp [intOf]; omega
          · obtain rfl : N = k := by omega
            have hcnt := all_both (HPJ.out.1 _ hF3).set.sl.1 (HPJ.out.2.1 _ hF3).set.sl.1 (HPJ.out.2.2.1 _ hF3).set.sl.1 (HPJ.out.2.2.2.1 _ hF3).set.sl.1 (HPJ.out.2.2.2.2.1 _ hF3).set.sl.1 HO.out.2 HA.out.2 HV.out.2
            have hl1 : Kw ≤ 1024 := by have := HK.out; omega
            obtain ⟨nO, hnO⟩ : ∃ q, q = (all R11).length := ⟨_, rfl⟩
            have znO := all_small (l := R11) (by rw [(HPJ.out.2.2.1 _ hF3).set.sl.1]; omega)
            obtain ⟨nA, hnA⟩ : ∃ q, q = (all R12).length := ⟨_, rfl⟩
            have znA := all_small (l := R12) (by rw [(HPJ.out.2.2.2.1 _ hF3).set.sl.1]; omega)
            obtain ⟨nS, hnS⟩ : ∃ q, q = (all R).length := ⟨_, rfl⟩
            have znS := all_small (l := R) (by rw [(HPJ.out.1 _ hF3).set.sl.1]; omega)
            obtain ⟨nM, hnM⟩ : ∃ q, q = (all R2).length := ⟨_, rfl⟩
            have znM := all_small (l := R2) (by rw [(HPJ.out.2.1 _ hF3).set.sl.1]; omega)
            obtain ⟨nV, hnV⟩ : ∃ q, q = (all R13).length := ⟨_, rfl⟩
            have znV := all_small (l := R13) (by rw [(HPJ.out.2.2.2.2.1 _ hF3).set.sl.1]; omega)
            rw [← hnO, ← hnA, ← hnS, ← hnM, ← hnV] at hcnt
            rw [← hnO] at znO
            rw [← hnA] at znA
            rw [← hnS] at znS
            rw [← hnM] at znM
            rw [← hnV] at znV
            obtain ⟨nt, hnt⟩ : ∃ q, q = nO + nA := ⟨_, rfl⟩
            have f1 : (nO : Int) + (nA : Int) = (nt : Int) := by omega
            have f2 : (nS : Int) + (nM : Int) = (nt : Int) := by omega
            have f3 : (nS : Int) - (nA : Int) = (nV : Int) := by omega
            have f4 : IntKind.i64.wrap (nt : Int) = (nt : Int) := by rw [IntKind.wrap_i64]; omega
            have f5 : IntKind.i64.wrap (nV : Int) = (nV : Int) := by rw [IntKind.wrap_i64]; omega
            have f6 : ((nt : Int) == (nt : Int)) = true := by simp
            have f7 : ((nV : Int) == (nV : Int)) = true := by simp
            have HCN := Lib.hid (And.intro hnO (And.intro hnA (And.intro hnS (And.intro hnM hnV))))
            clear hcnt hnO hnA hnS hnM hnV hnt znO znA znS znM znV hlt hk
            go_wp2_with fail
            have h0 : Five w N Kw T wr.drew ∧ wr.drew.cell? ⟨ab, 0, none⟩ = some (.int .i64 (N : Int)) ∧ wr.drew.cell? ⟨ab, 1, none⟩ = some (.slice g Kw c) ∧ wr.drew.cell? ⟨bb, 0, none⟩ = some (.int .i64 (N : Int)) ∧ wr.drew.cell? ⟨bb, 1, none⟩ = some (.slice g2 Kw c2) ∧ wr.drew.cell? ⟨vO.heap.size, 0, none⟩ = some (.int .i64 (N : Int)) ∧ wr.drew.cell? ⟨vO.heap.size, 1, none⟩ = some (.slice g11 Kw c11) ∧ wr.drew.cell? ⟨vA.heap.size, 0, none⟩ = some (.int .i64 (N : Int)) ∧ wr.drew.cell? ⟨vA.heap.size, 1, none⟩ = some (.slice g12 Kw c12) ∧ wr.drew.cell? ⟨vV.heap.size, 0, none⟩ = some (.int .i64 (N : Int)) ∧ wr.drew.cell? ⟨vV.heap.size, 1, none⟩ = some (.slice g13 Kw c13) := ⟨hF3.step (Below.refl _ _).drew, (HPJ.out.1 _ (hF3.step (Below.refl _ _).drew)).two.c0, (HPJ.out.1 _ (hF3.step (Below.refl _ _).drew)).two.c1, (HPJ.out.2.1 _ (hF3.step (Below.refl _ _).drew)).two.c0, (HPJ.out.2.1 _ (hF3.step (Below.refl _ _).drew)).two.c1, (HPJ.out.2.2.1 _ (hF3.step (Below.refl _ _).drew)).two.c0, (HPJ.out.2.2.1 _ (hF3.step (Below.refl _ _).drew)).two.c1, (HPJ.out.2.2.2.1 _ (hF3.step (Below.refl _ _).drew)).two.c0, (HPJ.out.2.2.2.1 _ (hF3.step (Below.refl _ _).drew)).two.c1, (HPJ.out.2.2.2.2.1 _ (hF3.step (Below.refl _ _).drew)).two.c0, (HPJ.out.2.2.2.2.1 _ (hF3.step (Below.refl _ _).drew)).two.c1⟩
            clear hF3
            refine wp_region_noPanic ?_
            refine wp_region_held_drew (S := fun W => Five w N Kw T W ∧ W.cell? ⟨ab, 0, none⟩ = some (.int .i64 (N : Int)) ∧ W.cell? ⟨ab, 1, none⟩ = some (.slice g Kw c) ∧ W.cell? ⟨bb, 0, none⟩ = some (.int .i64 (N : Int)) ∧ W.cell? ⟨bb, 1, none⟩ = some (.slice g2 Kw c2) ∧ W.cell? ⟨vO.heap.size, 0, none⟩ = some (.int .i64 (N : Int)) ∧ W.cell? ⟨vO.heap.size, 1, none⟩ = some (.slice g11 Kw c11) ∧ W.cell? ⟨vA.heap.size, 0, none⟩ = some (.int .i64 (N : Int)) ∧ W.cell? ⟨vA.heap.size, 1, none⟩ = some (.slice g12 Kw c12) ∧ W.cell? ⟨vV.heap.size, 0, none⟩ = some (.int .i64 (N : Int)) ∧ W.cell? ⟨vV.heap.size, 1, none⟩ = some (.slice g13 Kw c13)) (by kernel_rfl) (h0) (fun hHeld => ?_)
            refine wpAnyH_take (i := 0) (oi := { dst := some 212, op := Go.Op.load 24 (Go.Operand.tmp 10), type := 24, pos := "outright.go:118", after := #[], guard := none }) (v := ?v0qz) rfl (by kernel_rfl) (by kernel_rfl) (by kernel_rfl) (fun _ _ _ h => h) (Or.inl ⟨by rfl, ?hy0qz⟩) hHeld ?rest0qz
            case hy0qz =>
              intro w hSw
              try dsimp only at hSw
              go_simp
              try with_reducible rfl
            try simp only [Act.put, List.setIfInBounds_toArray, List.set_cons_zero, List.set_cons_succ]
            refine wpAnyH_take (i := 2) (oi := { dst := some 214, op := Go.Op.load 24 (Go.Operand.tmp 12), type := 24, pos := "outright.go:118", after := #[], guard := none }) (v := ?v2qz) rfl (by kernel_rfl) (by kernel_rfl) (by kernel_rfl) (fun _ _ _ h => h) (Or.inl ⟨by rfl, ?hy2qz⟩) hHeld ?rest2qz
            case hy2qz =>
              intro w hSw
              try dsimp only at hSw
              go_simp
              try with_reducible rfl
            try simp only [Act.put, List.setIfInBounds_toArray, List.set_cons_zero, List.set_cons_succ]
            refine wpAnyH_take (i := 5) (oi := { dst := some 217, op := Go.Op.load 24 (Go.Operand.tmp 8), type := 24, pos := "outright.go:118", after := #[], guard := none }) (v := ?v5qz) rfl (by kernel_rfl) (by kernel_rfl) (by kernel_rfl) (fun _ _ _ h => h) (Or.inl ⟨by rfl, ?hy5qz⟩) hHeld ?rest5qz
            case hy5qz =>
              intro w hSw
              try dsimp only at hSw
              go_simp
              try with_reducible rfl
            try simp only [Act.put, List.setIfInBounds_toArray, List.set_cons_zero, List.set_cons_succ]
            refine wpAnyH_take (i := 7) (oi := { dst := some 219, op := Go.Op.load 24 (Go.Operand.tmp 9), type := 24, pos := "outright.go:118", after := #[], guard := none }) (v := ?v7qz) rfl (by kernel_rfl) (by kernel_rfl) (by kernel_rfl) (fun _ _ _ h => h) (Or.inl ⟨by rfl, ?hy7qz⟩) hHeld ?rest7qz
            case hy7qz =>
              intro w hSw
              try dsimp only at hSw
              go_simp
              try with_reducible rfl
            try simp only [Act.put, List.setIfInBounds_toArray, List.set_cons_zero, List.set_cons_succ]
            refine wpAnyH_ready (rs := [1]) (by kernel_rfl) (by simp) ?_
            refine AllReadyH.cons (o := { dst := some 213, op := Go.Op.call { callee := Go.Callee.value (Go.Operand.func 21), args := #[Go.Operand.tmp 212], argTypes := #[24] }, type := 3, pos := "outright.go:118", after := #[{ on := 0, ground := Go.Ground.data }], guard := none }) rfl (fun K hK => ?_) AllReadyH.nil
            go_simp
            refine (count_bit (HPJ.out.2.2.1 _ h0.1).set HO.out.1 HCN.out.1).mono ?_
            rintro e v1 ⟨rfl, hD1⟩
            have h1 : Five w N Kw T v1 ∧ v1.cell? ⟨ab, 0, none⟩ = some (.int .i64 (N : Int)) ∧ v1.cell? ⟨ab, 1, none⟩ = some (.slice g Kw c) ∧ v1.cell? ⟨bb, 0, none⟩ = some (.int .i64 (N : Int)) ∧ v1.cell? ⟨bb, 1, none⟩ = some (.slice g2 Kw c2) ∧ v1.cell? ⟨vO.heap.size, 0, none⟩ = some (.int .i64 (N : Int)) ∧ v1.cell? ⟨vO.heap.size, 1, none⟩ = some (.slice g11 Kw c11) ∧ v1.cell? ⟨vA.heap.size, 0, none⟩ = some (.int .i64 (N : Int)) ∧ v1.cell? ⟨vA.heap.size, 1, none⟩ = some (.slice g12 Kw c12) ∧ v1.cell? ⟨vV.heap.size, 0, none⟩ = some (.int .i64 (N : Int)) ∧ v1.cell? ⟨vV.heap.size, 1, none⟩ = some (.slice g13 Kw c13) := ⟨h0.1.step hD1, (HPJ.out.1 _ (h0.1.step hD1)).two.c0, (HPJ.out.1 _ (h0.1.step hD1)).two.c1, (HPJ.out.2.1 _ (h0.1.step hD1)).two.c0, (HPJ.out.2.1 _ (h0.1.step hD1)).two.c1, (HPJ.out.2.2.1 _ (h0.1.step hD1)).two.c0, (HPJ.out.2.2.1 _ (h0.1.step hD1)).two.c1, (HPJ.out.2.2.2.1 _ (h0.1.step hD1)).two.c0, (HPJ.out.2.2.2.1 _ (h0.1.step hD1)).two.c1, (HPJ.out.2.2.2.2.1 _ (h0.1.step hD1)).two.c0, (HPJ.out.2.2.2.2.1 _ (h0.1.step hD1)).two.c1⟩
            go_wp2_with fail
            refine hK.out _ _ (h1) (fun hHeld => ?_)
            clear hK K
            try simp only [Act.put, List.setIfInBounds_toArray, List.set_cons_zero, List.set_cons_succ]
            refine wpAnyH_ready (rs := [3]) (by kernel_rfl) (by simp) ?_
            refine AllReadyH.cons (o := { dst := some 215, op := Go.Op.call { callee := Go.Callee.value (Go.Operand.func 21), args := #[Go.Operand.tmp 214], argTypes := #[24] }, type := 3, pos := "outright.go:118", after := #[{ on := 2, ground := Go.Ground.data }, { on := 1, ground := Go.Ground.chain }], guard := none }) rfl (fun K hK => ?_) AllReadyH.nil
            go_simp
            refine (count_bit (HPJ.out.2.2.2.1 _ h1.1).set HA.out.1 HCN.out.2.1).mono ?_
            rintro e v2 ⟨rfl, hD2⟩
            have h2 : Five w N Kw T v2 ∧ v2.cell? ⟨ab, 0, none⟩ = some (.int .i64 (N : Int)) ∧ v2.cell? ⟨ab, 1, none⟩ = some (.slice g Kw c) ∧ v2.cell? ⟨bb, 0, none⟩ = some (.int .i64 (N : Int)) ∧ v2.cell? ⟨bb, 1, none⟩ = some (.slice g2 Kw c2) ∧ v2.cell? ⟨vO.heap.size, 0, none⟩ = some (.int .i64 (N : Int)) ∧ v2.cell? ⟨vO.heap.size, 1, none⟩ = some (.slice g11 Kw c11) ∧ v2.cell? ⟨vA.heap.size, 0, none⟩ = some (.int .i64 (N : Int)) ∧ v2.cell? ⟨vA.heap.size, 1, none⟩ = some (.slice g12 Kw c12) ∧ v2.cell? ⟨vV.heap.size, 0, none⟩ = some (.int .i64 (N : Int)) ∧ v2.cell? ⟨vV.heap.size, 1, none⟩ = some (.slice g13 Kw c13) := ⟨h1.1.step hD2, (HPJ.out.1 _ (h1.1.step hD2)).two.c0, (HPJ.out.1 _ (h1.1.step hD2)).two.c1, (HPJ.out.2.1 _ (h1.1.step hD2)).two.c0, (HPJ.out.2.1 _ (h1.1.step hD2)).two.c1, (HPJ.out.2.2.1 _ (h1.1.step hD2)).two.c0, (HPJ.out.2.2.1 _ (h1.1.step hD2)).two.c1, (HPJ.out.2.2.2.1 _ (h1.1.step hD2)).two.c0, (HPJ.out.2.2.2.1 _ (h1.1.step hD2)).two.c1, (HPJ.out.2.2.2.2.1 _ (h1.1.step hD2)).two.c0, (HPJ.out.2.2.2.2.1 _ (h1.1.step hD2)).two.c1⟩
            go_wp2_with fail
            refine hK.out _ _ (h2) (fun hHeld => ?_)
            clear hK K
            try simp only [Act.put, List.setIfInBounds_toArray, List.set_cons_zero, List.set_cons_succ]
            refine wpAnyH_take (i := 4) (oi := { dst := some 216, op := Go.Op.binOp Go.BinOp.add 3 (Go.Operand.tmp 213) (Go.Operand.tmp 215) 3, type := 3, pos := "outright.go:118", after := #[{ on := 1, ground := Go.Ground.data }, { on := 3, ground := Go.Ground.data }], guard := none }) (v := ?v4qz) rfl (by kernel_rfl) (by kernel_rfl) (by kernel_rfl) (fun _ _ _ h => h) (Or.inl ⟨by rfl, ?hy4qz⟩) hHeld ?rest4qz
            case hy4qz =>
              intro w hSw
              try dsimp only at hSw
              go_simp
              try with_reducible rfl
            try simp only [Act.put, List.setIfInBounds_toArray, List.set_cons_zero, List.set_cons_succ]
            refine wpAnyH_ready (rs := [6]) (by kernel_rfl) (by simp) ?_
            refine AllReadyH.cons (o := { dst := some 218, op := Go.Op.call { callee := Go.Callee.value (Go.Operand.func 21), args := #[Go.Operand.tmp 217], argTypes := #[24] }, type := 3, pos := "outright.go:118", after := #[{ on := 5, ground := Go.Ground.data }, { on := 3, ground := Go.Ground.chain }], guard := none }) rfl (fun K hK => ?_) AllReadyH.nil
            go_simp
            refine (count_bit (HPJ.out.1 _ h2.1).set HR.out.1 HCN.out.2.2.1).mono ?_
            rintro e v3 ⟨rfl, hD3⟩
            have h3 : Five w N Kw T v3 ∧ v3.cell? ⟨ab, 0, none⟩ = some (.int .i64 (N : Int)) ∧ v3.cell? ⟨ab, 1, none⟩ = some (.slice g Kw c) ∧ v3.cell? ⟨bb, 0, none⟩ = some (.int .i64 (N : Int)) ∧ v3.cell? ⟨bb, 1, none⟩ = some (.slice g2 Kw c2) ∧ v3.cell? ⟨vO.heap.size, 0, none⟩ = some (.int .i64 (N : Int)) ∧ v3.cell? ⟨vO.heap.size, 1, none⟩ = some (.slice g11 Kw c11) ∧ v3.cell? ⟨vA.heap.size, 0, none⟩ = some (.int .i64 (N : Int)) ∧ v3.cell? ⟨vA.heap.size, 1, none⟩ = some (.slice g12 Kw c12) ∧ v3.cell? ⟨vV.heap.size, 0, none⟩ = some (.int .i64 (N : Int)) ∧ v3.cell? ⟨vV.heap.size, 1, none⟩ = some (.slice g13 Kw c13) := ⟨h2.1.step hD3, (HPJ.out.1 _ (h2.1.step hD3)).two.c0, (HPJ.out.1 _ (h2.1.step hD3)).two.c1, (HPJ.out.2.1 _ (h2.1.step hD3)).two.c0, (HPJ.out.2.1 _ (h2.1.step hD3)).two.c1, (HPJ.out.2.2.1 _ (h2.1.step hD3)).two.c0, (HPJ.out.2.2.1 _ (h2.1.step hD3)).two.c1, (HPJ.out.2.2.2.1 _ (h2.1.step hD3)).two.c0, (HPJ.out.2.2.2.1 _ (h2.1.step hD3)).two.c1, (HPJ.out.2.2.2.2.1 _ (h2.1.step hD3)).two.c0, (HPJ.out.2.2.2.2.1 _ (h2.1.step hD3)).two.c1⟩
            go_wp2_with fail
            refine hK.out _ _ (h3) (fun hHeld => ?_)
            clear hK K
            try simp only [Act.put, List.setIfInBounds_toArray, List.set_cons_zero, List.set_cons_succ]
            refine wpAnyH_ready (rs := [8]) (by kernel_rfl) (by simp) ?_
            refine AllReadyH.cons (o := { dst := some 220, op := Go.Op.call { callee := Go.Callee.value (Go.Operand.func 21), args := #[Go.Operand.tmp 219], argTypes := #[24] }, type := 3, pos := "outright.go:118", after := #[{ on := 7, ground := Go.Ground.data }, { on := 6, ground := Go.Ground.chain }], guard := none }) rfl (fun K hK => ?_) AllReadyH.nil
            go_simp
            refine (count_bit (HPJ.out.2.1 _ h3.1).set HR.out.2 HCN.out.2.2.2.1).mono ?_
            rintro e v4 ⟨rfl, hD4⟩
            have h4 : Five w N Kw T v4 ∧ v4.cell? ⟨ab, 0, none⟩ = some (.int .i64 (N : Int)) ∧ v4.cell? ⟨ab, 1, none⟩ = some (.slice g Kw c) ∧ v4.cell? ⟨bb, 0, none⟩ = some (.int .i64 (N : Int)) ∧ v4.cell? ⟨bb, 1, none⟩ = some (.slice g2 Kw c2) ∧ v4.cell? ⟨vO.heap.size, 0, none⟩ = some (.int .i64 (N : Int)) ∧ v4.cell? ⟨vO.heap.size, 1, none⟩ = some (.slice g11 Kw c11) ∧ v4.cell? ⟨vA.heap.size, 0, none⟩ = some (.int .i64 (N : Int)) ∧ v4.cell? ⟨vA.heap.size, 1, none⟩ = some (.slice g12 Kw c12) ∧ v4.cell? ⟨vV.heap.size, 0, none⟩ = some (.int .i64 (N : Int)) ∧ v4.cell? ⟨vV.heap.size, 1, none⟩ = some (.slice g13 Kw c13) := ⟨h3.1.step hD4, (HPJ.out.1 _ (h3.1.step hD4)).two.c0, (HPJ.out.1 _ (h3.1.step hD4)).two.c1, (HPJ.out.2.1 _ (h3.1.step hD4)).two.c0, (HPJ.out.2.1 _ (h3.1.step hD4)).two.c1, (HPJ.out.2.2.1 _ (h3.1.step hD4)).two.c0, (HPJ.out.2.2.1 _ (h3.1.step hD4)).two.c1, (HPJ.out.2.2.2.1 _ (h3.1.step hD4)).two.c0, (HPJ.out.2.2.2.1 _ (h3.1.step hD4)).two.c1, (HPJ.out.2.2.2.2.1 _ (h3.1.step hD4)).two.c0, (HPJ.out.2.2.2.2.1 _ (h3.1.step hD4)).two.c1⟩
            go_wp2_with fail
            refine hK.out _ _ (h4) (fun hHeld => ?_)
            clear hK K
            try simp only [Act.put, List.setIfInBounds_toArray, List.set_cons_zero, List.set_cons_succ]
            refine wpAnyH_take (i := 9) (oi := { dst := some 221, op := Go.Op.binOp Go.BinOp.add 3 (Go.Operand.tmp 218) (Go.Operand.tmp 220) 3, type := 3, pos := "outright.go:118", after := #[{ on := 6, ground := Go.Ground.data }, { on := 8, ground := Go.Ground.data }], guard := none }) (v := ?v9qz) rfl (by kernel_rfl) (by kernel_rfl) (by kernel_rfl) (fun _ _ _ h => h) (Or.inl ⟨by rfl, ?hy9qz⟩) hHeld ?rest9qz
            case hy9qz =>
              intro w hSw
              try dsimp only at hSw
              go_simp
              try with_reducible rfl
            try simp only [Act.put, List.setIfInBounds_toArray, List.set_cons_zero, List.set_cons_succ]
            refine wpAnyH_take (i := 10) (oi := { dst := some 222, op := Go.Op.binOp Go.BinOp.eql 3 (Go.Operand.tmp 216) (Go.Operand.tmp 221) 3, type := 4, pos := "outright.go:118", after := #[{ on := 4, ground := Go.Ground.data }, { on := 9, ground := Go.Ground.data }], guard := none }) (v := ?v10qz) rfl (by kernel_rfl) (by kernel_rfl) (by kernel_rfl) (fun _ _ _ h => h) (Or.inl ⟨by rfl, ?hy10qz⟩) hHeld ?rest10qz
            case hy10qz =>
              intro w hSw
              try dsimp only at hSw
              go_simp
              try with_reducible rfl
            try simp only [Act.put, List.setIfInBounds_toArray, List.set_cons_zero, List.set_cons_succ]
            refine wpAnyH_take (i := 11) (oi := { dst := some 223, op := Go.Op.move (Go.Operand.tmp 222), type := 4, pos := "outright.go:118", after := #[{ on := 10, ground := Go.Ground.data }, { on := 8, ground := Go.Ground.chain }], guard := none }) (v := ?v11qz) rfl (by kernel_rfl) (by kernel_rfl) (by kernel_rfl) (fun _ _ _ h => h) (Or.inl ⟨by rfl, ?hy11qz⟩) hHeld ?rest11qz
            case hy11qz =>
              intro w hSw
              try dsimp only at hSw
              go_simp
              try with_reducible rfl
            try simp only [Act.put, List.setIfInBounds_toArray, List.set_cons_zero, List.set_cons_succ]
            refine wpAnyH_take (i := 12) (oi := { dst := some 224, op := Go.Op.load 24 (Go.Operand.tmp 14), type := 24, pos := "outright.go:118", after := #[{ on := 11, ground := Go.Ground.guard }], guard := some (11, true) }) (v := ?v12qz) rfl (by kernel_rfl) (by kernel_rfl) (by kernel_rfl) (fun _ _ _ h => h) (Or.inl ⟨by rfl, ?hy12qz⟩) hHeld ?rest12qz
            case hy12qz =>
              intro w hSw
              try dsimp only at hSw
              go_simp
              try with_reducible rfl
            try simp only [Act.put, List.setIfInBounds_toArray, List.set_cons_zero, List.set_cons_succ]
            refine wpAnyH_take (i := 14) (oi := { dst := some 226, op := Go.Op.load 24 (Go.Operand.tmp 8), type := 24, pos := "outright.go:118", after := #[{ on := 11, ground := Go.Ground.guard }], guard := some (11, true) }) (v := ?v14qz) rfl (by kernel_rfl) (by kernel_rfl) (by kernel_rfl) (fun _ _ _ h => h) (Or.inl ⟨by rfl, ?hy14qz⟩) hHeld ?rest14qz
            case hy14qz =>
              intro w hSw
              try dsimp only at hSw
              go_simp
              try with_reducible rfl
            try simp only [Act.put, List.setIfInBounds_toArray, List.set_cons_zero, List.set_cons_succ]
            refine wpAnyH_take (i := 16) (oi := { dst := some 228, op := Go.Op.load 24 (Go.Operand.tmp 12), type := 24, pos := "outright.go:118", after := #[{ on := 11, ground := Go.Ground.guard }], guard := some (11, true) }) (v := ?v16qz) rfl (by kernel_rfl) (by kernel_rfl) (by kernel_rfl) (fun _ _ _ h => h) (Or.inl ⟨by rfl, ?hy16qz⟩) hHeld ?rest16qz
            case hy16qz =>
              intro w hSw
              try dsimp only at hSw
              go_simp
              try with_reducible rfl
            try simp only [Act.put, List.setIfInBounds_toArray, List.set_cons_zero, List.set_cons_succ]
            refine wpAnyH_ready (rs := [13]) (by kernel_rfl) (by simp) ?_
            refine AllReadyH.cons (o := { dst := some 225, op := Go.Op.call { callee := Go.Callee.value (Go.Operand.func 21), args := #[Go.Operand.tmp 224], argTypes := #[24] }, type := 3, pos := "outright.go:118", after := #[{ on := 12, ground := Go.Ground.data }, { on := 11, ground := Go.Ground.chain }, { on := 11, ground := Go.Ground.guard }], guard := some (11, true) }) rfl (fun K hK => ?_) AllReadyH.nil
            go_simp
            refine (count_bit (HPJ.out.2.2.2.2.1 _ h4.1).set HV.out.1 HCN.out.2.2.2.2).mono ?_
            rintro e v5 ⟨rfl, hD5⟩
            have h5 : Five w N Kw T v5 ∧ v5.cell? ⟨ab, 0, none⟩ = some (.int .i64 (N : Int)) ∧ v5.cell? ⟨ab, 1, none⟩ = some (.slice g Kw c) ∧ v5.cell? ⟨bb, 0, none⟩ = some (.int .i64 (N : Int)) ∧ v5.cell? ⟨bb, 1, none⟩ = some (.slice g2 Kw c2) ∧ v5.cell? ⟨vO.heap.size, 0, none⟩ = some (.int .i64 (N : Int)) ∧ v5.cell? ⟨vO.heap.size, 1, none⟩ = some (.slice g11 Kw c11) ∧ v5.cell? ⟨vA.heap.size, 0, none⟩ = some (.int .i64 (N : Int)) ∧ v5.cell? ⟨vA.heap.size, 1, none⟩ = some (.slice g12 Kw c12) ∧ v5.cell? ⟨vV.heap.size, 0, none⟩ = some (.int .i64 (N : Int)) ∧ v5.cell? ⟨vV.heap.size, 1, none⟩ = some (.slice g13 Kw c13) := ⟨h4.1.step hD5, (HPJ.out.1 _ (h4.1.step hD5)).two.c0, (HPJ.out.1 _ (h4.1.step hD5)).two.c1, (HPJ.out.2.1 _ (h4.1.step hD5)).two.c0, (HPJ.out.2.1 _ (h4.1.step hD5)).two.c1, (HPJ.out.2.2.1 _ (h4.1.step hD5)).two.c0, (HPJ.out.2.2.1 _ (h4.1.step hD5)).two.c1, (HPJ.out.2.2.2.1 _ (h4.1.step hD5)).two.c0, (HPJ.out.2.2.2.1 _ (h4.1.step hD5)).two.c1, (HPJ.out.2.2.2.2.1 _ (h4.1.step hD5)).two.c0, (HPJ.out.2.2.2.2.1 _ (h4.1.step hD5)).two.c1⟩
            go_wp2_with fail
            refine hK.out _ _ (h5) (fun hHeld => ?_)
            clear hK K
            try simp only [Act.put, List.setIfInBounds_toArray, List.set_cons_zero, List.set_cons_succ]
            refine wpAnyH_ready (rs := [15]) (by kernel_rfl) (by simp) ?_
            refine AllReadyH.cons (o := { dst := some 227, op := Go.Op.call { callee := Go.Callee.value (Go.Operand.func 21), args := #[Go.Operand.tmp 226], argTypes := #[24] }, type := 3, pos := "outright.go:118", after := #[{ on := 14, ground := Go.Ground.data }, { on := 13, ground := Go.Ground.chain }, { on := 11, ground := Go.Ground.guard }], guard := some (11, true) }) rfl (fun K hK => ?_) AllReadyH.nil
            go_simp
            refine (count_bit (HPJ.out.1 _ h5.1).set HR.out.1 HCN.out.2.2.1).mono ?_
            rintro e v6 ⟨rfl, hD6⟩
            have h6 : Five w N Kw T v6 ∧ v6.cell? ⟨ab, 0, none⟩ = some (.int .i64 (N : Int)) ∧ v6.cell? ⟨ab, 1, none⟩ = some (.slice g Kw c) ∧ v6.cell? ⟨bb, 0, none⟩ = some (.int .i64 (N : Int)) ∧ v6.cell? ⟨bb, 1, none⟩ = some (.slice g2 Kw c2) ∧ v6.cell? ⟨vO.heap.size, 0, none⟩ = some (.int .i64 (N : Int)) ∧ v6.cell? ⟨vO.heap.size, 1, none⟩ = some (.slice g11 Kw c11) ∧ v6.cell? ⟨vA.heap.size, 0, none⟩ = some (.int .i64 (N : Int)) ∧ v6.cell? ⟨vA.heap.size, 1, none⟩ = some (.slice g12 Kw c12) ∧ v6.cell? ⟨vV.heap.size, 0, none⟩ = some (.int .i64 (N : Int)) ∧ v6.cell? ⟨vV.heap.size, 1, none⟩ = some (.slice g13 Kw c13) := ⟨h5.1.step hD6, (HPJ.out.1 _ (h5.1.step hD6)).two.c0, (HPJ.out.1 _ (h5.1.step hD6)).two.c1, (HPJ.out.2.1 _ (h5.1.step hD6)).two.c0, (HPJ.out.2.1 _ (h5.1.step hD6)).two.c1, (HPJ.out.2.2.1 _ (h5.1.step hD6)).two.c0, (HPJ.out.2.2.1 _ (h5.1.step hD6)).two.c1, (HPJ.out.2.2.2.1 _ (h5.1.step hD6)).two.c0, (HPJ.out.2.2.2.1 _ (h5.1.step hD6)).two.c1, (HPJ.out.2.2.2.2.1 _ (h5.1.step hD6)).two.c0, (HPJ.out.2.2.2.2.1 _ (h5.1.step hD6)).two.c1⟩
            go_wp2_with fail
            refine hK.out _ _ (h6) (fun hHeld => ?_)
            clear hK K
            try simp only [Act.put, List.setIfInBounds_toArray, List.set_cons_zero, List.set_cons_succ]
            refine wpAnyH_ready (rs := [17]) (by kernel_rfl) (by simp) ?_
            refine AllReadyH.cons (o := { dst := some 229, op := Go.Op.call { callee := Go.Callee.value (Go.Operand.func 21), args := #[Go.Operand.tmp 228], argTypes := #[24] }, type := 3, pos := "outright.go:118", after := #[{ on := 16, ground := Go.Ground.data }, { on := 15, ground := Go.Ground.chain }, { on := 11, ground := Go.Ground.guard }], guard := some (11, true) }) rfl (fun K hK => ?_) AllReadyH.nil
            go_simp
            refine (count_bit (HPJ.out.2.2.2.1 _ h6.1).set HA.out.1 HCN.out.2.1).mono ?_
            rintro e v7 ⟨rfl, hD7⟩
            have h7 : Five w N Kw T v7 ∧ v7.cell? ⟨ab, 0, none⟩ = some (.int .i64 (N : Int)) ∧ v7.cell? ⟨ab, 1, none⟩ = some (.slice g Kw c) ∧ v7.cell? ⟨bb, 0, none⟩ = some (.int .i64 (N : Int)) ∧ v7.cell? ⟨bb, 1, none⟩ = some (.slice g2 Kw c2) ∧ v7.cell? ⟨vO.heap.size, 0, none⟩ = some (.int .i64 (N : Int)) ∧ v7.cell? ⟨vO.heap.size, 1, none⟩ = some (.slice g11 Kw c11) ∧ v7.cell? ⟨vA.heap.size, 0, none⟩ = some (.int .i64 (N : Int)) ∧ v7.cell? ⟨vA.heap.size, 1, none⟩ = some (.slice g12 Kw c12) ∧ v7.cell? ⟨vV.heap.size, 0, none⟩ = some (.int .i64 (N : Int)) ∧ v7.cell? ⟨vV.heap.size, 1, none⟩ = some (.slice g13 Kw c13) := ⟨h6.1.step hD7, (HPJ.out.1 _ (h6.1.step hD7)).two.c0, (HPJ.out.1 _ (h6.1.step hD7)).two.c1, (HPJ.out.2.1 _ (h6.1.step hD7)).two.c0, (HPJ.out.2.1 _ (h6.1.step hD7)).two.c1, (HPJ.out.2.2.1 _ (h6.1.step hD7)).two.c0, (HPJ.out.2.2.1 _ (h6.1.step hD7)).two.c1, (HPJ.out.2.2.2.1 _ (h6.1.step hD7)).two.c0, (HPJ.out.2.2.2.1 _ (h6.1.step hD7)).two.c1, (HPJ.out.2.2.2.2.1 _ (h6.1.step hD7)).two.c0, (HPJ.out.2.2.2.2.1 _ (h6.1.step hD7)).two.c1⟩
            go_wp2_with fail
            refine hK.out _ _ (h7) (fun hHeld => ?_)
            clear hK K
            try simp only [Act.put, List.setIfInBounds_toArray, List.set_cons_zero, List.set_cons_succ]
            refine wpAnyH_take (i := 18) (oi := { dst := some 230, op := Go.Op.binOp Go.BinOp.sub 3 (Go.Operand.tmp 227) (Go.Operand.tmp 229) 3, type := 3, pos := "outright.go:118", after := #[{ on := 15, ground := Go.Ground.data }, { on := 17, ground := Go.Ground.data }, { on := 11, ground := Go.Ground.guard }], guard := some (11, true) }) (v := ?v18qz) rfl (by kernel_rfl) (by kernel_rfl) (by kernel_rfl) (fun _ _ _ h => h) (Or.inl ⟨by rfl, ?hy18qz⟩) hHeld ?rest18qz
            case hy18qz =>
              intro w hSw
              try dsimp only at hSw
              go_simp
              try with_reducible rfl
            try simp only [Act.put, List.setIfInBounds_toArray, List.set_cons_zero, List.set_cons_succ]
            refine wpAnyH_take (i := 19) (oi := { dst := some 231, op := Go.Op.binOp Go.BinOp.eql 3 (Go.Operand.tmp 225) (Go.Operand.tmp 230) 3, type := 4, pos := "outright.go:118", after := #[{ on := 13, ground := Go.Ground.data }, { on := 18, ground := Go.Ground.data }, { on := 11, ground := Go.Ground.guard }], guard := some (11, true) }) (v := ?v19qz) rfl (by kernel_rfl) (by kernel_rfl) (by kernel_rfl) (fun _ _ _ h => h) (Or.inl ⟨by rfl, ?hy19qz⟩) hHeld ?rest19qz
            case hy19qz =>
              intro w hSw
              try dsimp only at hSw
              go_simp
              try with_reducible rfl
            try simp only [Act.put, List.setIfInBounds_toArray, List.set_cons_zero, List.set_cons_succ]
            refine wpAnyH_take (i := 20) (oi := { dst := some 232, op := Go.Op.pick (Go.Operand.tmp 223) (Go.Operand.tmp 231) (Go.Operand.const (Go.Value.bool false)), type := 4, pos := "outright.go:118", after := #[{ on := 11, ground := Go.Ground.data }, { on := 19, ground := Go.Ground.data }], guard := none }) (v := ?v20qz) rfl (by kernel_rfl) (by kernel_rfl) (by kernel_rfl) (fun _ _ _ h => h) (Or.inl ⟨by rfl, ?hy20qz⟩) hHeld ?rest20qz
            case hy20qz =>
              intro w hSw
              try dsimp only at hSw
              go_simp
              try with_reducible rfl
            try simp only [Act.put, List.setIfInBounds_toArray, List.set_cons_zero, List.set_cons_succ]
            refine wpAnyH_take (i := 21) (oi := { dst := some 6, op := Go.Op.assign (Go.Operand.tmp 232), type := 4, pos := "outright.go:118", after := #[{ on := 20, ground := Go.Ground.data }, { on := 17, ground := Go.Ground.chain }, { on := 0, ground := Go.Ground.phase }, { on := 1, ground := Go.Ground.phase }, { on := 2, ground := Go.Ground.phase }, { on := 3, ground := Go.Ground.phase }, { on := 4, ground := Go.Ground.phase }, { on := 5, ground := Go.Ground.phase }, { on := 6, ground := Go.Ground.phase }, { on := 7, ground := Go.Ground.phase }, { on := 8, ground := Go.Ground.phase }, { on := 9, ground := Go.Ground.phase }, { on := 10, ground := Go.Ground.phase }, { on := 11, ground := Go.Ground.phase }, { on := 12, ground := Go.Ground.phase }, { on := 13, ground := Go.Ground.phase }, { on := 14, ground := Go.Ground.phase }, { on := 15, ground := Go.Ground.phase }, { on := 16, ground := Go.Ground.phase }, { on := 17, ground := Go.Ground.phase }, { on := 18, ground := Go.Ground.phase }, { on := 19, ground := Go.Ground.phase }, { on := 20, ground := Go.Ground.phase }], guard := none }) (v := ?v21qz) rfl (by kernel_rfl) (by kernel_rfl) (by kernel_rfl) (fun _ _ _ h => h) (Or.inl ⟨by rfl, ?hy21qz⟩) hHeld ?rest21qz
            case hy21qz =>
              intro w hSw
              try dsimp only at hSw
              go_simp
              try with_reducible rfl
            try simp only [Act.put, List.setIfInBounds_toArray, List.set_cons_zero, List.set_cons_succ]
            refine wpAnyH_done (by kernel_rfl) ?_ _
            refine NoPanic.normal ?_
            go_wp2_with fail
            go_ret
            exact ⟨rfl, h7.1.bel HPJ.out.1⟩
end Go.Proofs.YtcdjfgkjllonhaaDoor
