/-
  The walk of the law CrcTells. Where the table of the halves lies as the program's text lays it.
-/
import Derived.Test.YtdaijbplbnkpeaaDoorRgd
namespace Go.Proofs.YtdaijbplbnkpeaaDoor
open Go.RowKit Go.Shelf

theorem row_set {w : World} {base g n c : Nat} {L : List Int} (h : w.ownsRow base 5 1 (.slice (some ⟨g, 0, none⟩) n c) n (L.map (Value.int .u8))) (j : Nat) (v : Int) :
    (w.setCell ⟨g, j, none⟩ (.int .u8 v)).ownsRow base 5 1 (.slice (some ⟨g, 0, none⟩) n c) n ((L.set j v).map (Value.int .u8)) := by
  rw [List.map_set]; exact (h.stored j _).1
theorem row_at {w : World} {base g n c : Nat} {L : List Int} (h : w.ownsRow base 5 1 (.slice (some ⟨g, 0, none⟩) n c) n (L.map (Value.int .u8))) {j : Nat} (hj : j < n) :
    w.cell? ⟨g, j, none⟩ = some (.int .u8 (L[j]?.getD 0)) := by
  have hl : L.length = n := by have h2 := h.1; rw [List.length_map, Nat.mul_one] at h2; exact h2
  rw [h.cellAt j (by omega), List.getElem?_map, List.getElem?_eq_getElem (by omega : j < L.length)]; rfl

set_option maxRecDepth 100000 in
set_option maxHeartbeats 40000000 in
theorem tells_law (W : World) (hT : Tab W) (c : Nat) (a : Option Addr) (m cap : Nat) (l : List Int) (hc : c < 4294967296) (hS : Sl .u8 W a m cap l) (hB : Bys l) (hm : m ≤ 1000) :
    Calls Tryd.prog 16 #[.slice a m cap, .int .u32 (c : Int)] W fun e w' => e = .returned (.bool true) ∧ Below W.heap.size W w' := by
  obtain ⟨i0, hinf, hz0, hz1, hz2⟩ := info_parts infoU8
  have hlc := hS.2.1
  have hcm := hS.2.2.1
  have hl := hS.1
  go_enter Tryd.func16, Tryd.ntmps16
  go_wp2_with (at_make; refine wpList_make_own _ rfl (.const (.int .i64 0)) (.tmp 17) 22 rfl W.heap.size 5 i0 (.int .u8 0) 1 Tryd.underlying22 hinf hz0 hz1 .i64 .i64 _ (m + 8) rfl rfl (by omega) ?c1 ?c2 ?c3 ?_)
  case c1 => first | omega | (rw [hz2]; omega)
  case c2 => unfold maxLen; omega
  case c3 => exact Nat.le_refl _
  intro w0 hown0 hgrow0
  have hB0 : Below W.heap.size W w0 := (Below.refl _ _).grown hgrow0 (Nat.le_refl _) (fun k hk => by cases hk)
  have hs0 := hS.below hB0
  have hsz0 := hB0.size
  have hown0' : w0.ownsRow W.heap.size 5 1 (.slice (some ⟨W.heap.size, 0, none⟩) 0 (m + 8)) ([] : List Int).length (([] : List Int).map (Value.int .u8)) := hown0
  clear hgrow0 hown0
  go_wp2_with (at_builtin; refine wpList_append_onsl _ rfl (.tmp 18) (.tmp 19) 22 rfl .u8 W.heap.size 5 i0 1 Tryd.underlying22 hinf hz0 hz1 hz2 _ [] a m cap l rfl rfl hown0' hs0 (by unfold maxLen; simp; omega) (by simp; omega) hsz0 ?_)
  intro v1 w1 hown1 hgrow1
  have hB1 : Below W.heap.size W w1 := hB0.grown hgrow1 hsz0 (fun k hk => (hown0'.lt k hk).1)
  have hown1' : w1.ownsRow W.heap.size 5 1 v1 m (l.map (Value.int .u8)) := by rw [← hl]; simpa [hl] using hown1
  obtain ⟨a1, c1, rfl⟩ := own_shape hown1'
  have hs1 := own_sl hown1'
  clear hgrow1 hown1 hown0' hs0 hsz0 hown1' hB0
  have hul : upd 0 l < 4294967296 := upd_lt hB (by decide)
  have n1 : (((upd 0 l : Nat) : Int) != ((upd 0 l : Nat) : Int)) = false := by simp
  have n2 : (((upd c l : Nat) : Int) != ((upd c l : Nat) : Int)) = false := by simp
  have n3 : (((fol 0 l : Nat) : Int) != ((fol 0 l : Nat) : Int)) = false := by simp
  have n4 : (seaB l != seaB l) = false := by simp
  have HN4 := Lib.hid n4
  clear n4
  -- the second region
  go_wp2_with fail
  refine (sum_any' a1 m c1 l w1 (hT.step hB1) hs1 hB).mono ?_
  rintro e w' ⟨rfl, rfl⟩
  go_wp2_with fail
  refine (rsum_any a m cap l w1 (hS.below hB1) hB).mono ?_
  rintro e w2 ⟨rfl, hb⟩
  have hB2 := below_step hB1 hb
  have hs2 := hs1.below hb
  clear hb hB1 hs1
  go_wp2_with fail
  refine (update_any c a1 m c1 l w2 (hT.step hB2) hc hs2 hB).mono ?_
  rintro e w' ⟨rfl, rfl⟩
  go_wp2_with fail
  refine (rupdate_any c a m cap l w2 hc (hS.below hB2) hB).mono ?_
  rintro e w3 ⟨rfl, hb⟩
  have hB3 := below_step hB2 hb
  have hs3 := hs2.below hb
  clear hb hB2 hs2
  go_wp2_with fail
  refine (linear_any a1 m c1 l w3 (hT.step hB3) hs3 hB).mono ?_
  rintro e w' ⟨rfl, rfl⟩
  go_wp2_with fail
  refine (rlinear_any a m cap l w3 (hS.below hB3) hB hm).mono ?_
  rintro e w4 ⟨rfl, hb⟩
  have hB4 := below_step hB3 hb
  have hs4 := hs3.below hb
  clear hb hB3 hs3
  go_wp2_with fail
  refine (sealed_any a1 m c1 l w4 (hT.step hB4) hs4 hB).mono ?_
  rintro e w' ⟨rfl, rfl⟩
  go_wp2_with fail
  refine (rsealed_any a m cap l w4 (hS.below hB4) hB (by omega)).mono ?_
  rintro e w5 ⟨rfl, hb⟩
  have hB5 := below_step hB4 hb
  have hs5 := hs4.below hb
  have n5 := HN4.out
  clear hb hB4 hs4
  go_wp2_with fail
  have hSeaS := sealed_of hB
  have hbS := hB.append (le4_bys (upd 0 l))
  have hlS : (l ++ le4 (upd 0 l)).length = m + 4 := by rw [List.length_append, le4_len, hl]
  have htS : (l ++ le4 (upd 0 l)).take m = l := by rw [← hl]; exact List.take_left
  have qS := seal_any a1 m c1 l w5 (hT.step hB5) hs5 hB (by omega)
  have qR := fun w (hb : Below W.heap.size W w) => rseal_any a m cap l w (hS.below hb) hB (by omega)
  obtain ⟨S, hSe⟩ : ∃ S, S = l ++ le4 (upd 0 l) := ⟨_, rfl⟩
  simp only [← hSe] at hSeaS hbS hlS htS qS qR
  obtain ⟨N, hN⟩ : ∃ N, N = m + 4 := ⟨_, rfl⟩
  have hNm : N - 4 = m := by omega
  have hN4 : N ≤ 16777220 := by omega
  have hNp : 4 ≤ N := by omega
  rw [← hN] at hlS
  have HlS := Lib.hid hlS
  clear hSe hN hlS n1 n2 n3 n5 hul
  refine qS.mono ?_
  rintro e w6 ⟨v6, rfl, hm6⟩
  obtain ⟨a6, c6, rfl, hs6, hown6, hb6⟩ := hm6.view N HlS.out
  have hB6 := below_step hB5 hb6
  have hs1_6 := hs5.below hb6
  have hg6 := hown6.lt
  have hz56 := hb6.size
  have hD6 := hb6
  clear hm6 qS
  go_wp2_with fail
  have qO := open_any a6 N c6 S w6 (hT.step hB6) hs6 hbS hSeaS hN4
  rw [hNm, htS] at qO
  refine qO.mono ?_
  rintro e w7 ⟨v7, rfl, hm7⟩
  obtain ⟨a7, c7, rfl, hs7, hown7, hb7⟩ := hm7.view m hl
  have hB7 := below_step hB6 hb7
  have hD7 := below_step hD6 hb7
  have hs1_7 := hs1_6.below hb7
  have hs6_7 := hs6.below hb7
  have hown6_7 := ownsRow_below hown6 hb7
  have hg7 := hown7.lt
  have hz67 := hb7.size
  clear hm7 qO hb7
  obtain ⟨x, g, nx, Lx, hx, hnx, hg⟩ : ∃ (x : Int) (g nx : Nat) (Lx : List Int), (∀ w7, Tab w7 → Sl .u8 w7 a1 m c1 l → Calls Tryd.prog 36 #[.slice a1 m c1] w7 fun e w' => ∃ ax cx, e = .returned (.tuple #[.slice ax nx cx, .int .i64 x]) ∧ w'.ownsRow w7.heap.size 5 1 (.slice ax nx cx) nx (Lx.map (Value.int .u8)) ∧ Below w7.heap.size w7 w') ∧ nx ≤ 16777216 ∧
      ((x = 0 ∧ seaB l = true) ∨ (x = 2 ∧ nx = 0 ∧ seaB l = false)) := by
    by_cases hsea : Sea l
    · refine ⟨0, 0, (l.take (m - 4)).length, l.take (m - 4), fun w hTw hSw => ?_, by rw [List.length_take]; omega, .inl ⟨rfl, seaB_yes hsea⟩⟩
      refine (open_any a1 m c1 l w hTw hSw hB hsea (by omega)).mono ?_
      rintro e w' ⟨v, rfl, hm⟩
      obtain ⟨ax, cx, rfl, _, ho, hb⟩ := hm.view _ rfl
      exact ⟨ax, cx, rfl, ho, hb⟩
    · refine ⟨2, 0, 0, [], fun w hTw hSw => ?_, by omega, .inr ⟨rfl, rfl, seaB_no hsea⟩⟩
      refine (open_no a1 m c1 l w hTw hSw hB hsea).mono ?_
      rintro e w' ⟨rfl, rfl⟩
      exact ⟨none, 0, rfl, World.ownsRow_nil _ _ _ _, Below.refl _ _⟩
  go_wp2_with fail
  refine (hx w7 (hT.step hB7) hs1_7).mono ?_
  rintro e w8 ⟨ax, cx, rfl, hown8, hb8⟩
  have hB8 := below_step hB7 hb8
  have hz78 := hb8.size
  have hD8 := below_step hD7 hb8
  have hs1_8 := hs1_7.below hb8
  have hs6_8 := hs6_7.below hb8
  have hs7_8 := hs7.below hb8
  have hown6_8 := ownsRow_below hown6_7 hb8
  have hown7_8 := ownsRow_below hown7 hb8
  obtain ⟨T, hTe⟩ : ∃ T, T = strOfNums l := ⟨_, rfl⟩
  obtain ⟨T1, hT1e⟩ : ∃ T, T = strOfNums S := ⟨_, rfl⟩
  have HTe := Lib.hid hTe
  have HT1e := Lib.hid hT1e
  have cvs := fun w (hb : Below w8.heap.size w8 w) => conv_sl (hs6_8.below hb)
  have cvo := fun w (hb : Below w8.heap.size w8 w) => conv_sl (hs7_8.below hb)
  have cvb := fun w (hb : Below W.heap.size W w) => conv_sl (hS.below hb)
  rw [← hT1e] at cvs
  rw [← hTe] at cvo cvb
  have hd8 : Below w8.heap.size w8 w8.drew := (Below.refl _ _).drew
  have k1 := cvs _ hd8
  have k2 := cvo _ hd8
  have k3 := cvb _ (hB8.drew)
  have hB8d := hB8.drew
  clear hTe hT1e hx hb8 hs1_7 hs6_7 hown6_7 hown6 hown7 hs7 hb6 hs1_6 hs6
  have HA := Lib.hid (And.intro hT (And.intro hs5 (And.intro hB5 (And.intro hown6_8 (And.intro hown7_8 (And.intro hown8 (And.intro hD8 (And.intro hg6 (And.intro hg7 (And.intro hz56 (And.intro hz67 (And.intro hz78 (And.intro hl (And.intro HlS.out (And.intro hN4 hnx)))))))))))))))
  clear hT hs5 hB5 hs1_8 hs6_8 hs7_8 hown6_8 hown7_8 hown8 hD8 hg6 hg7 hz56 hz67 hz78 hbS hSeaS hNm hN4 hnx hNp htS hl hB6 hB7 hD6 hD7 hB8
  have qQ := fun w (hb : Below W.heap.size W w) => rsealed_any a m cap l w (hS.below hb) hB (by omega)
  rcases hg with ⟨rfl, hsb⟩ | ⟨rfl, rfl, hsb⟩
  · rw [hsb] at qQ
    go_wp2_with fail
    refine wp_region_noPanic ?_
    refine wp_region_held_drew (S := fun w' => Below w8.heap.size w8 w' ∧ (convert 22 9 (.slice a6 N c6)).run Tryd.prog w' = .ok (.string T1) w' ∧ (convert 22 9 (.slice a7 m c7)).run Tryd.prog w' = .ok (.string T) w' ∧ (convert 22 9 (.slice a m cap)).run Tryd.prog w' = .ok (.string T) w') (by kernel_rfl) ⟨hd8, k1, k2, k3⟩ (fun hHeld => ?_)
    refine wpAnyH_take (i := 0) (oi := { dst := some 64, op := Op.move (Operand.tmp 7), type := 33, pos := "law.go:31", after := #[], guard := none }) (v := ?v0a) rfl (by kernel_rfl) (by kernel_rfl) (by kernel_rfl) (fun _ _ _ h => h) (Or.inl ⟨by rfl, ?hy0a⟩) hHeld ?rest0a
    case hy0a =>
      intro w hSw
      try dsimp only at hSw
      go_simp
      try with_reducible rfl
    try simp only [Act.put, List.setIfInBounds_toArray, List.set_cons_zero, List.set_cons_succ]
    refine wpAnyH_take (i := 1) (oi := { dst := some 65, op := Op.binOp BinOp.neq 33 (Operand.tmp 64) (Operand.const (Value.int IntKind.i64 0)) 33, type := 4, pos := "law.go:31", after := #[{ on := 0, ground := Ground.data }], guard := none }) (v := ?v1a) rfl (by kernel_rfl) (by kernel_rfl) (by kernel_rfl) (fun _ _ _ h => h) (Or.inl ⟨by rfl, ?hy1a⟩) hHeld ?rest1a
    case hy1a =>
      intro w hSw
      try dsimp only at hSw
      go_simp
      try with_reducible rfl
    try simp only [Act.put, List.setIfInBounds_toArray, List.set_cons_zero, List.set_cons_succ]
    refine wpAnyH_take (i := 2) (oi := { dst := some 66, op := Op.move (Operand.tmp 65), type := 4, pos := "law.go:31", after := #[{ on := 1, ground := Ground.data }], guard := none }) (v := ?v2a) rfl (by kernel_rfl) (by kernel_rfl) (by kernel_rfl) (fun _ _ _ h => h) (Or.inl ⟨by rfl, ?hy2a⟩) hHeld ?rest2a
    case hy2a =>
      intro w hSw
      try dsimp only at hSw
      go_simp
      try with_reducible rfl
    try simp only [Act.put, List.setIfInBounds_toArray, List.set_cons_zero, List.set_cons_succ]
    refine wpAnyH_take (i := 3) (oi := { dst := some 67, op := Op.move (Operand.tmp 6), type := 22, pos := "law.go:31", after := #[{ on := 2, ground := Ground.guard }], guard := some (2, false) }) (v := ?v3a) rfl (by kernel_rfl) (by kernel_rfl) (by kernel_rfl) (fun _ _ _ h => h) (Or.inl ⟨by rfl, ?hy3a⟩) hHeld ?rest3a
    case hy3a =>
      intro w hSw
      try dsimp only at hSw
      go_simp
      try with_reducible rfl
    try simp only [Act.put, List.setIfInBounds_toArray, List.set_cons_zero, List.set_cons_succ]
    refine wpAnyH_take (i := 4) (oi := { dst := some 68, op := Op.convert 22 9 (Operand.tmp 67), type := 9, pos := "law.go:31", after := #[{ on := 3, ground := Ground.data }, { on := 2, ground := Ground.guard }], guard := some (2, false) }) (v := ?v4a) rfl (by kernel_rfl) (by kernel_rfl) (by kernel_rfl) (fun _ _ _ h => h) (Or.inl ⟨by rfl, ?hy4a⟩) hHeld ?rest4a
    case hy4a =>
      intro w hSw
      try dsimp only at hSw
      go_simp
      try with_reducible rfl
    try simp only [Act.put, List.setIfInBounds_toArray, List.set_cons_zero, List.set_cons_succ]
    refine wpAnyH_take (i := 5) (oi := { dst := some 69, op := Op.move (Operand.tmp 0), type := 22, pos := "law.go:31", after := #[{ on := 2, ground := Ground.guard }], guard := some (2, false) }) (v := ?v5a) rfl (by kernel_rfl) (by kernel_rfl) (by kernel_rfl) (fun _ _ _ h => h) (Or.inl ⟨by rfl, ?hy5a⟩) hHeld ?rest5a
    case hy5a =>
      intro w hSw
      try dsimp only at hSw
      go_simp
      try with_reducible rfl
    try simp only [Act.put, List.setIfInBounds_toArray, List.set_cons_zero, List.set_cons_succ]
    refine wpAnyH_ready (rs := [6]) (by kernel_rfl) (by simp) ?_
    refine AllReadyH.cons (o := { dst := some 70, op := Op.call { callee := Callee.value (Operand.func 19), args := #[Operand.tmp 69], argTypes := #[22] }, type := 22, pos := "law.go:31", after := #[{ on := 5, ground := Ground.data }, { on := 2, ground := Ground.chain }, { on := 2, ground := Ground.guard }], guard := some (2, false) }) rfl (fun K hK => ?_) AllReadyH.nil
    go_simp
    refine (qR _ hB8d).mono ?_
    rintro e w9 ⟨v9, rfl, hm9⟩
    obtain ⟨a9, c9, rfl, hs9, _, hb9⟩ := hm9.view N HlS.out
    have k4 := conv_sl hs9
    rw [← HT1e.out] at k4
    have hd9 := below_step hd8 hb9
    have hB9 := below_step hB8d hb9
    clear hs9 hm9 hb9
    go_wp2_with fail
    refine hK.out _ _ ⟨hd9, cvs _ hd9, cvo _ hd9, cvb _ hB9⟩ (fun hHeld => ?_)
    clear hK K
    try simp only [Act.put, List.setIfInBounds_toArray, List.set_cons_zero, List.set_cons_succ]
    refine wpAnyH_ready (rs := [7]) (by kernel_rfl) (by simp) ?_
    refine AllReadyH.cons (o := { dst := some 71, op := Op.convert 22 9 (Operand.tmp 70), type := 9, pos := "law.go:31", after := #[{ on := 6, ground := Ground.data }, { on := 2, ground := Ground.guard }], guard := some (2, false) }) rfl (fun K hK => ?_) AllReadyH.nil
    go_simp
    refine hK.out _ _ ⟨hd9, cvs _ hd9, cvo _ hd9, cvb _ hB9⟩ (fun hHeld => ?_)
    clear hK K
    try simp only [Act.put, List.setIfInBounds_toArray, List.set_cons_zero, List.set_cons_succ]
    refine wpAnyH_take (i := 8) (oi := { dst := some 72, op := Op.binOp BinOp.neq 9 (Operand.tmp 68) (Operand.tmp 71) 9, type := 4, pos := "law.go:31", after := #[{ on := 4, ground := Ground.data }, { on := 7, ground := Ground.data }, { on := 2, ground := Ground.guard }], guard := some (2, false) }) (v := ?v8a) rfl (by kernel_rfl) (by kernel_rfl) (by kernel_rfl) (fun _ _ _ h => h) (Or.inl ⟨by rfl, ?hy8a⟩) hHeld ?rest8a
    case hy8a =>
      intro w hSw
      try dsimp only at hSw
      go_simp
      try with_reducible rfl
    try simp only [Act.put, List.setIfInBounds_toArray, List.set_cons_zero, List.set_cons_succ]
    refine wpAnyH_take (i := 9) (oi := { dst := some 73, op := Op.pick (Operand.tmp 66) (Operand.const (Value.bool true)) (Operand.tmp 72), type := 4, pos := "law.go:31", after := #[{ on := 2, ground := Ground.data }, { on := 8, ground := Ground.data }], guard := none }) (v := ?v9a) rfl (by kernel_rfl) (by kernel_rfl) (by kernel_rfl) (fun _ _ _ h => h) (Or.inl ⟨by rfl, ?hy9a⟩) hHeld ?rest9a
    case hy9a =>
      intro w hSw
      try dsimp only at hSw
      go_simp
      try with_reducible rfl
    try simp only [Act.put, List.setIfInBounds_toArray, List.set_cons_zero, List.set_cons_succ]
    refine wpAnyH_take (i := 10) (oi := { dst := some 74, op := Op.move (Operand.tmp 73), type := 4, pos := "law.go:31", after := #[{ on := 9, ground := Ground.data }, { on := 6, ground := Ground.chain }], guard := none }) (v := ?v10a) rfl (by kernel_rfl) (by kernel_rfl) (by kernel_rfl) (fun _ _ _ h => h) (Or.inl ⟨by rfl, ?hy10a⟩) hHeld ?rest10a
    case hy10a =>
      intro w hSw
      try dsimp only at hSw
      go_simp
      try with_reducible rfl
    try simp only [Act.put, List.setIfInBounds_toArray, List.set_cons_zero, List.set_cons_succ]
    refine wpAnyH_take (i := 11) (oi := { dst := some 75, op := Op.move (Operand.tmp 9), type := 33, pos := "law.go:31", after := #[{ on := 10, ground := Ground.guard }], guard := some (10, false) }) (v := ?v11a) rfl (by kernel_rfl) (by kernel_rfl) (by kernel_rfl) (fun _ _ _ h => h) (Or.inl ⟨by rfl, ?hy11a⟩) hHeld ?rest11a
    case hy11a =>
      intro w hSw
      try dsimp only at hSw
      go_simp
      try with_reducible rfl
    try simp only [Act.put, List.setIfInBounds_toArray, List.set_cons_zero, List.set_cons_succ]
    refine wpAnyH_take (i := 12) (oi := { dst := some 76, op := Op.binOp BinOp.neq 33 (Operand.tmp 75) (Operand.const (Value.int IntKind.i64 0)) 33, type := 4, pos := "law.go:31", after := #[{ on := 11, ground := Ground.data }, { on := 10, ground := Ground.guard }], guard := some (10, false) }) (v := ?v12a) rfl (by kernel_rfl) (by kernel_rfl) (by kernel_rfl) (fun _ _ _ h => h) (Or.inl ⟨by rfl, ?hy12a⟩) hHeld ?rest12a
    case hy12a =>
      intro w hSw
      try dsimp only at hSw
      go_simp
      try with_reducible rfl
    try simp only [Act.put, List.setIfInBounds_toArray, List.set_cons_zero, List.set_cons_succ]
    refine wpAnyH_take (i := 13) (oi := { dst := some 77, op := Op.pick (Operand.tmp 74) (Operand.const (Value.bool true)) (Operand.tmp 76), type := 4, pos := "law.go:31", after := #[{ on := 10, ground := Ground.data }, { on := 12, ground := Ground.data }], guard := none }) (v := ?v13a) rfl (by kernel_rfl) (by kernel_rfl) (by kernel_rfl) (fun _ _ _ h => h) (Or.inl ⟨by rfl, ?hy13a⟩) hHeld ?rest13a
    case hy13a =>
      intro w hSw
      try dsimp only at hSw
      go_simp
      try with_reducible rfl
    try simp only [Act.put, List.setIfInBounds_toArray, List.set_cons_zero, List.set_cons_succ]
    refine wpAnyH_take (i := 14) (oi := { dst := some 78, op := Op.move (Operand.tmp 77), type := 4, pos := "law.go:31", after := #[{ on := 13, ground := Ground.data }, { on := 10, ground := Ground.chain }], guard := none }) (v := ?v14a) rfl (by kernel_rfl) (by kernel_rfl) (by kernel_rfl) (fun _ _ _ h => h) (Or.inl ⟨by rfl, ?hy14a⟩) hHeld ?rest14a
    case hy14a =>
      intro w hSw
      try dsimp only at hSw
      go_simp
      try with_reducible rfl
    try simp only [Act.put, List.setIfInBounds_toArray, List.set_cons_zero, List.set_cons_succ]
    refine wpAnyH_take (i := 15) (oi := { dst := some 79, op := Op.move (Operand.tmp 8), type := 22, pos := "law.go:31", after := #[{ on := 14, ground := Ground.guard }], guard := some (14, false) }) (v := ?v15a) rfl (by kernel_rfl) (by kernel_rfl) (by kernel_rfl) (fun _ _ _ h => h) (Or.inl ⟨by rfl, ?hy15a⟩) hHeld ?rest15a
    case hy15a =>
      intro w hSw
      try dsimp only at hSw
      go_simp
      try with_reducible rfl
    try simp only [Act.put, List.setIfInBounds_toArray, List.set_cons_zero, List.set_cons_succ]
    refine wpAnyH_take (i := 16) (oi := { dst := some 80, op := Op.convert 22 9 (Operand.tmp 79), type := 9, pos := "law.go:31", after := #[{ on := 15, ground := Ground.data }, { on := 14, ground := Ground.guard }], guard := some (14, false) }) (v := ?v16a) rfl (by kernel_rfl) (by kernel_rfl) (by kernel_rfl) (fun _ _ _ h => h) (Or.inl ⟨by rfl, ?hy16a⟩) hHeld ?rest16a
    case hy16a =>
      intro w hSw
      try dsimp only at hSw
      go_simp
      try with_reducible rfl
    try simp only [Act.put, List.setIfInBounds_toArray, List.set_cons_zero, List.set_cons_succ]
    refine wpAnyH_take (i := 17) (oi := { dst := some 81, op := Op.move (Operand.tmp 0), type := 22, pos := "law.go:31", after := #[{ on := 14, ground := Ground.guard }], guard := some (14, false) }) (v := ?v17a) rfl (by kernel_rfl) (by kernel_rfl) (by kernel_rfl) (fun _ _ _ h => h) (Or.inl ⟨by rfl, ?hy17a⟩) hHeld ?rest17a
    case hy17a =>
      intro w hSw
      try dsimp only at hSw
      go_simp
      try with_reducible rfl
    try simp only [Act.put, List.setIfInBounds_toArray, List.set_cons_zero, List.set_cons_succ]
    refine wpAnyH_take (i := 18) (oi := { dst := some 82, op := Op.convert 22 9 (Operand.tmp 81), type := 9, pos := "law.go:31", after := #[{ on := 17, ground := Ground.data }, { on := 14, ground := Ground.guard }], guard := some (14, false) }) (v := ?v18a) rfl (by kernel_rfl) (by kernel_rfl) (by kernel_rfl) (fun _ _ _ h => h) (Or.inl ⟨by rfl, ?hy18a⟩) hHeld ?rest18a
    case hy18a =>
      intro w hSw
      try dsimp only at hSw
      go_simp
      try with_reducible rfl
    try simp only [Act.put, List.setIfInBounds_toArray, List.set_cons_zero, List.set_cons_succ]
    refine wpAnyH_take (i := 19) (oi := { dst := some 83, op := Op.binOp BinOp.neq 9 (Operand.tmp 80) (Operand.tmp 82) 9, type := 4, pos := "law.go:31", after := #[{ on := 16, ground := Ground.data }, { on := 18, ground := Ground.data }, { on := 14, ground := Ground.guard }], guard := some (14, false) }) (v := ?v19a) rfl (by kernel_rfl) (by kernel_rfl) (by kernel_rfl) (fun _ _ _ h => h) (Or.inl ⟨by rfl, ?hy19a⟩) hHeld ?rest19a
    case hy19a =>
      intro w hSw
      try dsimp only at hSw
      go_simp
      try with_reducible rfl
    try simp only [Act.put, List.setIfInBounds_toArray, List.set_cons_zero, List.set_cons_succ]
    refine wpAnyH_take (i := 20) (oi := { dst := some 84, op := Op.pick (Operand.tmp 78) (Operand.const (Value.bool true)) (Operand.tmp 83), type := 4, pos := "law.go:31", after := #[{ on := 14, ground := Ground.data }, { on := 19, ground := Ground.data }], guard := none }) (v := ?v20a) rfl (by kernel_rfl) (by kernel_rfl) (by kernel_rfl) (fun _ _ _ h => h) (Or.inl ⟨by rfl, ?hy20a⟩) hHeld ?rest20a
    case hy20a =>
      intro w hSw
      try dsimp only at hSw
      go_simp
      try with_reducible rfl
    try simp only [Act.put, List.setIfInBounds_toArray, List.set_cons_zero, List.set_cons_succ]
    refine wpAnyH_take (i := 21) (oi := { dst := some 85, op := Op.move (Operand.tmp 84), type := 4, pos := "law.go:31", after := #[{ on := 20, ground := Ground.data }, { on := 14, ground := Ground.chain }], guard := none }) (v := ?v21a) rfl (by kernel_rfl) (by kernel_rfl) (by kernel_rfl) (fun _ _ _ h => h) (Or.inl ⟨by rfl, ?hy21a⟩) hHeld ?rest21a
    case hy21a =>
      intro w hSw
      try dsimp only at hSw
      go_simp
      try with_reducible rfl
    try simp only [Act.put, List.setIfInBounds_toArray, List.set_cons_zero, List.set_cons_succ]
    refine wpAnyH_take (i := 22) (oi := { dst := some 86, op := Op.move (Operand.tmp 11), type := 33, pos := "law.go:31", after := #[{ on := 21, ground := Ground.guard }], guard := some (21, false) }) (v := ?v22a) rfl (by kernel_rfl) (by kernel_rfl) (by kernel_rfl) (fun _ _ _ h => h) (Or.inl ⟨by rfl, ?hy22a⟩) hHeld ?rest22a
    case hy22a =>
      intro w hSw
      try dsimp only at hSw
      go_simp
      try with_reducible rfl
    try simp only [Act.put, List.setIfInBounds_toArray, List.set_cons_zero, List.set_cons_succ]
    refine wpAnyH_take (i := 23) (oi := { dst := some 87, op := Op.binOp BinOp.eql 33 (Operand.tmp 86) (Operand.const (Value.int IntKind.i64 0)) 33, type := 4, pos := "law.go:31", after := #[{ on := 22, ground := Ground.data }, { on := 21, ground := Ground.guard }], guard := some (21, false) }) (v := ?v23a) rfl (by kernel_rfl) (by kernel_rfl) (by kernel_rfl) (fun _ _ _ h => h) (Or.inl ⟨by rfl, ?hy23a⟩) hHeld ?rest23a
    case hy23a =>
      intro w hSw
      try dsimp only at hSw
      go_simp
      try with_reducible rfl
    try simp only [Act.put, List.setIfInBounds_toArray, List.set_cons_zero, List.set_cons_succ]
    refine wpAnyH_take (i := 24) (oi := { dst := some 88, op := Op.move (Operand.tmp 0), type := 22, pos := "law.go:31", after := #[{ on := 21, ground := Ground.guard }], guard := some (21, false) }) (v := ?v24a) rfl (by kernel_rfl) (by kernel_rfl) (by kernel_rfl) (fun _ _ _ h => h) (Or.inl ⟨by rfl, ?hy24a⟩) hHeld ?rest24a
    case hy24a =>
      intro w hSw
      try dsimp only at hSw
      go_simp
      try with_reducible rfl
    try simp only [Act.put, List.setIfInBounds_toArray, List.set_cons_zero, List.set_cons_succ]
    refine wpAnyH_ready (rs := [25]) (by kernel_rfl) (by simp) ?_
    refine AllReadyH.cons (o := { dst := some 89, op := Op.call { callee := Callee.value (Operand.func 40), args := #[Operand.tmp 88], argTypes := #[22] }, type := 4, pos := "law.go:31", after := #[{ on := 24, ground := Ground.data }, { on := 21, ground := Ground.chain }, { on := 21, ground := Ground.guard }], guard := some (21, false) }) rfl (fun K hK => ?_) AllReadyH.nil
    go_simp
    refine (qQ _ hB9).mono ?_
    rintro e w10 ⟨rfl, hb10⟩
    have hd10 := below_step hd9 hb10
    have hB10 := below_step hB9 hb10
    clear hb10
    go_wp2_with fail
    refine hK.out _ _ ⟨hd10, cvs _ hd10, cvo _ hd10, cvb _ hB10⟩ (fun hHeld => ?_)
    clear hK K
    try simp only [Act.put, List.setIfInBounds_toArray, List.set_cons_zero, List.set_cons_succ]
    refine wpAnyH_take (i := 26) (oi := { dst := some 90, op := Op.binOp BinOp.neq 4 (Operand.tmp 87) (Operand.tmp 89) 4, type := 4, pos := "law.go:31", after := #[{ on := 23, ground := Ground.data }, { on := 25, ground := Ground.data }, { on := 21, ground := Ground.guard }], guard := some (21, false) }) (v := ?v26a) rfl (by kernel_rfl) (by kernel_rfl) (by kernel_rfl) (fun _ _ _ h => h) (Or.inl ⟨by rfl, ?hy26a⟩) hHeld ?rest26a
    case hy26a =>
      intro w hSw
      try dsimp only at hSw
      go_simp
      try with_reducible rfl
    try simp only [Act.put, List.setIfInBounds_toArray, List.set_cons_zero, List.set_cons_succ]
    refine wpAnyH_take (i := 27) (oi := { dst := some 91, op := Op.pick (Operand.tmp 85) (Operand.const (Value.bool true)) (Operand.tmp 90), type := 4, pos := "law.go:31", after := #[{ on := 21, ground := Ground.data }, { on := 26, ground := Ground.data }], guard := none }) (v := ?v27a) rfl (by kernel_rfl) (by kernel_rfl) (by kernel_rfl) (fun _ _ _ h => h) (Or.inl ⟨by rfl, ?hy27a⟩) hHeld ?rest27a
    case hy27a =>
      intro w hSw
      try dsimp only at hSw
      go_simp
      try with_reducible rfl
    try simp only [Act.put, List.setIfInBounds_toArray, List.set_cons_zero, List.set_cons_succ]
    refine wpAnyH_take (i := 28) (oi := { dst := some 92, op := Op.move (Operand.tmp 91), type := 4, pos := "law.go:31", after := #[{ on := 27, ground := Ground.data }, { on := 25, ground := Ground.chain }], guard := none }) (v := ?v28a) rfl (by kernel_rfl) (by kernel_rfl) (by kernel_rfl) (fun _ _ _ h => h) (Or.inl ⟨by rfl, ?hy28a⟩) hHeld ?rest28a
    case hy28a =>
      intro w hSw
      try dsimp only at hSw
      go_simp
      try with_reducible rfl
    try simp only [Act.put, List.setIfInBounds_toArray, List.set_cons_zero, List.set_cons_succ]
    refine wpAnyH_take (i := 29) (oi := { dst := some 93, op := Op.move (Operand.tmp 11), type := 33, pos := "law.go:31", after := #[{ on := 28, ground := Ground.guard }], guard := some (28, false) }) (v := ?v29a) rfl (by kernel_rfl) (by kernel_rfl) (by kernel_rfl) (fun _ _ _ h => h) (Or.inl ⟨by rfl, ?hy29a⟩) hHeld ?rest29a
    case hy29a =>
      intro w hSw
      try dsimp only at hSw
      go_simp
      try with_reducible rfl
    try simp only [Act.put, List.setIfInBounds_toArray, List.set_cons_zero, List.set_cons_succ]
    refine wpAnyH_take (i := 30) (oi := { dst := some 94, op := Op.binOp BinOp.neq 33 (Operand.tmp 93) (Operand.const (Value.int IntKind.i64 0)) 33, type := 4, pos := "law.go:31", after := #[{ on := 29, ground := Ground.data }, { on := 28, ground := Ground.guard }], guard := some (28, false) }) (v := ?v30a) rfl (by kernel_rfl) (by kernel_rfl) (by kernel_rfl) (fun _ _ _ h => h) (Or.inl ⟨by rfl, ?hy30a⟩) hHeld ?rest30a
    case hy30a =>
      intro w hSw
      try dsimp only at hSw
      go_simp
      try with_reducible rfl
    try simp only [Act.put, List.setIfInBounds_toArray, List.set_cons_zero, List.set_cons_succ]
    refine wpAnyH_take (i := 31) (oi := { dst := some 95, op := Op.move (Operand.tmp 94), type := 4, pos := "law.go:31", after := #[{ on := 30, ground := Ground.data }, { on := 28, ground := Ground.chain }, { on := 28, ground := Ground.guard }], guard := some (28, false) }) (v := ?v31a) rfl (by kernel_rfl) (by kernel_rfl) (by kernel_rfl) (fun _ _ _ h => h) (Or.inl ⟨by rfl, ?hy31a⟩) hHeld ?rest31a
    case hy31a =>
      intro w hSw
      try dsimp only at hSw
      go_simp
      try with_reducible rfl
    try simp only [Act.put, List.setIfInBounds_toArray, List.set_cons_zero, List.set_cons_succ]
    refine wpAnyH_take (i := 32) (oi := { dst := some 96, op := Op.move (Operand.tmp 11), type := 33, pos := "law.go:31", after := #[{ on := 31, ground := Ground.guard }], guard := some (31, true) }) (v := undef) rfl (by kernel_rfl) (by kernel_rfl) (by kernel_rfl) (fun _ _ _ h => h) (Or.inr ⟨by rfl, rfl⟩) hHeld ?_
    try simp only [Act.put, List.setIfInBounds_toArray, List.set_cons_zero, List.set_cons_succ]
    refine wpAnyH_take (i := 33) (oi := { dst := some 97, op := Op.binOp BinOp.neq 33 (Operand.tmp 96) (Operand.const (Value.int IntKind.i64 2)) 33, type := 4, pos := "law.go:31", after := #[{ on := 32, ground := Ground.data }, { on := 31, ground := Ground.guard }], guard := some (31, true) }) (v := undef) rfl (by kernel_rfl) (by kernel_rfl) (by kernel_rfl) (fun _ _ _ h => h) (Or.inr ⟨by rfl, rfl⟩) hHeld ?_
    try simp only [Act.put, List.setIfInBounds_toArray, List.set_cons_zero, List.set_cons_succ]
    refine wpAnyH_take (i := 34) (oi := { dst := some 98, op := Op.move (Operand.tmp 97), type := 4, pos := "law.go:31", after := #[{ on := 33, ground := Ground.data }, { on := 31, ground := Ground.chain }, { on := 31, ground := Ground.guard }], guard := some (31, true) }) (v := undef) rfl (by kernel_rfl) (by kernel_rfl) (by kernel_rfl) (fun _ _ _ h => h) (Or.inr ⟨by rfl, rfl⟩) hHeld ?_
    try simp only [Act.put, List.setIfInBounds_toArray, List.set_cons_zero, List.set_cons_succ]
    refine wpAnyH_take (i := 35) (oi := { dst := some 99, op := Op.move (Operand.tmp 10), type := 22, pos := "law.go:31", after := #[{ on := 34, ground := Ground.guard }], guard := some (34, false) }) (v := undef) rfl (by kernel_rfl) (by kernel_rfl) (by kernel_rfl) (fun _ _ _ h => h) (Or.inr ⟨by rfl, rfl⟩) hHeld ?_
    try simp only [Act.put, List.setIfInBounds_toArray, List.set_cons_zero, List.set_cons_succ]
    refine wpAnyH_take (i := 36) (oi := { dst := some 100, op := Op.call { callee := Callee.builtin Builtin.len, args := #[Operand.tmp 99], argTypes := #[22] }, type := 3, pos := "law.go:31", after := #[{ on := 35, ground := Ground.data }, { on := 34, ground := Ground.guard }], guard := some (34, false) }) (v := undef) rfl (by kernel_rfl) (by kernel_rfl) (by kernel_rfl) (fun _ _ _ h => h) (Or.inr ⟨by rfl, rfl⟩) hHeld ?_
    try simp only [Act.put, List.setIfInBounds_toArray, List.set_cons_zero, List.set_cons_succ]
    refine wpAnyH_take (i := 37) (oi := { dst := some 101, op := Op.binOp BinOp.gtr 3 (Operand.tmp 100) (Operand.const (Value.int IntKind.i64 0)) 3, type := 4, pos := "law.go:31", after := #[{ on := 36, ground := Ground.data }, { on := 34, ground := Ground.guard }], guard := some (34, false) }) (v := undef) rfl (by kernel_rfl) (by kernel_rfl) (by kernel_rfl) (fun _ _ _ h => h) (Or.inr ⟨by rfl, rfl⟩) hHeld ?_
    try simp only [Act.put, List.setIfInBounds_toArray, List.set_cons_zero, List.set_cons_succ]
    refine wpAnyH_take (i := 38) (oi := { dst := some 102, op := Op.pick (Operand.tmp 98) (Operand.const (Value.bool true)) (Operand.tmp 101), type := 4, pos := "law.go:31", after := #[{ on := 34, ground := Ground.data }, { on := 37, ground := Ground.data }, { on := 31, ground := Ground.guard }], guard := some (31, true) }) (v := undef) rfl (by kernel_rfl) (by kernel_rfl) (by kernel_rfl) (fun _ _ _ h => h) (Or.inr ⟨by rfl, rfl⟩) hHeld ?_
    try simp only [Act.put, List.setIfInBounds_toArray, List.set_cons_zero, List.set_cons_succ]
    refine wpAnyH_take (i := 39) (oi := { dst := some 103, op := Op.pick (Operand.tmp 95) (Operand.tmp 102) (Operand.const (Value.bool false)), type := 4, pos := "law.go:31", after := #[{ on := 31, ground := Ground.data }, { on := 38, ground := Ground.data }, { on := 28, ground := Ground.guard }], guard := some (28, false) }) (v := ?v39a) rfl (by kernel_rfl) (by kernel_rfl) (by kernel_rfl) (fun _ _ _ h => h) (Or.inl ⟨by rfl, ?hy39a⟩) hHeld ?rest39a
    case hy39a =>
      intro w hSw
      try dsimp only at hSw
      go_simp
      try with_reducible rfl
    try simp only [Act.put, List.setIfInBounds_toArray, List.set_cons_zero, List.set_cons_succ]
    refine wpAnyH_take (i := 40) (oi := { dst := some 104, op := Op.pick (Operand.tmp 92) (Operand.const (Value.bool true)) (Operand.tmp 103), type := 4, pos := "law.go:31", after := #[{ on := 28, ground := Ground.data }, { on := 39, ground := Ground.data }], guard := none }) (v := ?v40a) rfl (by kernel_rfl) (by kernel_rfl) (by kernel_rfl) (fun _ _ _ h => h) (Or.inl ⟨by rfl, ?hy40a⟩) hHeld ?rest40a
    case hy40a =>
      intro w hSw
      try dsimp only at hSw
      go_simp
      try with_reducible rfl
    try simp only [Act.put, List.setIfInBounds_toArray, List.set_cons_zero, List.set_cons_succ]
    refine wpAnyH_done (by kernel_rfl) ?_ _
    refine NoPanic.normal ?_
    obtain ⟨hTT, hs5, hB5, hown6_8, hown7_8, hown8, hD8, hg6, hg7, hz56, hz67, hz78, hlm, hlS, hNb, hxb⟩ := HA.out
    have r6 := ownsRow_below hown6_8 hd10
    have r7 := ownsRow_below hown7_8 hd10
    have r8 := ownsRow_below hown8 hd10
    have hDc := below_step hD8 hd10
    have hg8 := hown8.lt
    have hG := Lib.hid (And.intro hg6 (And.intro hg7 hg8))
    clear hg6 hg7 hg8 hown6_8 hown7_8 hown8 hD8 HA k1 k2 k3 cvs cvo cvb qR qQ hd10 hd9 hB9 hB10 hB8d hd8 k4 hHeld
    go_wp2_with fail
    go_loopw [107] (fun I wr => ∃ (i : Nat) (M : List Int), i ≤ N ∧ I = .int .i64 (i : Int) ∧ wr.ownsRow w5.heap.size 5 1 (.slice a6 N c6) N (M.map (Value.int .u8)) ∧ wr.ownsRow w6.heap.size 5 1 (.slice a7 m c7) m (l.map (Value.int .u8)) ∧ wr.ownsRow w7.heap.size 5 1 (.slice ax nx cx) nx (Lx.map (Value.int .u8)) ∧ Below w5.heap.size w5 wr) (fun I _ => N - (intOf I).toNat)
    case atStart => exact ⟨0, S, by omega, rfl, r6, r7, r8, hDc⟩
    case round =>
      obtain ⟨i, M, hi, rfl, qr6, qr7, qr8, hDn⟩ := hrel
      obtain ⟨wi, hwi⟩ : ∃ wi, wi = wr := ⟨_, rfl⟩
      subst hwi
      clear r6 r7 r8 hDc
      by_cases hlt : i < N
      · obtain ⟨g, cc, hgg⟩ := ownsRow_form' qr6 (by omega)
        cases hgg
        have hcell := row_at qr6 hlt
        have hfr := qr6.frozenAt i
        obtain ⟨hgl, hgu⟩ := (hG.out.1 g rfl)
        obtain ⟨X, hX⟩ : ∃ X, X = M[i]?.getD 0 := ⟨_, rfl⟩
        rw [← hX] at hcell
        have s0 := Lib.hid (fun v : Int => row_set qr6 i v)
        have s1 := Lib.hid (fun v : Int => ownsRow_setCell_below qr7 (a := ⟨g, i, none⟩) (by show g < w6.heap.size; omega) (.int .u8 v))
        have s2 := Lib.hid (fun v : Int => ownsRow_setCell_below qr8 (a := ⟨g, i, none⟩) (by show g < w7.heap.size; omega) (.int .u8 v))
        have sD := Lib.hid (fun v : Int => hDn.setCell (p := ⟨g, i, none⟩) (by show w5.heap.size ≤ g; omega) (.int .u8 v))
        clear qr6 qr7 qr8 hDn hX
        go_wp2_with fail
        go_roundw
        case rel => exact ⟨i + 1, _, by omega, by go_num, s0.out _, s1.out _, s2.out _, sD.out _⟩
        case measure => simp [intOf]; omega
      · obtain rfl : i = N := by omega
        have r7 := qr7
        have r8 := qr8
        have hDc := hDn
        clear qr6 qr7 qr8 hDn
        go_wp2_with fail
        go_loopw [119] (fun I wr => ∃ (i : Nat) (M : List Int), i ≤ m ∧ I = .int .i64 (i : Int) ∧ wr.ownsRow w6.heap.size 5 1 (.slice a7 m c7) m (M.map (Value.int .u8)) ∧ wr.ownsRow w7.heap.size 5 1 (.slice ax nx cx) nx (Lx.map (Value.int .u8)) ∧ Below w5.heap.size w5 wr) (fun I _ => m - (intOf I).toNat)
        case atStart => exact ⟨0, l, by omega, rfl, r7, r8, hDc⟩
        case round =>
          obtain ⟨i, M, hi, rfl, qr7, qr8, hDn⟩ := hrel
          obtain ⟨wi, hwi⟩ : ∃ wi, wi = wr := ⟨_, rfl⟩
          subst hwi
          clear r7 r8 hDc
          by_cases hlt : i < m
          · obtain ⟨g, cc, hgg⟩ := ownsRow_form' qr7 (by omega)
            cases hgg
            have hcell := row_at qr7 hlt
            have hfr := qr7.frozenAt i
            obtain ⟨hgl, hgu⟩ := (hG.out.2.1 g rfl)
            obtain ⟨X, hX⟩ : ∃ X, X = M[i]?.getD 0 := ⟨_, rfl⟩
            rw [← hX] at hcell
            have s0 := Lib.hid (fun v : Int => row_set qr7 i v)
            have s1 := Lib.hid (fun v : Int => ownsRow_setCell_below qr8 (a := ⟨g, i, none⟩) (by show g < w7.heap.size; omega) (.int .u8 v))
            have sD := Lib.hid (fun v : Int => hDn.setCell (p := ⟨g, i, none⟩) (by show w5.heap.size ≤ g; omega) (.int .u8 v))
            clear qr7 qr8 hDn hX
            go_wp2_with fail
            go_roundw
            case rel => exact ⟨i + 1, _, by omega, by go_num, s0.out _, s1.out _, sD.out _⟩
            case measure => simp [intOf]; omega
          · obtain rfl : i = m := by omega
            have r8 := qr8
            have hDc := hDn
            clear qr7 qr8 hDn
            go_wp2_with fail
            go_loopw [131] (fun I wr => ∃ (i : Nat) (M : List Int), i ≤ nx ∧ I = .int .i64 (i : Int) ∧ wr.ownsRow w7.heap.size 5 1 (.slice ax nx cx) nx (M.map (Value.int .u8)) ∧ Below w5.heap.size w5 wr) (fun I _ => nx - (intOf I).toNat)
            case atStart => exact ⟨0, Lx, by omega, rfl, r8, hDc⟩
            case round =>
              obtain ⟨i, M, hi, rfl, qr8, hDn⟩ := hrel
              obtain ⟨wi, hwi⟩ : ∃ wi, wi = wr := ⟨_, rfl⟩
              subst hwi
              clear r8 hDc
              by_cases hlt : i < nx
              · obtain ⟨g, cc, hgg⟩ := ownsRow_form' qr8 (by omega)
                cases hgg
                have hcell := row_at qr8 hlt
                have hfr := qr8.frozenAt i
                obtain ⟨hgl, hgu⟩ := (hG.out.2.2 g rfl)
                obtain ⟨X, hX⟩ : ∃ X, X = M[i]?.getD 0 := ⟨_, rfl⟩
                rw [← hX] at hcell
                have s0 := Lib.hid (fun v : Int => row_set qr8 i v)
                have sD := Lib.hid (fun v : Int => hDn.setCell (p := ⟨g, i, none⟩) (by show w5.heap.size ≤ g; omega) (.int .u8 v))
                clear qr8 hDn hX
                go_wp2_with fail
                go_roundw
                case rel => exact ⟨i + 1, _, by omega, by go_num, s0.out _, sD.out _⟩
                case measure => simp [intOf]; omega
              · obtain rfl : i = nx := by omega
                have hDc := hDn
                clear qr8 hDn
                have kf1 := conv_sl (hs5.below hDc)
                have kf2 := conv_sl (hS.below (below_step hB5 hDc))
                rw [← HTe.out] at kf1 kf2
                have hBf := below_step hB5 hDc
                clear hs5 hDc
                go_wp2_with fail
                go_ret
                exact ⟨rfl, hBf⟩
  · rw [hsb] at qQ
    go_wp2_with fail
    refine wp_region_noPanic ?_
    refine wp_region_held_drew (S := fun w' => Below w8.heap.size w8 w' ∧ (convert 22 9 (.slice a6 N c6)).run Tryd.prog w' = .ok (.string T1) w' ∧ (convert 22 9 (.slice a7 m c7)).run Tryd.prog w' = .ok (.string T) w' ∧ (convert 22 9 (.slice a m cap)).run Tryd.prog w' = .ok (.string T) w') (by kernel_rfl) ⟨hd8, k1, k2, k3⟩ (fun hHeld => ?_)
    refine wpAnyH_take (i := 0) (oi := { dst := some 64, op := Op.move (Operand.tmp 7), type := 33, pos := "law.go:31", after := #[], guard := none }) (v := ?v0b) rfl (by kernel_rfl) (by kernel_rfl) (by kernel_rfl) (fun _ _ _ h => h) (Or.inl ⟨by rfl, ?hy0b⟩) hHeld ?rest0b
    case hy0b =>
      intro w hSw
      try dsimp only at hSw
      go_simp
      try with_reducible rfl
    try simp only [Act.put, List.setIfInBounds_toArray, List.set_cons_zero, List.set_cons_succ]
    refine wpAnyH_take (i := 1) (oi := { dst := some 65, op := Op.binOp BinOp.neq 33 (Operand.tmp 64) (Operand.const (Value.int IntKind.i64 0)) 33, type := 4, pos := "law.go:31", after := #[{ on := 0, ground := Ground.data }], guard := none }) (v := ?v1b) rfl (by kernel_rfl) (by kernel_rfl) (by kernel_rfl) (fun _ _ _ h => h) (Or.inl ⟨by rfl, ?hy1b⟩) hHeld ?rest1b
    case hy1b =>
      intro w hSw
      try dsimp only at hSw
      go_simp
      try with_reducible rfl
    try simp only [Act.put, List.setIfInBounds_toArray, List.set_cons_zero, List.set_cons_succ]
    refine wpAnyH_take (i := 2) (oi := { dst := some 66, op := Op.move (Operand.tmp 65), type := 4, pos := "law.go:31", after := #[{ on := 1, ground := Ground.data }], guard := none }) (v := ?v2b) rfl (by kernel_rfl) (by kernel_rfl) (by kernel_rfl) (fun _ _ _ h => h) (Or.inl ⟨by rfl, ?hy2b⟩) hHeld ?rest2b
    case hy2b =>
      intro w hSw
      try dsimp only at hSw
      go_simp
      try with_reducible rfl
    try simp only [Act.put, List.setIfInBounds_toArray, List.set_cons_zero, List.set_cons_succ]
    refine wpAnyH_take (i := 3) (oi := { dst := some 67, op := Op.move (Operand.tmp 6), type := 22, pos := "law.go:31", after := #[{ on := 2, ground := Ground.guard }], guard := some (2, false) }) (v := ?v3b) rfl (by kernel_rfl) (by kernel_rfl) (by kernel_rfl) (fun _ _ _ h => h) (Or.inl ⟨by rfl, ?hy3b⟩) hHeld ?rest3b
    case hy3b =>
      intro w hSw
      try dsimp only at hSw
      go_simp
      try with_reducible rfl
    try simp only [Act.put, List.setIfInBounds_toArray, List.set_cons_zero, List.set_cons_succ]
    refine wpAnyH_take (i := 4) (oi := { dst := some 68, op := Op.convert 22 9 (Operand.tmp 67), type := 9, pos := "law.go:31", after := #[{ on := 3, ground := Ground.data }, { on := 2, ground := Ground.guard }], guard := some (2, false) }) (v := ?v4b) rfl (by kernel_rfl) (by kernel_rfl) (by kernel_rfl) (fun _ _ _ h => h) (Or.inl ⟨by rfl, ?hy4b⟩) hHeld ?rest4b
    case hy4b =>
      intro w hSw
      try dsimp only at hSw
      go_simp
      try with_reducible rfl
    try simp only [Act.put, List.setIfInBounds_toArray, List.set_cons_zero, List.set_cons_succ]
    refine wpAnyH_take (i := 5) (oi := { dst := some 69, op := Op.move (Operand.tmp 0), type := 22, pos := "law.go:31", after := #[{ on := 2, ground := Ground.guard }], guard := some (2, false) }) (v := ?v5b) rfl (by kernel_rfl) (by kernel_rfl) (by kernel_rfl) (fun _ _ _ h => h) (Or.inl ⟨by rfl, ?hy5b⟩) hHeld ?rest5b
    case hy5b =>
      intro w hSw
      try dsimp only at hSw
      go_simp
      try with_reducible rfl
    try simp only [Act.put, List.setIfInBounds_toArray, List.set_cons_zero, List.set_cons_succ]
    refine wpAnyH_ready (rs := [6]) (by kernel_rfl) (by simp) ?_
    refine AllReadyH.cons (o := { dst := some 70, op := Op.call { callee := Callee.value (Operand.func 19), args := #[Operand.tmp 69], argTypes := #[22] }, type := 22, pos := "law.go:31", after := #[{ on := 5, ground := Ground.data }, { on := 2, ground := Ground.chain }, { on := 2, ground := Ground.guard }], guard := some (2, false) }) rfl (fun K hK => ?_) AllReadyH.nil
    go_simp
    refine (qR _ hB8d).mono ?_
    rintro e w9 ⟨v9, rfl, hm9⟩
    obtain ⟨a9, c9, rfl, hs9, _, hb9⟩ := hm9.view N HlS.out
    have k4 := conv_sl hs9
    rw [← HT1e.out] at k4
    have hd9 := below_step hd8 hb9
    have hB9 := below_step hB8d hb9
    clear hs9 hm9 hb9
    go_wp2_with fail
    refine hK.out _ _ ⟨hd9, cvs _ hd9, cvo _ hd9, cvb _ hB9⟩ (fun hHeld => ?_)
    clear hK K
    try simp only [Act.put, List.setIfInBounds_toArray, List.set_cons_zero, List.set_cons_succ]
    refine wpAnyH_ready (rs := [7]) (by kernel_rfl) (by simp) ?_
    refine AllReadyH.cons (o := { dst := some 71, op := Op.convert 22 9 (Operand.tmp 70), type := 9, pos := "law.go:31", after := #[{ on := 6, ground := Ground.data }, { on := 2, ground := Ground.guard }], guard := some (2, false) }) rfl (fun K hK => ?_) AllReadyH.nil
    go_simp
    refine hK.out _ _ ⟨hd9, cvs _ hd9, cvo _ hd9, cvb _ hB9⟩ (fun hHeld => ?_)
    clear hK K
    try simp only [Act.put, List.setIfInBounds_toArray, List.set_cons_zero, List.set_cons_succ]
    refine wpAnyH_take (i := 8) (oi := { dst := some 72, op := Op.binOp BinOp.neq 9 (Operand.tmp 68) (Operand.tmp 71) 9, type := 4, pos := "law.go:31", after := #[{ on := 4, ground := Ground.data }, { on := 7, ground := Ground.data }, { on := 2, ground := Ground.guard }], guard := some (2, false) }) (v := ?v8b) rfl (by kernel_rfl) (by kernel_rfl) (by kernel_rfl) (fun _ _ _ h => h) (Or.inl ⟨by rfl, ?hy8b⟩) hHeld ?rest8b
    case hy8b =>
      intro w hSw
      try dsimp only at hSw
      go_simp
      try with_reducible rfl
    try simp only [Act.put, List.setIfInBounds_toArray, List.set_cons_zero, List.set_cons_succ]
    refine wpAnyH_take (i := 9) (oi := { dst := some 73, op := Op.pick (Operand.tmp 66) (Operand.const (Value.bool true)) (Operand.tmp 72), type := 4, pos := "law.go:31", after := #[{ on := 2, ground := Ground.data }, { on := 8, ground := Ground.data }], guard := none }) (v := ?v9b) rfl (by kernel_rfl) (by kernel_rfl) (by kernel_rfl) (fun _ _ _ h => h) (Or.inl ⟨by rfl, ?hy9b⟩) hHeld ?rest9b
    case hy9b =>
      intro w hSw
      try dsimp only at hSw
      go_simp
      try with_reducible rfl
    try simp only [Act.put, List.setIfInBounds_toArray, List.set_cons_zero, List.set_cons_succ]
    refine wpAnyH_take (i := 10) (oi := { dst := some 74, op := Op.move (Operand.tmp 73), type := 4, pos := "law.go:31", after := #[{ on := 9, ground := Ground.data }, { on := 6, ground := Ground.chain }], guard := none }) (v := ?v10b) rfl (by kernel_rfl) (by kernel_rfl) (by kernel_rfl) (fun _ _ _ h => h) (Or.inl ⟨by rfl, ?hy10b⟩) hHeld ?rest10b
    case hy10b =>
      intro w hSw
      try dsimp only at hSw
      go_simp
      try with_reducible rfl
    try simp only [Act.put, List.setIfInBounds_toArray, List.set_cons_zero, List.set_cons_succ]
    refine wpAnyH_take (i := 11) (oi := { dst := some 75, op := Op.move (Operand.tmp 9), type := 33, pos := "law.go:31", after := #[{ on := 10, ground := Ground.guard }], guard := some (10, false) }) (v := ?v11b) rfl (by kernel_rfl) (by kernel_rfl) (by kernel_rfl) (fun _ _ _ h => h) (Or.inl ⟨by rfl, ?hy11b⟩) hHeld ?rest11b
    case hy11b =>
      intro w hSw
      try dsimp only at hSw
      go_simp
      try with_reducible rfl
    try simp only [Act.put, List.setIfInBounds_toArray, List.set_cons_zero, List.set_cons_succ]
    refine wpAnyH_take (i := 12) (oi := { dst := some 76, op := Op.binOp BinOp.neq 33 (Operand.tmp 75) (Operand.const (Value.int IntKind.i64 0)) 33, type := 4, pos := "law.go:31", after := #[{ on := 11, ground := Ground.data }, { on := 10, ground := Ground.guard }], guard := some (10, false) }) (v := ?v12b) rfl (by kernel_rfl) (by kernel_rfl) (by kernel_rfl) (fun _ _ _ h => h) (Or.inl ⟨by rfl, ?hy12b⟩) hHeld ?rest12b
    case hy12b =>
      intro w hSw
      try dsimp only at hSw
      go_simp
      try with_reducible rfl
    try simp only [Act.put, List.setIfInBounds_toArray, List.set_cons_zero, List.set_cons_succ]
    refine wpAnyH_take (i := 13) (oi := { dst := some 77, op := Op.pick (Operand.tmp 74) (Operand.const (Value.bool true)) (Operand.tmp 76), type := 4, pos := "law.go:31", after := #[{ on := 10, ground := Ground.data }, { on := 12, ground := Ground.data }], guard := none }) (v := ?v13b) rfl (by kernel_rfl) (by kernel_rfl) (by kernel_rfl) (fun _ _ _ h => h) (Or.inl ⟨by rfl, ?hy13b⟩) hHeld ?rest13b
    case hy13b =>
      intro w hSw
      try dsimp only at hSw
      go_simp
      try with_reducible rfl
    try simp only [Act.put, List.setIfInBounds_toArray, List.set_cons_zero, List.set_cons_succ]
    refine wpAnyH_take (i := 14) (oi := { dst := some 78, op := Op.move (Operand.tmp 77), type := 4, pos := "law.go:31", after := #[{ on := 13, ground := Ground.data }, { on := 10, ground := Ground.chain }], guard := none }) (v := ?v14b) rfl (by kernel_rfl) (by kernel_rfl) (by kernel_rfl) (fun _ _ _ h => h) (Or.inl ⟨by rfl, ?hy14b⟩) hHeld ?rest14b
    case hy14b =>
      intro w hSw
      try dsimp only at hSw
      go_simp
      try with_reducible rfl
    try simp only [Act.put, List.setIfInBounds_toArray, List.set_cons_zero, List.set_cons_succ]
    refine wpAnyH_take (i := 15) (oi := { dst := some 79, op := Op.move (Operand.tmp 8), type := 22, pos := "law.go:31", after := #[{ on := 14, ground := Ground.guard }], guard := some (14, false) }) (v := ?v15b) rfl (by kernel_rfl) (by kernel_rfl) (by kernel_rfl) (fun _ _ _ h => h) (Or.inl ⟨by rfl, ?hy15b⟩) hHeld ?rest15b
    case hy15b =>
      intro w hSw
      try dsimp only at hSw
      go_simp
      try with_reducible rfl
    try simp only [Act.put, List.setIfInBounds_toArray, List.set_cons_zero, List.set_cons_succ]
    refine wpAnyH_take (i := 16) (oi := { dst := some 80, op := Op.convert 22 9 (Operand.tmp 79), type := 9, pos := "law.go:31", after := #[{ on := 15, ground := Ground.data }, { on := 14, ground := Ground.guard }], guard := some (14, false) }) (v := ?v16b) rfl (by kernel_rfl) (by kernel_rfl) (by kernel_rfl) (fun _ _ _ h => h) (Or.inl ⟨by rfl, ?hy16b⟩) hHeld ?rest16b
    case hy16b =>
      intro w hSw
      try dsimp only at hSw
      go_simp
      try with_reducible rfl
    try simp only [Act.put, List.setIfInBounds_toArray, List.set_cons_zero, List.set_cons_succ]
    refine wpAnyH_take (i := 17) (oi := { dst := some 81, op := Op.move (Operand.tmp 0), type := 22, pos := "law.go:31", after := #[{ on := 14, ground := Ground.guard }], guard := some (14, false) }) (v := ?v17b) rfl (by kernel_rfl) (by kernel_rfl) (by kernel_rfl) (fun _ _ _ h => h) (Or.inl ⟨by rfl, ?hy17b⟩) hHeld ?rest17b
    case hy17b =>
      intro w hSw
      try dsimp only at hSw
      go_simp
      try with_reducible rfl
    try simp only [Act.put, List.setIfInBounds_toArray, List.set_cons_zero, List.set_cons_succ]
    refine wpAnyH_take (i := 18) (oi := { dst := some 82, op := Op.convert 22 9 (Operand.tmp 81), type := 9, pos := "law.go:31", after := #[{ on := 17, ground := Ground.data }, { on := 14, ground := Ground.guard }], guard := some (14, false) }) (v := ?v18b) rfl (by kernel_rfl) (by kernel_rfl) (by kernel_rfl) (fun _ _ _ h => h) (Or.inl ⟨by rfl, ?hy18b⟩) hHeld ?rest18b
    case hy18b =>
      intro w hSw
      try dsimp only at hSw
      go_simp
      try with_reducible rfl
    try simp only [Act.put, List.setIfInBounds_toArray, List.set_cons_zero, List.set_cons_succ]
    refine wpAnyH_take (i := 19) (oi := { dst := some 83, op := Op.binOp BinOp.neq 9 (Operand.tmp 80) (Operand.tmp 82) 9, type := 4, pos := "law.go:31", after := #[{ on := 16, ground := Ground.data }, { on := 18, ground := Ground.data }, { on := 14, ground := Ground.guard }], guard := some (14, false) }) (v := ?v19b) rfl (by kernel_rfl) (by kernel_rfl) (by kernel_rfl) (fun _ _ _ h => h) (Or.inl ⟨by rfl, ?hy19b⟩) hHeld ?rest19b
    case hy19b =>
      intro w hSw
      try dsimp only at hSw
      go_simp
      try with_reducible rfl
    try simp only [Act.put, List.setIfInBounds_toArray, List.set_cons_zero, List.set_cons_succ]
    refine wpAnyH_take (i := 20) (oi := { dst := some 84, op := Op.pick (Operand.tmp 78) (Operand.const (Value.bool true)) (Operand.tmp 83), type := 4, pos := "law.go:31", after := #[{ on := 14, ground := Ground.data }, { on := 19, ground := Ground.data }], guard := none }) (v := ?v20b) rfl (by kernel_rfl) (by kernel_rfl) (by kernel_rfl) (fun _ _ _ h => h) (Or.inl ⟨by rfl, ?hy20b⟩) hHeld ?rest20b
    case hy20b =>
      intro w hSw
      try dsimp only at hSw
      go_simp
      try with_reducible rfl
    try simp only [Act.put, List.setIfInBounds_toArray, List.set_cons_zero, List.set_cons_succ]
    refine wpAnyH_take (i := 21) (oi := { dst := some 85, op := Op.move (Operand.tmp 84), type := 4, pos := "law.go:31", after := #[{ on := 20, ground := Ground.data }, { on := 14, ground := Ground.chain }], guard := none }) (v := ?v21b) rfl (by kernel_rfl) (by kernel_rfl) (by kernel_rfl) (fun _ _ _ h => h) (Or.inl ⟨by rfl, ?hy21b⟩) hHeld ?rest21b
    case hy21b =>
      intro w hSw
      try dsimp only at hSw
      go_simp
      try with_reducible rfl
    try simp only [Act.put, List.setIfInBounds_toArray, List.set_cons_zero, List.set_cons_succ]
    refine wpAnyH_take (i := 22) (oi := { dst := some 86, op := Op.move (Operand.tmp 11), type := 33, pos := "law.go:31", after := #[{ on := 21, ground := Ground.guard }], guard := some (21, false) }) (v := ?v22b) rfl (by kernel_rfl) (by kernel_rfl) (by kernel_rfl) (fun _ _ _ h => h) (Or.inl ⟨by rfl, ?hy22b⟩) hHeld ?rest22b
    case hy22b =>
      intro w hSw
      try dsimp only at hSw
      go_simp
      try with_reducible rfl
    try simp only [Act.put, List.setIfInBounds_toArray, List.set_cons_zero, List.set_cons_succ]
    refine wpAnyH_take (i := 23) (oi := { dst := some 87, op := Op.binOp BinOp.eql 33 (Operand.tmp 86) (Operand.const (Value.int IntKind.i64 0)) 33, type := 4, pos := "law.go:31", after := #[{ on := 22, ground := Ground.data }, { on := 21, ground := Ground.guard }], guard := some (21, false) }) (v := ?v23b) rfl (by kernel_rfl) (by kernel_rfl) (by kernel_rfl) (fun _ _ _ h => h) (Or.inl ⟨by rfl, ?hy23b⟩) hHeld ?rest23b
    case hy23b =>
      intro w hSw
      try dsimp only at hSw
      go_simp
      try with_reducible rfl
    try simp only [Act.put, List.setIfInBounds_toArray, List.set_cons_zero, List.set_cons_succ]
    refine wpAnyH_take (i := 24) (oi := { dst := some 88, op := Op.move (Operand.tmp 0), type := 22, pos := "law.go:31", after := #[{ on := 21, ground := Ground.guard }], guard := some (21, false) }) (v := ?v24b) rfl (by kernel_rfl) (by kernel_rfl) (by kernel_rfl) (fun _ _ _ h => h) (Or.inl ⟨by rfl, ?hy24b⟩) hHeld ?rest24b
    case hy24b =>
      intro w hSw
      try dsimp only at hSw
      go_simp
      try with_reducible rfl
    try simp only [Act.put, List.setIfInBounds_toArray, List.set_cons_zero, List.set_cons_succ]
    refine wpAnyH_ready (rs := [25]) (by kernel_rfl) (by simp) ?_
    refine AllReadyH.cons (o := { dst := some 89, op := Op.call { callee := Callee.value (Operand.func 40), args := #[Operand.tmp 88], argTypes := #[22] }, type := 4, pos := "law.go:31", after := #[{ on := 24, ground := Ground.data }, { on := 21, ground := Ground.chain }, { on := 21, ground := Ground.guard }], guard := some (21, false) }) rfl (fun K hK => ?_) AllReadyH.nil
    go_simp
    refine (qQ _ hB9).mono ?_
    rintro e w10 ⟨rfl, hb10⟩
    have hd10 := below_step hd9 hb10
    have hB10 := below_step hB9 hb10
    clear hb10
    go_wp2_with fail
    refine hK.out _ _ ⟨hd10, cvs _ hd10, cvo _ hd10, cvb _ hB10⟩ (fun hHeld => ?_)
    clear hK K
    try simp only [Act.put, List.setIfInBounds_toArray, List.set_cons_zero, List.set_cons_succ]
    refine wpAnyH_take (i := 26) (oi := { dst := some 90, op := Op.binOp BinOp.neq 4 (Operand.tmp 87) (Operand.tmp 89) 4, type := 4, pos := "law.go:31", after := #[{ on := 23, ground := Ground.data }, { on := 25, ground := Ground.data }, { on := 21, ground := Ground.guard }], guard := some (21, false) }) (v := ?v26b) rfl (by kernel_rfl) (by kernel_rfl) (by kernel_rfl) (fun _ _ _ h => h) (Or.inl ⟨by rfl, ?hy26b⟩) hHeld ?rest26b
    case hy26b =>
      intro w hSw
      try dsimp only at hSw
      go_simp
      try with_reducible rfl
    try simp only [Act.put, List.setIfInBounds_toArray, List.set_cons_zero, List.set_cons_succ]
    refine wpAnyH_take (i := 27) (oi := { dst := some 91, op := Op.pick (Operand.tmp 85) (Operand.const (Value.bool true)) (Operand.tmp 90), type := 4, pos := "law.go:31", after := #[{ on := 21, ground := Ground.data }, { on := 26, ground := Ground.data }], guard := none }) (v := ?v27b) rfl (by kernel_rfl) (by kernel_rfl) (by kernel_rfl) (fun _ _ _ h => h) (Or.inl ⟨by rfl, ?hy27b⟩) hHeld ?rest27b
    case hy27b =>
      intro w hSw
      try dsimp only at hSw
      go_simp
      try with_reducible rfl
    try simp only [Act.put, List.setIfInBounds_toArray, List.set_cons_zero, List.set_cons_succ]
    refine wpAnyH_take (i := 28) (oi := { dst := some 92, op := Op.move (Operand.tmp 91), type := 4, pos := "law.go:31", after := #[{ on := 27, ground := Ground.data }, { on := 25, ground := Ground.chain }], guard := none }) (v := ?v28b) rfl (by kernel_rfl) (by kernel_rfl) (by kernel_rfl) (fun _ _ _ h => h) (Or.inl ⟨by rfl, ?hy28b⟩) hHeld ?rest28b
    case hy28b =>
      intro w hSw
      try dsimp only at hSw
      go_simp
      try with_reducible rfl
    try simp only [Act.put, List.setIfInBounds_toArray, List.set_cons_zero, List.set_cons_succ]
    refine wpAnyH_take (i := 29) (oi := { dst := some 93, op := Op.move (Operand.tmp 11), type := 33, pos := "law.go:31", after := #[{ on := 28, ground := Ground.guard }], guard := some (28, false) }) (v := ?v29b) rfl (by kernel_rfl) (by kernel_rfl) (by kernel_rfl) (fun _ _ _ h => h) (Or.inl ⟨by rfl, ?hy29b⟩) hHeld ?rest29b
    case hy29b =>
      intro w hSw
      try dsimp only at hSw
      go_simp
      try with_reducible rfl
    try simp only [Act.put, List.setIfInBounds_toArray, List.set_cons_zero, List.set_cons_succ]
    refine wpAnyH_take (i := 30) (oi := { dst := some 94, op := Op.binOp BinOp.neq 33 (Operand.tmp 93) (Operand.const (Value.int IntKind.i64 0)) 33, type := 4, pos := "law.go:31", after := #[{ on := 29, ground := Ground.data }, { on := 28, ground := Ground.guard }], guard := some (28, false) }) (v := ?v30b) rfl (by kernel_rfl) (by kernel_rfl) (by kernel_rfl) (fun _ _ _ h => h) (Or.inl ⟨by rfl, ?hy30b⟩) hHeld ?rest30b
    case hy30b =>
      intro w hSw
      try dsimp only at hSw
      go_simp
      try with_reducible rfl
    try simp only [Act.put, List.setIfInBounds_toArray, List.set_cons_zero, List.set_cons_succ]
    refine wpAnyH_take (i := 31) (oi := { dst := some 95, op := Op.move (Operand.tmp 94), type := 4, pos := "law.go:31", after := #[{ on := 30, ground := Ground.data }, { on := 28, ground := Ground.chain }, { on := 28, ground := Ground.guard }], guard := some (28, false) }) (v := ?v31b) rfl (by kernel_rfl) (by kernel_rfl) (by kernel_rfl) (fun _ _ _ h => h) (Or.inl ⟨by rfl, ?hy31b⟩) hHeld ?rest31b
    case hy31b =>
      intro w hSw
      try dsimp only at hSw
      go_simp
      try with_reducible rfl
    try simp only [Act.put, List.setIfInBounds_toArray, List.set_cons_zero, List.set_cons_succ]
    refine wpAnyH_take (i := 32) (oi := { dst := some 96, op := Op.move (Operand.tmp 11), type := 33, pos := "law.go:31", after := #[{ on := 31, ground := Ground.guard }], guard := some (31, true) }) (v := ?v32b) rfl (by kernel_rfl) (by kernel_rfl) (by kernel_rfl) (fun _ _ _ h => h) (Or.inl ⟨by rfl, ?hy32b⟩) hHeld ?rest32b
    case hy32b =>
      intro w hSw
      try dsimp only at hSw
      go_simp
      try with_reducible rfl
    try simp only [Act.put, List.setIfInBounds_toArray, List.set_cons_zero, List.set_cons_succ]
    refine wpAnyH_take (i := 33) (oi := { dst := some 97, op := Op.binOp BinOp.neq 33 (Operand.tmp 96) (Operand.const (Value.int IntKind.i64 2)) 33, type := 4, pos := "law.go:31", after := #[{ on := 32, ground := Ground.data }, { on := 31, ground := Ground.guard }], guard := some (31, true) }) (v := ?v33b) rfl (by kernel_rfl) (by kernel_rfl) (by kernel_rfl) (fun _ _ _ h => h) (Or.inl ⟨by rfl, ?hy33b⟩) hHeld ?rest33b
    case hy33b =>
      intro w hSw
      try dsimp only at hSw
      go_simp
      try with_reducible rfl
    try simp only [Act.put, List.setIfInBounds_toArray, List.set_cons_zero, List.set_cons_succ]
    refine wpAnyH_take (i := 34) (oi := { dst := some 98, op := Op.move (Operand.tmp 97), type := 4, pos := "law.go:31", after := #[{ on := 33, ground := Ground.data }, { on := 31, ground := Ground.chain }, { on := 31, ground := Ground.guard }], guard := some (31, true) }) (v := ?v34b) rfl (by kernel_rfl) (by kernel_rfl) (by kernel_rfl) (fun _ _ _ h => h) (Or.inl ⟨by rfl, ?hy34b⟩) hHeld ?rest34b
    case hy34b =>
      intro w hSw
      try dsimp only at hSw
      go_simp
      try with_reducible rfl
    try simp only [Act.put, List.setIfInBounds_toArray, List.set_cons_zero, List.set_cons_succ]
    refine wpAnyH_take (i := 35) (oi := { dst := some 99, op := Op.move (Operand.tmp 10), type := 22, pos := "law.go:31", after := #[{ on := 34, ground := Ground.guard }], guard := some (34, false) }) (v := ?v35b) rfl (by kernel_rfl) (by kernel_rfl) (by kernel_rfl) (fun _ _ _ h => h) (Or.inl ⟨by rfl, ?hy35b⟩) hHeld ?rest35b
    case hy35b =>
      intro w hSw
      try dsimp only at hSw
      go_simp
      try with_reducible rfl
    try simp only [Act.put, List.setIfInBounds_toArray, List.set_cons_zero, List.set_cons_succ]
    refine wpAnyH_take (i := 36) (oi := { dst := some 100, op := Op.call { callee := Callee.builtin Builtin.len, args := #[Operand.tmp 99], argTypes := #[22] }, type := 3, pos := "law.go:31", after := #[{ on := 35, ground := Ground.data }, { on := 34, ground := Ground.guard }], guard := some (34, false) }) (v := ?v36b) rfl (by kernel_rfl) (by kernel_rfl) (by kernel_rfl) (fun _ _ _ h => h) (Or.inl ⟨by rfl, ?hy36b⟩) hHeld ?rest36b
    case hy36b =>
      intro w hSw
      try dsimp only at hSw
      go_simp
      try with_reducible rfl
    try simp only [Act.put, List.setIfInBounds_toArray, List.set_cons_zero, List.set_cons_succ]
    refine wpAnyH_take (i := 37) (oi := { dst := some 101, op := Op.binOp BinOp.gtr 3 (Operand.tmp 100) (Operand.const (Value.int IntKind.i64 0)) 3, type := 4, pos := "law.go:31", after := #[{ on := 36, ground := Ground.data }, { on := 34, ground := Ground.guard }], guard := some (34, false) }) (v := ?v37b) rfl (by kernel_rfl) (by kernel_rfl) (by kernel_rfl) (fun _ _ _ h => h) (Or.inl ⟨by rfl, ?hy37b⟩) hHeld ?rest37b
    case hy37b =>
      intro w hSw
      try dsimp only at hSw
      go_simp
      try with_reducible rfl
    try simp only [Act.put, List.setIfInBounds_toArray, List.set_cons_zero, List.set_cons_succ]
    refine wpAnyH_take (i := 38) (oi := { dst := some 102, op := Op.pick (Operand.tmp 98) (Operand.const (Value.bool true)) (Operand.tmp 101), type := 4, pos := "law.go:31", after := #[{ on := 34, ground := Ground.data }, { on := 37, ground := Ground.data }, { on := 31, ground := Ground.guard }], guard := some (31, true) }) (v := ?v38b) rfl (by kernel_rfl) (by kernel_rfl) (by kernel_rfl) (fun _ _ _ h => h) (Or.inl ⟨by rfl, ?hy38b⟩) hHeld ?rest38b
    case hy38b =>
      intro w hSw
      try dsimp only at hSw
      go_simp
      try with_reducible rfl
    try simp only [Act.put, List.setIfInBounds_toArray, List.set_cons_zero, List.set_cons_succ]
    refine wpAnyH_take (i := 39) (oi := { dst := some 103, op := Op.pick (Operand.tmp 95) (Operand.tmp 102) (Operand.const (Value.bool false)), type := 4, pos := "law.go:31", after := #[{ on := 31, ground := Ground.data }, { on := 38, ground := Ground.data }, { on := 28, ground := Ground.guard }], guard := some (28, false) }) (v := ?v39b) rfl (by kernel_rfl) (by kernel_rfl) (by kernel_rfl) (fun _ _ _ h => h) (Or.inl ⟨by rfl, ?hy39b⟩) hHeld ?rest39b
    case hy39b =>
      intro w hSw
      try dsimp only at hSw
      go_simp
      try with_reducible rfl
    try simp only [Act.put, List.setIfInBounds_toArray, List.set_cons_zero, List.set_cons_succ]
    refine wpAnyH_take (i := 40) (oi := { dst := some 104, op := Op.pick (Operand.tmp 92) (Operand.const (Value.bool true)) (Operand.tmp 103), type := 4, pos := "law.go:31", after := #[{ on := 28, ground := Ground.data }, { on := 39, ground := Ground.data }], guard := none }) (v := ?v40b) rfl (by kernel_rfl) (by kernel_rfl) (by kernel_rfl) (fun _ _ _ h => h) (Or.inl ⟨by rfl, ?hy40b⟩) hHeld ?rest40b
    case hy40b =>
      intro w hSw
      try dsimp only at hSw
      go_simp
      try with_reducible rfl
    try simp only [Act.put, List.setIfInBounds_toArray, List.set_cons_zero, List.set_cons_succ]
    refine wpAnyH_done (by kernel_rfl) ?_ _
    refine NoPanic.normal ?_
    obtain ⟨hTT, hs5, hB5, hown6_8, hown7_8, hown8, hD8, hg6, hg7, hz56, hz67, hz78, hlm, hlS, hNb, hxb⟩ := HA.out
    have r6 := ownsRow_below hown6_8 hd10
    have r7 := ownsRow_below hown7_8 hd10
    have r8 := ownsRow_below hown8 hd10
    have hDc := below_step hD8 hd10
    have hg8 := hown8.lt
    have hG := Lib.hid (And.intro hg6 (And.intro hg7 hg8))
    clear hg6 hg7 hg8 hown6_8 hown7_8 hown8 hD8 HA k1 k2 k3 cvs cvo cvb qR qQ hd10 hd9 hB9 hB10 hB8d hd8 k4 hHeld
    go_wp2_with fail
    go_loopw [107] (fun I wr => ∃ (i : Nat) (M : List Int), i ≤ N ∧ I = .int .i64 (i : Int) ∧ wr.ownsRow w5.heap.size 5 1 (.slice a6 N c6) N (M.map (Value.int .u8)) ∧ wr.ownsRow w6.heap.size 5 1 (.slice a7 m c7) m (l.map (Value.int .u8)) ∧ wr.ownsRow w7.heap.size 5 1 (.slice ax 0 cx) 0 (Lx.map (Value.int .u8)) ∧ Below w5.heap.size w5 wr) (fun I _ => N - (intOf I).toNat)
    case atStart => exact ⟨0, S, by omega, rfl, r6, r7, r8, hDc⟩
    case round =>
      obtain ⟨i, M, hi, rfl, qr6, qr7, qr8, hDn⟩ := hrel
      obtain ⟨wi, hwi⟩ : ∃ wi, wi = wr := ⟨_, rfl⟩
      subst hwi
      clear r6 r7 r8 hDc
      by_cases hlt : i < N
      · obtain ⟨g, cc, hgg⟩ := ownsRow_form' qr6 (by omega)
        cases hgg
        have hcell := row_at qr6 hlt
        have hfr := qr6.frozenAt i
        obtain ⟨hgl, hgu⟩ := (hG.out.1 g rfl)
        obtain ⟨X, hX⟩ : ∃ X, X = M[i]?.getD 0 := ⟨_, rfl⟩
        rw [← hX] at hcell
        have s0 := Lib.hid (fun v : Int => row_set qr6 i v)
        have s1 := Lib.hid (fun v : Int => ownsRow_setCell_below qr7 (a := ⟨g, i, none⟩) (by show g < w6.heap.size; omega) (.int .u8 v))
        have s2 := Lib.hid (fun v : Int => ownsRow_setCell_below qr8 (a := ⟨g, i, none⟩) (by show g < w7.heap.size; omega) (.int .u8 v))
        have sD := Lib.hid (fun v : Int => hDn.setCell (p := ⟨g, i, none⟩) (by show w5.heap.size ≤ g; omega) (.int .u8 v))
        clear qr6 qr7 qr8 hDn hX
        go_wp2_with fail
        go_roundw
        case rel => exact ⟨i + 1, _, by omega, by go_num, s0.out _, s1.out _, s2.out _, sD.out _⟩
        case measure => simp [intOf]; omega
      · obtain rfl : i = N := by omega
        have r7 := qr7
        have r8 := qr8
        have hDc := hDn
        clear qr6 qr7 qr8 hDn
        go_wp2_with fail
        go_loopw [119] (fun I wr => ∃ (i : Nat) (M : List Int), i ≤ m ∧ I = .int .i64 (i : Int) ∧ wr.ownsRow w6.heap.size 5 1 (.slice a7 m c7) m (M.map (Value.int .u8)) ∧ wr.ownsRow w7.heap.size 5 1 (.slice ax 0 cx) 0 (Lx.map (Value.int .u8)) ∧ Below w5.heap.size w5 wr) (fun I _ => m - (intOf I).toNat)
        case atStart => exact ⟨0, l, by omega, rfl, r7, r8, hDc⟩
        case round =>
          obtain ⟨i, M, hi, rfl, qr7, qr8, hDn⟩ := hrel
          obtain ⟨wi, hwi⟩ : ∃ wi, wi = wr := ⟨_, rfl⟩
          subst hwi
          clear r7 r8 hDc
          by_cases hlt : i < m
          · obtain ⟨g, cc, hgg⟩ := ownsRow_form' qr7 (by omega)
            cases hgg
            have hcell := row_at qr7 hlt
            have hfr := qr7.frozenAt i
            obtain ⟨hgl, hgu⟩ := (hG.out.2.1 g rfl)
            obtain ⟨X, hX⟩ : ∃ X, X = M[i]?.getD 0 := ⟨_, rfl⟩
            rw [← hX] at hcell
            have s0 := Lib.hid (fun v : Int => row_set qr7 i v)
            have s1 := Lib.hid (fun v : Int => ownsRow_setCell_below qr8 (a := ⟨g, i, none⟩) (by show g < w7.heap.size; omega) (.int .u8 v))
            have sD := Lib.hid (fun v : Int => hDn.setCell (p := ⟨g, i, none⟩) (by show w5.heap.size ≤ g; omega) (.int .u8 v))
            clear qr7 qr8 hDn hX
            go_wp2_with fail
            go_roundw
            case rel => exact ⟨i + 1, _, by omega, by go_num, s0.out _, s1.out _, sD.out _⟩
            case measure => simp [intOf]; omega
          · obtain rfl : i = m := by omega
            have r8 := qr8
            have hDc := hDn
            clear qr7 qr8 hDn
            go_wp2_with fail
            go_loopw [131] (fun I wr => ∃ (i : Nat) (M : List Int), i ≤ 0 ∧ I = .int .i64 (i : Int) ∧ wr.ownsRow w7.heap.size 5 1 (.slice ax 0 cx) 0 (M.map (Value.int .u8)) ∧ Below w5.heap.size w5 wr) (fun I _ => 0 - (intOf I).toNat)
            case atStart => exact ⟨0, Lx, by omega, rfl, r8, hDc⟩
            case round =>
              obtain ⟨i, M, hi, rfl, qr8, hDn⟩ := hrel
              obtain ⟨wi, hwi⟩ : ∃ wi, wi = wr := ⟨_, rfl⟩
              subst hwi
              clear r8 hDc
              by_cases hlt : i < 0
              · exact absurd hlt (by omega)
              · obtain rfl : i = 0 := by omega
                have hDc := hDn
                clear qr8 hDn
                have kf1 := conv_sl (hs5.below hDc)
                have kf2 := conv_sl (hS.below (below_step hB5 hDc))
                rw [← HTe.out] at kf1 kf2
                have hBf := below_step hB5 hDc
                clear hs5 hDc
                go_wp2_with fail
                go_ret
                exact ⟨rfl, hBf⟩
end Go.Proofs.YtdaijbplbnkpeaaDoor
