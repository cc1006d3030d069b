/-
  The contract of 'reads': whatever calls, a reader and the reference's agree. No condition but those in each statement.
-/
import Derived.Test.YtakpockkagfphaaRdb
import Derived.Test.YtakpockkagfphaaOver
import Derived.Test.YtakpockkagfphaaActs
namespace Go.Proofs.Ytakpockkagfphaa
open Go.RowKit Go.Shelf

set_option maxRecDepth 100000 in
set_option maxHeartbeats 2000000 in
theorem overBytes_bx (w : World) (base g n cap : Nat) (xs : List Value) (hown : w.ownsRow base 5 1 (.slice (some ⟨g, 0, none⟩) (n + 12) cap) (n + 12) xs) (hn : n ≤ 1000000) :
    Calls Try.prog 37 #[.slice (some ⟨g, 0, none⟩) n cap] w fun e w' => e = .returned (.tuple #[]) ∧ Bx (Only g) w w' := by
  have hcap : n + 12 ≤ cap := by
    rcases hown.2 with ⟨h1, h2⟩ | ⟨g, c, cur, hv, hb, _, hc, _⟩
    · omega
    · cases hv; exact hc
  have hcm : cap ≤ 9223372036854775807 := by
    rcases hown.2 with ⟨h1, h2⟩ | ⟨g, c, cur, hv, hb, _, hc, hm, _⟩
    · omega
    · cases hv; unfold maxLen at hm; omega
  have hcI : (n : Int) + 12 ≤ (cap : Int) := by omega
  have htn : ((n : Int) + 12).toNat = n + 12 := by omega
  go_enter Try.func37, Try.ntmps37
  go_wp2_with fail
  go_loopw [3] (fun i wr => ∃ (j : Nat) (ys : List Value), i = .int .i64 j ∧ j ≤ n + 12 ∧ wr.ownsRow base 5 1 (.slice (some ⟨g, 0, none⟩) (n + 12) cap) (n + 12) ys ∧ Bx (Only g) w wr) (fun i _ => (n + 12) - (intOf i).toNat)
  case atStart => exact ⟨0, xs, rfl, by omega, hown, Bx.refl _ _⟩
  case round =>
    obtain ⟨j, ys, rfl, hj, hownj, hbel⟩ := hrel
    have hyl := hownj.1
    by_cases hlt : j < n + 12
    · obtain ⟨y, hy⟩ : ∃ y, ys[j]? = some y := ⟨ys[j], List.getElem?_eq_getElem (by omega)⟩
      have e0 := hownj.cellAt j (by omega)
      rw [hy] at e0
      have e1 := hownj.frozenAt j
      have hst := fun u => (hownj.stored j u).1
      have hbl := fun u => hbel.setCell (p := ⟨g, j, none⟩) (Only.me g) u
      clear hyl hownj
      have hj12 : (j : Int) < (n : Int) + 12 := by omega
      go_wp2_with (go_at_call 56; refine (markByte2_any (j : Int) _ (by omega) (by omega)).mono ?_; rintro e w' ⟨⟨x, rfl⟩, rfl⟩)
      go_roundw
      case rel => exact ⟨j + 1, _, by go_num, by omega, hst _, hbl _⟩
      case measure => simp [intOf]; omega
    · go_wp2_with fail
      go_end0
      exact ⟨rfl, hbel⟩

set_option maxRecDepth 100000 in
set_option maxHeartbeats 1000000 in
theorem newReader_low (w : World) (a : Option Addr) (cap : Nat) (l : List Int) (hs : Sl .u8 w a l.length cap l) (hlen : l.length ≤ 140737488355000) :
    Calls Try.prog 19 #[.slice a l.length cap] w fun e w' => ∃ r a1 c1, e = .returned (.pointer (some ⟨r, 0, none⟩)) ∧ w.heap.size ≤ r ∧ Tri w' r 83 (.int .i64 (l.length : Int)) (.bool true) (.slice a1 l.length c1) ∧ Sl .u8 w' a1 l.length c1 l ∧ (∀ p, a1 = some p → w.heap.size ≤ p.block ∧ p.block < r) ∧ Below w.heap.size w w' := by
  go_enter Try.func19, Try.ntmps19
  go_wp2_with fail
  refine (clone_any _ a cap l hs hlen).mono ?_
  rintro e w1 ⟨a1, c1, rfl, hown, hB1⟩
  have hT := Tri.new w1 83 (.int .i64 (l.length : Int)) (.bool true) (.slice a1 l.length c1)
  have hsl := (own_sl hown).below ((Below.refl w1.heap.size w1).alloc (Nat.le_refl _) (.cells #[.int .i64 (l.length : Int), .bool true, .slice a1 l.length c1] 83))
  have hbk := own_block hown
  have hBf := hB1.alloc hB1.size (.cells #[.int .i64 (l.length : Int), .bool true, .slice a1 l.length c1] 83)
  have hsz := hB1.size
  go_wp2
  go_ret
  exact ⟨w1.heap.size, a1, c1, rfl, hsz, hT, hsl, hbk, hBf⟩

set_option maxRecDepth 100000 in
set_option maxHeartbeats 2000000 in
theorem reads_long (w : World) (a aa : Option Addr) (len cap an ac : Nat) (h : 500 < len ∨ 100 < an) :
    Calls Try.prog 11 #[.slice a len cap, .slice aa an ac] w fun e w' => e = .returned (.bool true) ∧ Below w.heap.size w w' := by
  by_cases h1 : 500 < len
  · have hb : decide (500 < (len : Int)) = true := by simp; omega
    have hb' : decide (500 < len) = true := by simp; omega
    clear h
    go_enter Try.func11, Try.ntmps11
    go_wp2_with fail
    go_ret
    exact ⟨rfl, Below.refl _ _⟩
  · have h2 : 100 < an := by omega
    clear h
    go_enter Try.func11, Try.ntmps11
    go_wp2_with fail
    go_ret
    exact ⟨rfl, Below.refl _ _⟩

theorem Two.set {w : World} {b : Nat} {t : TypeId} {v0 v1 : Value} (h : Two w b t v0 v1) (x y : Value) : Two ((w.setCell ⟨b, 0, none⟩ x).setCell ⟨b, 1, none⟩ y) b t x y := by
  have hh : w.heap[b]? = _ := h
  unfold Two
  simp [World.setCell, Array.getElem?_modify, hh]

/-- What stays in the region that compares. -/
def RSu (w : World) (b : Nat) (v0 v1 : Value) (w' : World) : Prop := Below w.heap.size w w' ∧ w'.cell? ⟨b, 0, none⟩ = some v0 ∧ w'.cell? ⟨b, 1, none⟩ = some v1
theorem RSu.step {w w1 w2 : World} {b : Nat} {v0 v1 : Value} (h : RSu w b v0 v1 w1) (hb : Below w1.heap.size w1 w2) : RSu w b v0 v1 w2 :=
  ⟨h.1.trans (hb.mono h.1.size), (hb.cell (World.block_lt_of_cell? w1 _ h.2.1)).trans h.2.1, (hb.cell (World.block_lt_of_cell? w1 _ h.2.2)).trans h.2.2⟩
theorem RSu.drew {w w1 : World} {b : Nat} {v0 v1 : Value} (h : RSu w b v0 v1 w1) : RSu w b v0 v1 w1.drew := h.step (Below.refl _ _).drew

set_option maxRecDepth 100000 in
set_option maxHeartbeats 2000000 in
theorem reads_go (w : World) (a aa : Option Addr) (cap an ac : Nat) (l : List Int) (hs : Sl .u8 w a l.length cap l) (hby : Bytes l) (hA : Acts w aa an ac) (hl5 : l.length ≤ 500) (han : an ≤ 100) :
    Calls Try.prog 11 #[.slice a l.length cap, .slice aa an ac] w fun e w' => e = .returned (.bool true) ∧ Below w.heap.size w w' := by
  have hac := hA.1
  go_enter Try.func11, Try.ntmps11
  go_wp2_with fail
  refine (lentBytes_own w a l.length cap l hs (by omega)).mono ?_
  rintro e w1 ⟨a1, c1, rfl, hown1, hB1⟩
  obtain ⟨g, cg, hgc, hg1, hg2⟩ := hown1.form (by omega)
  cases hgc
  have hsl1 := own_sl hown1
  have hslu := hsl1.upto l.length (by omega)
  rw [List.take_left] at hslu
  go_wp2_with fail
  refine (newReader_low w1 _ c1 l hslu (by omega)).mono ?_
  rintro e w2 ⟨r, a2, c2, rfl, hr, hT2, hsl2, hbk2, hB2⟩
  have hbel2 := step_below hB1 hB2 (Nat.le_refl _)
  have hown2 := ownsRow_below hown1 hB2
  clear hslu hsl1 hown1 hB1 hB2
  go_wp2_with fail
  refine (keptBytes_any w2 _ a c1 l.length cap l (own_sl (by simpa using hown2)) (hs.below hbel2) (by omega)).mono ?_
  rintro e w3 ⟨rfl, hD3⟩
  have hbel3 := step_below hbel2 hD3.below (Nat.le_refl _)
  have hown3 := ownsRow_below hown2 hD3.below
  have hT3 := hT2.below hD3.below hT2.lt
  have hsl3 := hsl2.below hD3.below
  clear hown2 hT2 hsl2 hD3 hbel2
  go_wp2_with fail
  refine (overBytes_bx w3 _ g l.length c1 _ hown3 (by omega)).mono ?_
  rintro e w4 ⟨rfl, hX4⟩
  have hT4 := hT3.bx hX4 (Only.ne (by omega))
  have hsl4 := hsl3.bx hX4 (fun p hp => Only.ne (by have := hbk2 p hp; omega))
  have hbel4 : Below w.heap.size w w4 := hbel3.trans (hX4.below (fun k hk => by have : k = g := hk; omega) hbel3.size)
  have hR4 : Rd w4 r l 0 := ⟨a2, c2, by simpa using hT4, hsl4, fun p hp => (hbk2 p hp).2, Nat.zero_le _, by omega⟩
  have hwr : w.heap.size ≤ r := by omega
  have hab := Lib.hid (Stab.of hs hwr)
  clear hT3 hsl3 hown3 hbk2 hX4 hT4 hsl4 hbel3
  have hsz4 := hbel4.size
  have hT7 := Two.new w4 71 (.slice a l.length cap) (.int .i64 0)
  have hBa : Below w4.heap.size w4 (w4.alloc (.cells #[.slice a l.length cap, .int .i64 0] 71)) := (Below.refl _ _).alloc (Nat.le_refl _) _
  have hR5 := hR4.below hBa
  have hbel5 := step_below hbel4 hBa (Nat.le_refl _)
  have hr4 := hR4.lt
  obtain ⟨b7, hb7⟩ : ∃ b7, b7 = w4.heap.size := ⟨_, rfl⟩
  rw [← hb7] at hT7 hr4 hsz4
  have HB7 := Lib.hid hb7
  clear hR4 hbel4 hBa hb7
  go_wp2_with fail
  rw [← HB7.out]
  go_loopw [34] (fun i wr => ∃ j ix : Nat, i = .int .i64 j ∧ j ≤ an ∧ Rd wr r l ix ∧ Two wr b7 71 (.slice a l.length cap) (.int .i64 ix) ∧ Below w.heap.size w wr) (fun i _ => an - (intOf i).toNat)
  case atStart => exact ⟨0, 0, rfl, by omega, hR5, by simpa using hT7, hbel5⟩
  case round =>
    obtain ⟨j, ix, rfl, hj, hR, hT, hbel⟩ := hrel
    have hacts := hA.below hbel
    by_cases hlt : j < an
    · obtain ⟨bA, oA, rfl, hcells⟩ : ∃ bA oA, aa = some ⟨bA, oA, none⟩ ∧ ∀ i, i < an → ActAt wr bA (oA + i * 5) := by
        rcases hacts.2.2 with ⟨h, _⟩ | h
        · omega
        · exact h
      obtain ⟨kd, n, m, X, ba, bn, bc, bl, z0, z1, z2, z3, z4, y0, y1, y2, y3, y4, y5⟩ := hcells j hlt
      obtain ⟨hk0, hk1⟩ := bounds_u8 y0
      obtain ⟨hn0, hn1⟩ := bounds_i64 y1
      obtain ⟨hm0, hm1⟩ := bounds_i64 y2
      clear hcells hacts y0 y1 y2 y3 y4 y5
      have t0 : ∀ o, (wr.alloc o).cell? ⟨b7, 0, none⟩ = some (.slice a l.length cap) := fun o => (hT.alloc o).c0
      have t1 : ∀ o, (wr.alloc o).cell? ⟨b7, 1, none⟩ = some (.int .i64 ix) := fun o => (hT.alloc o).c1
      go_wp2_with fail
      have hBo : Below wr.heap.size wr (wr.alloc (.cells #[.int .u8 kd, .int .i64 n, .int .i64 m, .int .u64 X, .slice ba bn bc] 30)) := (Below.refl _ _).alloc (Nat.le_refl _) _
      have hTo := hT.bl hBo
      have hbelo := step_below hbel hBo (Nat.le_refl _)
      refine (read_all _ r l ix a cap kd n m X ba bn bc (hR.below hBo) (hs.below hbelo) hby hab.out hk0 hk1 hn1 hm1).mono ?_
      rintro e w5 ⟨j2, rfl, hR5', hX5⟩
      have hbel5' := step_rd hbelo hX5 hwr (Nat.le_refl _)
      have hT5 := hTo.bx hX5 (Only.ne (by omega))
      clear hR hT hbel hBo hTo hbelo hX5 z0 z1 z2 z3 z4 t0 t1
      go_wp2_with fail
      obtain ⟨w6, hw6⟩ : ∃ w6, w6 = w5.alloc (.cells #[.slice a l.length cap, .int .i64 j2] 71) := ⟨_, rfl⟩
      rw [← hw6]
      have hBo : Below w5.heap.size w5 w6 := by rw [hw6]; exact (Below.refl _ _).alloc (Nat.le_refl _) _
      have hN6 : Two w6 w5.heap.size 71 (.slice a l.length cap) (.int .i64 j2) := by rw [hw6]; exact Two.new _ _ _ _
      have hT6 := hT5.bl hBo
      have hR6 := hR5'.below hBo
      have hbel6 := step_below hbel5' hBo (Nat.le_refl _)
      clear hw6 hBo hT5 hR5' hbel5'
      have hS0 : RSu w6 w5.heap.size (.slice a l.length cap) (.int .i64 j2) w6 := ⟨Below.refl _ _, hN6.c0, hN6.c1⟩
      have n0 := hN6.c0
      have n1 := hN6.c1
      have hne1 : ((j2 : Int) != j2) = false := by simp
      have hj2 := hR6.le
      have hwl : IntKind.i64.wrap ((l.length : Int) - j2) = (l.length : Int) - j2 := by rw [IntKind.wrap_i64]; omega
      have hne2 : (((l.length : Int) - j2) != ((l.length : Int) - j2)) = false := by simp
      have hne3 : (endE l.length j2 != endE l.length j2) = false := by simp
      go_region_held3 (fun w' => Below w6.heap.size w6 w' ∧ w'.cell? ⟨w5.heap.size, 0, none⟩ = some (.slice a l.length cap) ∧ w'.cell? ⟨w5.heap.size, 1, none⟩ = some (.int .i64 j2)) (solve | (repeat (first | assumption | refine RSu.drew ?_ | refine RSu.step ?_ (by assumption) | refine RSu.step ?_ (Draws.below (by assumption))))) (first
        | (go_at_call 21; refine (at_rd _ r l j2 (hR6.below (Below.refl _ _).drew)).mono ?_; rintro e w7 ⟨rfl, hD⟩; have hS1 := (hS0.drew).step hD.below)
        | (go_at_call 22; refine (left_rd w7 r l j2 (hR6.below hS1.1)).mono ?_; rintro e w' ⟨rfl, rfl⟩)
        | (go_at_call 23; refine (end_rd w7 r l j2 (hR6.below hS1.1)).mono ?_; rintro e w' ⟨rfl, rfl⟩)
        | (go_at_call 39; refine (rend_any w7 a l.length cap j2).mono ?_; rintro e w8 ⟨rfl, hB8⟩; have hS2 := hS1.step hB8))
      have hT8 := hT6.bl hS2.1
      have hN8 := hN6.bl hS2.1
      have hR8 := hR6.below hS2.1
      have hbel8 := step_below hbel6 hS2.1 (Nat.le_refl _)
      have m0 := hN8.c0
      have m1 := hN8.c1
      have m2 := hT8.c0
      have m3 := hT8.c1
      have m4 := hT8.f0
      have m5 := hT8.f1
      clear hS0 hS1 hS2 hD hB8 hT6 hN6 hR6 hbel6 n0 n1 hne1 hne2 hne3 hwl
      go_wp2_with fail
      go_roundw
      case rel => exact ⟨j + 1, j2, by go_num, by omega, rd_fin0 hR8 hr4 _ _, hT8.set _ _, (hbel8.setCell (p := ⟨b7, 0, none⟩) hsz4 _).setCell (p := ⟨b7, 1, none⟩) hsz4 _⟩
      case measure => simp [intOf]; omega
    · have t1 : wr.cell? ⟨b7, 1, none⟩ = some (.int .i64 ix) := hT.c1
      have hne1 : ((ix : Int) == ix) = true := by simp
      go_wp2_with fail
      go_quiet ((go_at_call 21; exact Calls.quiet_of (at_rd _ r l ix (hR.below (below_drewN (Below.refl _ _) _)))))
      go_wp2
      go_ret
      exact ⟨rfl, below_drewN hbel _⟩

theorem reads_any (w : World) (a aa : Option Addr) (len cap an ac : Nat) (l : List Int) (hs : Sl .u8 w a len cap l) (hby : Bytes l) (hA : Acts w aa an ac) :
    Calls Try.prog 11 #[.slice a len cap, .slice aa an ac] w fun e w' => e = .returned (.bool true) ∧ Below w.heap.size w w' := by
  obtain rfl : l.length = len := hs.1
  by_cases h : 500 < l.length ∨ 100 < an
  · exact reads_long w a aa _ cap an ac h
  · exact reads_go w a aa cap an ac l hs hby hA (by omega) (by omega)

set_option maxRecDepth 100000 in
set_option maxHeartbeats 1000000 in
theorem creads_walk (W : World) (a : Option Addr) (len cap : Nat) (l : List Int) (aa : Option Addr) (an ac : Nat) (hs : Sl .u8 W a len cap l) (hf : Fits .u8 l) (hA : Acts W aa an ac) :
    Calls Try.prog 3 #[.slice a len cap, .slice aa an ac] W fun e w' => e = .returned (.bool true) ∧ Below W.heap.size W w' := by
  go_enter Try.func3, Try.ntmps3
  go_wp2_with fail
  refine (reads_any W a aa len cap an ac l hs (fits_bytes hf) hA).mono ?_
  rintro e w1 ⟨rfl, hB1⟩
  go_wp2_with fail
  refine (awake_any w1).mono ?_
  rintro e w2 ⟨rfl, hB2⟩
  have hB := step_below hB1 hB2 (Nat.le_refl _)
  go_wp2_with fail
  go_ret
  exact ⟨rfl, hB⟩
end Go.Proofs.Ytakpockkagfphaa
