/-
  The library's sort at uint32: order2Ordered, medianOrdered, medianAdjacentOrdered: each returns numbers that it was given.
-/
import Derived.Test.YtdaijbplbnkpeaaDoorSrf
namespace Go.Proofs.YtdaijbplbnkpeaaDoor
open Go.RowKit Go.Shelf

/-- The row, and the count of the exchanges in its box. -/
def Rs (base g n c s k : Nat) (w : World) (M : List Int) : Prop := Rw base g n c w M ∧ Boxed w s 3 (.int .i64 (k : Int)) ∧ base ≤ s ∧ s ≠ g

theorem Rw.below' {base g n c s : Nat} {w : World} {M : List Int} (h : Rw base g n c w M) (hs : s < w.heap.size) (hne : s ≠ g) (u : Value) : Rw base g n c (w.setCell ⟨s, 0, none⟩ u) M :=
  World.ownsRow.kept h (grownBy_setCell' w s u) (.inr (fun e => hne (by cases e; rfl)))

set_option maxRecDepth 100000 in
set_option maxHeartbeats 2000000 in
theorem ord2_any (base g n c s k : Nat) (a b : Nat) (M : List Int) (w : World) (hA : Rs base g n c s k w M) (ha : a < n) (hb : b < n) (hk : k ≤ 1000) :
    Calls Tryd.prog 90 #[.slice (some ⟨g, 0, none⟩) n c, .int .i64 (a : Int), .int .i64 (b : Int), .pointer (some ⟨s, 0, none⟩)] w fun e w' => ∃ x y k' : Nat, e = .returned (.tuple #[.int .i64 (x : Int), .int .i64 (y : Int)]) ∧ (x = a ∧ y = b ∨ x = b ∧ y = a) ∧ k' ≤ k + 1 ∧ Rs base g n c s k' w' M ∧ Below base w w' := by
  obtain ⟨hR, hX, hbs, hsg⟩ := hA
  have i1 : (a : Int) < (n : Int) := by omega
  have i2 : (b : Int) < (n : Int) := by omega
  have cX := hR.at (j := b) hb
  have cY := hR.at (j := a) ha
  obtain ⟨VX, hVX⟩ : ∃ v, v = M[b]?.getD 0 := ⟨_, rfl⟩
  obtain ⟨VY, hVY⟩ : ∃ v, v = M[a]?.getD 0 := ⟨_, rfl⟩
  rw [← hVX] at cX
  rw [← hVY] at cY
  have ql := fun w => less_q VX VY w
  obtain ⟨bb, hbb⟩ : ∃ bb, bb = decide (VX < VY) := ⟨_, rfl⟩
  simp only [← hbb] at ql
  clear hVX hVY hbb
  go_enter Tryd.func90, Tryd.ntmps90
  go_wp2_with fail
  go_quiet ((go_at_call 53; exact Calls.quiet_of_same (ql _)))
  have hB := below_drewN (Below.refl w.heap.size w) nq
  have hB2 := below_drewN (Below.refl base w) nq
  have hR := hR.drewN nq
  have hX : Boxed (w.drewN nq) s 3 (.int .i64 (k : Int)) := (hB.block s hX.lt).trans hX
  obtain ⟨w2, hw2⟩ : ∃ wz, wz = w.drewN nq := ⟨_, rfl⟩
  rw [← hw2] at hR hX hB2 ⊢
  clear hw2 cX cY ql hB
  have k1 := hX.cell
  have k2 := hX.frozen
  cases bb with
  | true =>
    go_wp2_with fail
    go_ret2
    exact ⟨b, a, k + 1, rfl, .inr ⟨rfl, rfl⟩, Nat.le_refl _, ⟨hR.below' hX.lt hsg _, hX.set _, hbs, hsg⟩, hB2.setCell (p := ⟨s, 0, none⟩) hbs _⟩
  | false =>
    go_wp2_with fail
    go_ret2
    exact ⟨a, b, k, rfl, .inl ⟨rfl, rfl⟩, Nat.le_succ _, ⟨hR, hX, hbs, hsg⟩, hB2⟩

set_option maxRecDepth 100000 in
set_option maxHeartbeats 2000000 in
theorem med_any (base g n c s k : Nat) (a b d : Nat) (M : List Int) (w : World) (hA : Rs base g n c s k w M) (ha : a < n) (hb : b < n) (hd : d < n) (hk : k ≤ 900) :
    Calls Tryd.prog 85 #[.slice (some ⟨g, 0, none⟩) n c, .int .i64 (a : Int), .int .i64 (b : Int), .int .i64 (d : Int), .pointer (some ⟨s, 0, none⟩)] w fun e w' => ∃ x k' : Nat, e = .returned (.int .i64 (x : Int)) ∧ (x = a ∨ x = b ∨ x = d) ∧ k' ≤ k + 3 ∧ Rs base g n c s k' w' M ∧ Below base w w' := by
  go_enter Tryd.func85, Tryd.ntmps85
  go_wp2_with fail
  refine (ord2_any base g n c s k a b M w hA ha hb (by omega)).mono ?_
  rintro e w1 ⟨x1, y1, k1, rfl, h1, hk1, hA1, hB1⟩
  have hx1 : x1 < n := by omega
  have hy1 : y1 < n := by omega
  go_wp2_with fail
  refine (ord2_any base g n c s k1 y1 d M w1 hA1 hy1 hd (by omega)).mono ?_
  rintro e w2 ⟨x2, y2, k2, rfl, h2, hk2, hA2, hB2⟩
  have hx2 : x2 < n := by omega
  go_wp2_with fail
  refine (ord2_any base g n c s k2 x1 x2 M w2 hA2 hx1 hx2 (by omega)).mono ?_
  rintro e w3 ⟨x3, y3, k3, rfl, h3, hk3, hA3, hB3⟩
  have hr : y3 = a ∨ y3 = b ∨ y3 = d := by omega
  clear h1 h2 h3
  go_wp2_with fail
  go_ret
  exact ⟨y3, k3, rfl, hr, by omega, hA3, (hB1.trans hB2).trans hB3⟩

set_option maxRecDepth 100000 in
set_option maxHeartbeats 2000000 in
theorem medadj_any (base g n c s k : Nat) (a : Nat) (M : List Int) (w : World) (hA : Rs base g n c s k w M) (ha : 1 ≤ a) (hn1 : a + 1 < n) (hn' : n ≤ 4294967296) (hk : k ≤ 900) :
    Calls Tryd.prog 84 #[.slice (some ⟨g, 0, none⟩) n c, .int .i64 (a : Int), .pointer (some ⟨s, 0, none⟩)] w fun e w' => ∃ x k' : Nat, e = .returned (.int .i64 (x : Int)) ∧ x + 1 ≥ a ∧ x ≤ a + 1 ∧ k' ≤ k + 3 ∧ Rs base g n c s k' w' M ∧ Below base w w' := by
  obtain ⟨p, hp⟩ : ∃ p : Nat, a - 1 = p := ⟨_, rfl⟩
  obtain ⟨q, hq⟩ : ∃ q : Nat, a + 1 = q := ⟨_, rfl⟩
  have e1 : (a : Int) - 1 = (p : Int) := by omega
  have e2 : (a : Int) + 1 = (q : Int) := by omega
  have q1 := med_any base g n c s k p a q M w hA (by omega) (by omega) (by omega) hk
  have hp2 := Lib.hid hp
  have hq2 := Lib.hid hq
  clear hp hq
  go_enter Tryd.func84, Tryd.ntmps84
  go_wp2_with fail
  refine q1.mono ?_
  rintro e w1 ⟨x, k1, rfl, hx, hk1, hA1, hB1⟩
  have h1 : x + 1 ≥ a ∧ x ≤ a + 1 := by have := hp2.out; have := hq2.out; omega
  clear hx
  go_wp2_with fail
  go_ret
  exact ⟨x, k1, rfl, h1.1, h1.2, hk1, hA1, hB1⟩
end Go.Proofs.YtdaijbplbnkpeaaDoor
