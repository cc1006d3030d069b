/-
  The same, where a byte is taken, or bytes; and any call. No condition but those in each statement.
-/
import Derived.Test.YtakpockkagfphaaRdk
namespace Go.Proofs.Ytakpockkagfphaa
open Go.RowKit Go.Shelf


theorem Bx.trans_new {X Y : Nat → Prop} {a b c : World} (h : Bx X a b) (k : Bx Y b c) (hy : ∀ q, Y q → a.heap.size ≤ q) : Bx X a c :=
  ⟨k.os.trans h.os, k.tape.trans h.tape, k.output.trans h.output, Nat.le_trans h.size k.size, fun i hi hx => (k.block i (Nat.lt_of_lt_of_le hi h.size) (fun hh => by have := hy i hh; omega)).trans (h.block i hi hx)⟩

theorem Two.apart {w : World} {b bb off : Nat} {t : TypeId} {a : Option Addr} {n c : Nat} {z u : Int} (h : Two w b t (.slice a n c) (.int .i64 z)) (hc : w.cell? ⟨bb, off, none⟩ = some (.int .u8 u)) : bb ≠ b := by
  rintro rfl
  have hh : w.heap[bb]? = _ := h
  simp only [World.cell?, hh] at hc
  match off, hc with
  | 0, hc => simp at hc
  | 1, hc => simp at hc
  | k + 2, hc => simp at hc
theorem cell_two {w : World} {b bb off : Nat} {v : Value} (h : w.cell? ⟨bb, off, none⟩ = some v) (hne : bb ≠ b) (x y : Value) : ((w.setCell ⟨b, 0, none⟩ x).setCell ⟨b, 1, none⟩ y).cell? ⟨bb, off, none⟩ = some v :=
  (World.cell?_setCell_other (w := w.setCell ⟨b, 0, none⟩ x) (a := ⟨b, 1, none⟩) (b := ⟨bb, off, none⟩) (v := y) (fun h => hne (by injection h with h1; exact h1.symm))).trans ((World.cell?_setCell_other (w := w) (a := ⟨b, 0, none⟩) (b := ⟨bb, off, none⟩) (v := x) (fun h => hne (by injection h with h1; exact h1.symm))).trans h)

theorem tkL_len (l : List Int) (ix : Nat) (n : Int) : (tkL l ix n).length ≤ l.length := by
  unfold tkL; split <;> simp; omega

theorem take_one (w : World) (a : Option Addr) (len cap ix : Nat) (l : List Int) (hs : Sl .u8 w a len cap l) (hi : ix < l.length) (hc : len ≤ 140737488355000) :
    Calls Try.prog 57 #[.agg #[.slice a len cap, .int .i64 ix], .int .i64 1] w fun e w' => ∃ b off c2, e = .returned (.tuple #[.agg #[.slice a len cap, .int .i64 ((ix + 1 : Nat) : Int)], .slice (some ⟨b, off, none⟩) 1 c2, .int .i64 0]) ∧ w'.cell? ⟨b, off, none⟩ = some (.int .u8 (l[ix]?.getD 0)) ∧ Below w.heap.size w w' := by
  have hll := hs.1
  refine (take_any w a len cap ix l ((1 : Nat) : Int) hs (by omega) hc).mono ?_
  rintro e w' ⟨a2, c2, he, hsl, hB⟩
  obtain ⟨e1, e2⟩ := tk_ok (l := l) (ix := ix) (m := 1) (by omega)
  have e3 : tkL l ix ((1 : Nat) : Int) = [l[ix]?.getD 0] := by rw [e2, drop_cons l ix hi]; rfl
  rw [e3] at he hsl
  rw [← hll, e1] at he
  obtain ⟨b, off, rfl, hcell⟩ := hsl.view (by simp)
  exact ⟨b, off, c2, by rw [he, ← hll]; rfl, by have := hcell 0 (by simp); simpa using this, hB⟩
theorem take_none (w : World) (a : Option Addr) (len cap ix : Nat) (l : List Int) (hs : Sl .u8 w a len cap l) (hi : ix = l.length) (hc : len ≤ 140737488355000) :
    Calls Try.prog 57 #[.agg #[.slice a len cap, .int .i64 ix], .int .i64 1] w fun e w' => ∃ a2 c2, e = .returned (.tuple #[.agg #[.slice a len cap, .int .i64 ix], .slice a2 0 c2, .int .i64 20]) ∧ Below w.heap.size w w' := by
  have hll := hs.1
  refine (take_any w a len cap ix l 1 hs (by omega) hc).mono ?_
  rintro e w' ⟨a2, c2, he, hsl, hB⟩
  have e1 : tkE l.length ix 1 = 20 := tkE_end (by omega) (by omega)
  have e3 : tkL l ix 1 = [] := by unfold tkL; rw [e1]; rfl
  rw [e3] at he
  rw [← hll, e1] at he
  exact ⟨a2, c2, by rw [he, ← hll]; rfl, hB⟩


set_option maxRecDepth 100000 in
set_option maxHeartbeats 2000000 in
theorem read_byte1 (w : World) (r : Nat) (l : List Int) (ix : Nat) (a : Option Addr) (cap : Nat) (kd n m X : Int) (ba : Option Addr) (bn bc : Nat) (h : Rd w r l ix) (hs : Sl .u8 w a l.length cap l) (hby : Bytes l) (hab : Stab r a cap l) (hk0 : 0 ≤ kd) (hk1 : kd ≤ 255) (hlt : ix < l.length) (hk : kd % 8 = 0) :
    Calls Try.prog 38 #[.pointer (some ⟨r, 0, none⟩), .agg #[.slice a l.length cap, .int .i64 ix], .agg #[.int .u8 kd, .int .i64 n, .int .i64 m, .int .u64 X, .slice ba bn bc]] w (RdRes r l a cap w) := by
  have hrlt := h.lt
  have hle := h.le
  have hl47 : l.length ≤ 140737488355000 := by obtain ⟨_, _, _, _, _, _, h5⟩ := h; exact h5
  obtain ⟨W, hWe⟩ : ∃ W, W = (((w.alloc (.cells #[.slice a l.length cap, .int .i64 ix] 71)).alloc (.cells #[.int .u8 kd, .int .i64 n, .int .i64 m, .int .u64 X, .slice ba bn bc] 30)).alloc (.cells #[.slice none 0 0, .int .i64 0] 71)) := ⟨_, rfl⟩
  have hBW : Below w.heap.size w W := by rw [hWe]; exact (((Below.refl _ _).alloc (Nat.le_refl _) _).alloc (by simp) _).alloc (by simp; omega) _
  have hWs : W.heap.size = w.heap.size + 3 := by rw [hWe]; simp
  have hT4 : Two W w.heap.size 71 (.slice a l.length cap) (.int .i64 ix) := by rw [hWe]; exact ((Two.new w _ _ _).alloc _).alloc _
  have hF5 : Five W (w.heap.size + 1) 30 (.int .u8 kd) (.int .i64 n) (.int .i64 m) (.int .u64 X) (.slice ba bn bc) := by
    rw [hWe]
    have h5 := Five.new (w.alloc (.cells #[.slice a l.length cap, .int .i64 ix] 71)) 30 (.int .u8 kd) (.int .i64 n) (.int .i64 m) (.int .u64 X) (.slice ba bn bc)
    rw [World.size_alloc] at h5
    exact h5.below ((Below.refl _ _).alloc (Nat.le_refl _) _)
  have hT6 : Two W (w.heap.size + 2) 71 (.slice none 0 0) (.int .i64 0) := by
    rw [hWe]
    have h6 := Two.new ((w.alloc (.cells #[.slice a l.length cap, .int .i64 ix] 71)).alloc (.cells #[.int .u8 kd, .int .i64 n, .int .i64 m, .int .u64 X, .slice ba bn bc] 30)) 71 (.slice none 0 0) (.int .i64 0)
    simpa using h6
  have k0 := hF5.c0
  have k1 := hF5.c1
  have k2 := hF5.c2
  have k3 := hF5.c3
  have k4 := hT4.c0
  have k5 := hT4.c1
  have k6 := hT6.f0
  have k7 := hT6.f1
  have k8 := hT6.c0
  have k9 := hT6.c1
  rw [hWe] at k0 k1 k2 k3 k4 k5 k6 k7 k8 k9
  have HWe := Lib.hid hWe
  clear hWe
  have HSB : Hid (Stab r a cap l) := hab
  have hR := Lib.hid (fx_one hlt)
  have HLT := Lib.hid hlt
  clear hab hlt
  obtain ⟨c, hc⟩ : ∃ c, c = l[ix]?.getD 0 := ⟨_, rfl⟩
  rw [← hc] at hR
  have HC := Lib.hid hc
  clear hc
  go_enter Try.func38, Try.ntmps38
  go_wp2_with fail
  rw [← HWe.out]
  refine (byte_any W r l ix (h.below hBW) hby).mono ?_
  intro e w2 hM
  obtain ⟨rfl, hR2, hX2⟩ := hM.at hR.out (ix + 1) rfl
  clear hM
  have hT4' := hT4.bx hX2 (Only.ne (by omega))
  have hF5' := hF5.bx hX2 (Only.ne (by omega))
  have hT6' := hT6.bx hX2 (Only.ne (by omega))
  have p1 := hF5'.c1
  have p2 := hF5'.c2
  have p3 := hF5'.c3
  have p4 := hT4'.c0
  have p5 := hT4'.c1
  have hX := (Bx.of (X := Only r) hBW).trans hX2
  have hsz2 := hX2.size
  have hs2 := HSB.out W w2 (hs.below hBW) hX2
  clear k0 k1 k2 k3 k4 k5 k6 k7 k8 k9 hX2 hT4 hF5 hT6 hT4' hF5' hBW
  go_wp2_with fail
  refine (take_one w2 a l.length cap ix l hs2 HLT.out hl47).mono ?_
  rintro e w3 ⟨bb, off, c3, rfl, hcell, hB3⟩
  have hT6'' := hT6'.bl hB3
  have hR3 := hR2.below hB3
  have hX3 := hX.then hB3
  rw [← HC.out] at hcell
  clear p1 p2 p3 p4 p5 hB3 hX hR2
  go_wp2_with fail
  obtain ⟨w4, hw4⟩ : ∃ w4, w4 = w3.alloc (.cells #[.slice a l.length cap, .int .i64 ((ix : Int) + 1)] 71) := ⟨_, rfl⟩
  rw [← hw4]
  have hN4 : Two w4 w3.heap.size 71 (.slice a l.length cap) (.int .i64 ((ix : Int) + 1)) := by rw [hw4]; exact Two.new _ _ _ _
  have hU6 : Two w4 (w.heap.size + 2) 71 (.slice none 0 0) (.int .i64 0) := by rw [hw4]; exact hT6''.alloc _
  have hR4 : Rd w4 r l (ix + 1) := by rw [hw4]; exact hR3.below ((Below.refl _ _).alloc (Nat.le_refl _) _)
  have hX4 : Bx (Only r) w w4 := by rw [hw4]; exact hX3.alloc _
  have gc : w4.cell? ⟨bb, off, none⟩ = some (.int .u8 c) := by rw [hw4]; exact (World.cell?_alloc_lt w3 _ ⟨bb, off, none⟩ (World.block_lt_of_cell? w3 _ hcell)).trans hcell
  have gs := fun x y => cell_two (b := w.heap.size + 1 + 1) gc (Two.apart (b := w.heap.size + 1 + 1) hU6 gc) x y
  have gt : ∀ x y, (((w4.setCell ⟨w.heap.size + 1 + 1, 0, none⟩ x).setCell ⟨w.heap.size + 1 + 1, 1, none⟩ y).drew).cell? ⟨bb, off, none⟩ = some (.int .u8 c) := gs
  clear hcell
  have n0 := hN4.c0
  have n1 := hN4.c1
  have n2 := hU6.c0
  have n3 := hU6.c1
  have n4 := hU6.f0
  have n5 := hU6.f1
  clear hw4 hT6'' hR3 hX3 hN4 hT6'
  go_big_region
  go_wp2
  refine bodyPost_cell2 rfl (w.heap.size + 2) rfl _ _ (hU6.range_set _ _) Try.underlying71 rfl (by kernel_rfl) rfl ?_
  exact ⟨ix + 1, rfl, rd_fin0 (b := w.heap.size + 1 + 1) hR4 (by omega) _ _, (bx_fin0 (b := w.heap.size + 1 + 1) hX4 (by omega) _ _).drew⟩

set_option maxRecDepth 100000 in
set_option maxHeartbeats 2000000 in
theorem read_byte0 (w : World) (r : Nat) (l : List Int) (ix : Nat) (a : Option Addr) (cap : Nat) (kd n m X : Int) (ba : Option Addr) (bn bc : Nat) (h : Rd w r l ix) (hs : Sl .u8 w a l.length cap l) (hby : Bytes l) (hab : Stab r a cap l) (hk0 : 0 ≤ kd) (hk1 : kd ≤ 255) (hlt : ix = l.length) (hk : kd % 8 = 0) :
    Calls Try.prog 38 #[.pointer (some ⟨r, 0, none⟩), .agg #[.slice a l.length cap, .int .i64 ix], .agg #[.int .u8 kd, .int .i64 n, .int .i64 m, .int .u64 X, .slice ba bn bc]] w (RdRes r l a cap w) := by
  have hrlt := h.lt
  have hle := h.le
  have hl47 : l.length ≤ 140737488355000 := by obtain ⟨_, _, _, _, _, _, h5⟩ := h; exact h5
  obtain ⟨W, hWe⟩ : ∃ W, W = (((w.alloc (.cells #[.slice a l.length cap, .int .i64 ix] 71)).alloc (.cells #[.int .u8 kd, .int .i64 n, .int .i64 m, .int .u64 X, .slice ba bn bc] 30)).alloc (.cells #[.slice none 0 0, .int .i64 0] 71)) := ⟨_, rfl⟩
  have hBW : Below w.heap.size w W := by rw [hWe]; exact (((Below.refl _ _).alloc (Nat.le_refl _) _).alloc (by simp) _).alloc (by simp; omega) _
  have hWs : W.heap.size = w.heap.size + 3 := by rw [hWe]; simp
  have hT4 : Two W w.heap.size 71 (.slice a l.length cap) (.int .i64 ix) := by rw [hWe]; exact ((Two.new w _ _ _).alloc _).alloc _
  have hF5 : Five W (w.heap.size + 1) 30 (.int .u8 kd) (.int .i64 n) (.int .i64 m) (.int .u64 X) (.slice ba bn bc) := by
    rw [hWe]
    have h5 := Five.new (w.alloc (.cells #[.slice a l.length cap, .int .i64 ix] 71)) 30 (.int .u8 kd) (.int .i64 n) (.int .i64 m) (.int .u64 X) (.slice ba bn bc)
    rw [World.size_alloc] at h5
    exact h5.below ((Below.refl _ _).alloc (Nat.le_refl _) _)
  have hT6 : Two W (w.heap.size + 2) 71 (.slice none 0 0) (.int .i64 0) := by
    rw [hWe]
    have h6 := Two.new ((w.alloc (.cells #[.slice a l.length cap, .int .i64 ix] 71)).alloc (.cells #[.int .u8 kd, .int .i64 n, .int .i64 m, .int .u64 X, .slice ba bn bc] 30)) 71 (.slice none 0 0) (.int .i64 0)
    simpa using h6
  have k0 := hF5.c0
  have k1 := hF5.c1
  have k2 := hF5.c2
  have k3 := hF5.c3
  have k4 := hT4.c0
  have k5 := hT4.c1
  have k6 := hT6.f0
  have k7 := hT6.f1
  have k8 := hT6.c0
  have k9 := hT6.c1
  rw [hWe] at k0 k1 k2 k3 k4 k5 k6 k7 k8 k9
  have HWe := Lib.hid hWe
  clear hWe
  have HSB : Hid (Stab r a cap l) := hab
  have hR := Lib.hid (fx_end (Nat.le_of_eq hlt.symm))
  have HLT := Lib.hid hlt
  clear hab hlt
  go_enter Try.func38, Try.ntmps38
  go_wp2_with fail
  rw [← HWe.out]
  refine (byte_any W r l ix (h.below hBW) hby).mono ?_
  intro e w2 hM
  obtain ⟨rfl, hR2, hX2⟩ := hM.at hR.out (ix) rfl
  clear hM
  have hT4' := hT4.bx hX2 (Only.ne (by omega))
  have hF5' := hF5.bx hX2 (Only.ne (by omega))
  have hT6' := hT6.bx hX2 (Only.ne (by omega))
  have p1 := hF5'.c1
  have p2 := hF5'.c2
  have p3 := hF5'.c3
  have p4 := hT4'.c0
  have p5 := hT4'.c1
  have hX := (Bx.of (X := Only r) hBW).trans hX2
  have hsz2 := hX2.size
  have hs2 := HSB.out W w2 (hs.below hBW) hX2
  clear k0 k1 k2 k3 k4 k5 k6 k7 k8 k9 hX2 hT4 hF5 hT6 hT4' hF5' hBW
  go_wp2_with fail
  refine (take_none w2 a l.length cap ix l hs2 HLT.out hl47).mono ?_
  rintro e w3 ⟨a3, c3, rfl, hB3⟩
  have hT6'' := hT6'.bl hB3
  have hR3 := hR2.below hB3
  have hX3 := hX.then hB3
  clear p1 p2 p3 p4 p5 hB3 hX hR2
  go_wp2_with fail
  obtain ⟨w4, hw4⟩ : ∃ w4, w4 = w3.alloc (.cells #[.slice a l.length cap, .int .i64 (ix)] 71) := ⟨_, rfl⟩
  rw [← hw4]
  have hN4 : Two w4 w3.heap.size 71 (.slice a l.length cap) (.int .i64 (ix)) := by rw [hw4]; exact Two.new _ _ _ _
  have hU6 : Two w4 (w.heap.size + 2) 71 (.slice none 0 0) (.int .i64 0) := by rw [hw4]; exact hT6''.alloc _
  have hR4 : Rd w4 r l (ix) := by rw [hw4]; exact hR3.below ((Below.refl _ _).alloc (Nat.le_refl _) _)
  have hX4 : Bx (Only r) w w4 := by rw [hw4]; exact hX3.alloc _
  have n0 := hN4.c0
  have n1 := hN4.c1
  have n2 := hU6.c0
  have n3 := hU6.c1
  have n4 := hU6.f0
  have n5 := hU6.f1
  clear hw4 hT6'' hR3 hX3 hN4 hT6'
  go_big_region
  go_wp2
  refine bodyPost_cell2 rfl (w.heap.size + 2) rfl _ _ (hU6.range_set _ _) Try.underlying71 rfl (by kernel_rfl) rfl ?_
  exact ⟨ix, rfl, rd_fin0 (b := w.heap.size + 1 + 1) hR4 (by omega) _ _, (bx_fin0 (b := w.heap.size + 1 + 1) hX4 (by omega) _ _).drew⟩

set_option maxRecDepth 100000 in
set_option maxHeartbeats 2000000 in
theorem read_bytes (w : World) (r : Nat) (l : List Int) (ix : Nat) (a : Option Addr) (cap : Nat) (kd n m X : Int) (ba : Option Addr) (bn bc : Nat) (h : Rd w r l ix) (hs : Sl .u8 w a l.length cap l) (hab : Stab r a cap l) (hk0 : 0 ≤ kd) (hk1 : kd ≤ 255) (hk : kd % 8 = 1) :
    Calls Try.prog 38 #[.pointer (some ⟨r, 0, none⟩), .agg #[.slice a l.length cap, .int .i64 ix], .agg #[.int .u8 kd, .int .i64 n, .int .i64 m, .int .u64 X, .slice ba bn bc]] w (RdRes r l a cap w) := by
  have hrlt := h.lt
  have hle := h.le
  have hl47 : l.length ≤ 140737488355000 := by obtain ⟨_, _, _, _, _, _, h5⟩ := h; exact h5
  obtain ⟨W, hWe⟩ : ∃ W, W = (((w.alloc (.cells #[.slice a l.length cap, .int .i64 ix] 71)).alloc (.cells #[.int .u8 kd, .int .i64 n, .int .i64 m, .int .u64 X, .slice ba bn bc] 30)).alloc (.cells #[.slice none 0 0, .int .i64 0] 71)) := ⟨_, rfl⟩
  have hBW : Below w.heap.size w W := by rw [hWe]; exact (((Below.refl _ _).alloc (Nat.le_refl _) _).alloc (by simp) _).alloc (by simp; omega) _
  have hWs : W.heap.size = w.heap.size + 3 := by rw [hWe]; simp
  have hT4 : Two W w.heap.size 71 (.slice a l.length cap) (.int .i64 ix) := by rw [hWe]; exact ((Two.new w _ _ _).alloc _).alloc _
  have hF5 : Five W (w.heap.size + 1) 30 (.int .u8 kd) (.int .i64 n) (.int .i64 m) (.int .u64 X) (.slice ba bn bc) := by
    rw [hWe]
    have h5 := Five.new (w.alloc (.cells #[.slice a l.length cap, .int .i64 ix] 71)) 30 (.int .u8 kd) (.int .i64 n) (.int .i64 m) (.int .u64 X) (.slice ba bn bc)
    rw [World.size_alloc] at h5
    exact h5.below ((Below.refl _ _).alloc (Nat.le_refl _) _)
  have hT6 : Two W (w.heap.size + 2) 71 (.slice none 0 0) (.int .i64 0) := by
    rw [hWe]
    have h6 := Two.new ((w.alloc (.cells #[.slice a l.length cap, .int .i64 ix] 71)).alloc (.cells #[.int .u8 kd, .int .i64 n, .int .i64 m, .int .u64 X, .slice ba bn bc] 30)) 71 (.slice none 0 0) (.int .i64 0)
    simpa using h6
  have k0 := hF5.c0
  have k1 := hF5.c1
  have k2 := hF5.c2
  have k3 := hF5.c3
  have k4 := hT4.c0
  have k5 := hT4.c1
  have k6 := hT6.f0
  have k7 := hT6.f1
  have k8 := hT6.c0
  have k9 := hT6.c1
  rw [hWe] at k0 k1 k2 k3 k4 k5 k6 k7 k8 k9
  have HWe := Lib.hid hWe
  clear hWe
  have HSB : Hid (Stab r a cap l) := hab
  clear hab
  go_enter Try.func38, Try.ntmps38
  go_wp2_with fail
  rw [← HWe.out]
  refine (bytes_any W r l ix n (h.below hBW)).mono ?_
  rintro e w2 ⟨a2, c2, rfl, hown2, hR2, hX2⟩
  have hT4' := hT4.bx hX2 (Only.ne (by omega))
  have hF5' := hF5.bx hX2 (Only.ne (by omega))
  have hT6' := hT6.bx hX2 (Only.ne (by omega))
  have p1 := hF5'.c1
  have p2 := hF5'.c2
  have p3 := hF5'.c3
  have p4 := hT4'.c0
  have p5 := hT4'.c1
  have hX := (Bx.of (X := Only r) hBW).trans hX2
  have hsz2 := hX2.size
  have hs2 := HSB.out W w2 (hs.below hBW) hX2
  clear k0 k1 k2 k3 k4 k5 k6 k7 k8 k9 hX2 hT4 hF5 hT6 hT4' hF5' hBW
  go_wp2_with fail
  refine (take_any w2 a l.length cap ix l n hs2 hle hl47).mono ?_
  rintro e w3 ⟨a3, c3, rfl, hsl3, hB3⟩
  have hLm : (tkL l ix n).length ≤ 140737488355000 := by have := tkL_len l ix n; omega
  obtain ⟨L, hL⟩ : ∃ L, L = tkL l ix n := ⟨_, rfl⟩
  obtain ⟨E, hE⟩ : ∃ E, E = tkE l.length ix n := ⟨_, rfl⟩
  rw [← hL, ← hE]
  rw [← hL] at hown2 hsl3 hR2 hLm
  clear hL hE
  have hT6'' := hT6'.bl hB3
  have hR3 := hR2.below hB3
  have hX3 := hX.then hB3
  have hown3 := ownsRow_below hown2 hB3
  clear p1 p2 p3 p4 p5 hB3 hX hR2 hown2
  go_wp2_with fail
  obtain ⟨w4, hw4⟩ : ∃ w4, w4 = w3.alloc (.cells #[.slice a l.length cap, .int .i64 ((ix : Int) + L.length)] 71) := ⟨_, rfl⟩
  rw [← hw4]
  have hN4 : Two w4 w3.heap.size 71 (.slice a l.length cap) (.int .i64 ((ix : Int) + L.length)) := by rw [hw4]; exact Two.new _ _ _ _
  have hU6 : Two w4 (w.heap.size + 2) 71 (.slice none 0 0) (.int .i64 0) := by rw [hw4]; exact hT6''.alloc _
  have hR4 : Rd w4 r l (ix + L.length) := by rw [hw4]; exact hR3.below ((Below.refl _ _).alloc (Nat.le_refl _) _)
  have hX4 : Bx (Only r) w w4 := by rw [hw4]; exact hX3.alloc _
  have hown4 : w4.ownsRow W.heap.size 5 1 (.slice a2 L.length c2) L.length (L.map (Value.int .u8)) := by rw [hw4]; exact hown3.alloc _
  have hsl4 : Sl .u8 w4 a3 L.length c3 L := by rw [hw4]; exact hsl3.below ((Below.refl _ _).alloc (Nat.le_refl _) _)
  have hw34 : w3.heap.size < w4.heap.size := by rw [hw4]; simp
  have hg3 : ∀ p, a2 = some p → W.heap.size ≤ p.block ∧ p.block < w3.heap.size := own_block hown3
  clear hw4 hT6'' hR3 hX3 hown3 hsl3 hT6'
  refine (sameBytes_yes w4 _ _ _ _ _ _ _ _ (own_sl hown4) hsl4 rfl).mono ?_
  rintro e w5 ⟨rfl, hD5⟩
  have hB5 := hD5.below
  have hN5 := hN4.bl hB5
  have hU6' := hU6.bl hB5
  have hR5 := hR4.below hB5
  have hX5 := hX4.then hB5
  have hown5 := ownsRow_below hown4 hB5
  clear hN4 hU6 hR4 hX4 hown4 hsl4 hD5 hB5 hw34
  go_wp2_with fail
  go_loopw [96] (fun i wr => ∃ (j : Nat) (ys : List Value), i = .int .i64 j ∧ j ≤ L.length ∧ wr.ownsRow W.heap.size 5 1 (.slice a2 L.length c2) L.length ys ∧ Bx (fun k => (Value.slice a2 L.length c2).ownBlock = some k) w5 wr) (fun i _ => L.length - (intOf i).toNat)
  case atStart => exact ⟨0, _, rfl, by omega, hown5, Bx.refl _ _⟩
  case round =>
    obtain ⟨j, ys, rfl, hj, hownj, hXj⟩ := hrel
    have hyl := hownj.1
    by_cases hlt : j < L.length
    · obtain ⟨g, cg, hgc, hg1, hg2⟩ := hownj.form (by omega)
      cases hgc
      obtain ⟨y, hy⟩ : ∃ y, ys[j]? = some y := ⟨ys[j], List.getElem?_eq_getElem (by omega)⟩
      have e0 := hownj.cellAt j (by omega)
      rw [hy] at e0
      have e1 := hownj.frozenAt j
      have hst := fun u => (hownj.stored j u).1
      have hxs := fun u => hXj.setCell (p := ⟨g, j, none⟩) (by rfl) u
      clear hyl hownj hXj
      go_wp2_with fail
      go_roundw
      case rel => exact ⟨j + 1, _, by go_num, by omega, hst _, hxs _⟩
      case measure => simp [intOf]; omega
    · have hXX : ∀ k, (Value.slice a2 L.length c2).ownBlock = some k → W.heap.size ≤ k ∧ k < w3.heap.size := by
        intro k hk
        cases a2 with
        | none => simp [Value.ownBlock] at hk
        | some p =>
          have := hg3 p rfl
          simp [Value.ownBlock] at hk
          omega
      have hNf := hN5.bx hXj (fun hh => by have := hXX _ hh; omega)
      have hUf := hU6'.bx hXj (fun hh => by have := hXX _ hh; omega)
      have hRf := hR5.bx hXj (fun k hh => by have := hXX _ hh; omega)
      have hXf := hX5.trans_new hXj (fun q hh => by have := hXX _ hh; have := hWs; omega)
      have n0 := hNf.c0
      have n1 := hNf.c1
      have n2 := hUf.c0
      have n3 := hUf.c1
      have n4 := hUf.f0
      have n5 := hUf.f1
      clear hN5 hU6' hR5 hX5 hXj hNf hyl hownj hXX hg3
      go_wp2_with fail
      refine bodyPost_cell2 rfl (w.heap.size + 2) rfl _ _ (hUf.range_set _ _) Try.underlying71 rfl (by kernel_rfl) rfl ?_
      exact ⟨ix + L.length, rfl, rd_fin0 hRf (by omega) _ _, bx_fin0 hXf (by omega) _ _⟩

theorem read_all (w : World) (r : Nat) (l : List Int) (ix : Nat) (a : Option Addr) (cap : Nat) (kd n m X : Int) (ba : Option Addr) (bn bc : Nat) (h : Rd w r l ix) (hs : Sl .u8 w a l.length cap l) (hby : Bytes l) (hab : Stab r a cap l) (hk0 : 0 ≤ kd) (hk1 : kd ≤ 255) (hnm : n ≤ 9223372036854775807) (hmm : m ≤ 9223372036854775807) :
    Calls Try.prog 38 #[.pointer (some ⟨r, 0, none⟩), .agg #[.slice a l.length cap, .int .i64 ix], .agg #[.int .u8 kd, .int .i64 n, .int .i64 m, .int .u64 X, .slice ba bn bc]] w (RdRes r l a cap w) := by
  have hle := h.le
  have hc : kd % 8 = 0 ∨ kd % 8 = 1 ∨ kd % 8 = 2 ∨ kd % 8 = 3 ∨ kd % 8 = 4 ∨ 5 ≤ kd % 8 := by omega
  rcases hc with hk | hk | hk | hk | hk | hk
  · by_cases hlt : ix < l.length
    · exact read_byte1 w r l ix a cap kd n m X ba bn bc h hs hby hab hk0 hk1 hlt hk
    · exact read_byte0 w r l ix a cap kd n m X ba bn bc h hs hby hab hk0 hk1 (by omega) hk
  · exact read_bytes w r l ix a cap kd n m X ba bn bc h hs hab hk0 hk1 hk
  · exact read_fixed w r l ix a cap kd n m X ba bn bc h hs hby hab hk0 hk1 hk
  · exact read_number w r l ix a cap kd n m X ba bn bc h hs hby hab hk0 hk1 hk
  · exact read_count w r l ix a cap kd n m X ba bn bc h hs hby hab hk0 hk1 hnm hmm hk
  · exact read_rest w r l ix a cap kd n m X ba bn bc h hk0 hk1 hk

end Go.Proofs.Ytakpockkagfphaa
