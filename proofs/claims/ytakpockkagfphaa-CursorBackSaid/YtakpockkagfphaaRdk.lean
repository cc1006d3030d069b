/-
  The contract of one call of a reader, and of the reference's, as the law does it. No condition but those in each statement.
-/
import Derived.Test.YtakpockkagfphaaWrn
import Derived.BigRegion
namespace Go.Proofs.Ytakpockkagfphaa
open Go.RowKit Go.Shelf

theorem rfixed_any (w : World) (a : Option Addr) (len cap ix : Nat) (l : List Int) (n : Int) (hs : Sl .u8 w a len cap l) (hby : Bytes l) (hi : ix ≤ len) (hc : len ≤ 140737488355000) :
    Calls Try.prog 58 #[.agg #[.slice a len cap, .int .i64 ix], .int .i64 n] w (FxRes l a len cap ix n w) := by
  by_cases h : n < 1 ∨ 8 < n
  · exact rfixed_arg w a len cap ix l n h
  · exact rfixed_go w a len cap ix l n hs hby hi hc h
theorem rcount_any (w : World) (a : Option Addr) (len cap ix : Nat) (l : List Int) (top size : Int) (hs : Sl .u8 w a len cap l) (hby : Bytes l) (hi : ix ≤ len) (hc : len ≤ 140737488355000) (htm : top ≤ 9223372036854775807) (hsm : size ≤ 9223372036854775807) :
    Calls Try.prog 60 #[.agg #[.slice a len cap, .int .i64 ix], .int .i64 top, .int .i64 size] w (CtRes l a len cap ix top size w) := by
  by_cases h : top < 0 ∨ size < 1
  · exact rcount_arg w a len cap ix l top size h
  · exact rcount_go w a len cap ix l top size hs hby hi hc h htm hsm

theorem rd_fin {w3 : World} {r b : Nat} {l : List Int} {j : Nat} (h : Rd w3 r l j) (hb : r < b) (o : Obj) (x y : Value) : Rd (((w3.alloc o).setCell ⟨b, 0, none⟩ x).setCell ⟨b, 1, none⟩ y) r l j :=
  (h.below ((Below.refl _ _).alloc (Nat.le_refl _) o)).bx (X := Only b) (((Bx.refl (Only b) _).setCell (p := ⟨b, 0, none⟩) (Only.me b) x).setCell (p := ⟨b, 1, none⟩) (Only.me b) y) (fun k hk => by have : k = b := hk; omega)
theorem rd_fin0 {w3 : World} {r b : Nat} {l : List Int} {j : Nat} (h : Rd w3 r l j) (hb : r < b) (x y : Value) : Rd ((w3.setCell ⟨b, 0, none⟩ x).setCell ⟨b, 1, none⟩ y) r l j :=
  h.bx (X := Only b) (((Bx.refl (Only b) _).setCell (p := ⟨b, 0, none⟩) (Only.me b) x).setCell (p := ⟨b, 1, none⟩) (Only.me b) y) (fun k hk => by have : k = b := hk; omega)
theorem bx_fin {w w3 : World} {r b : Nat} (h : Bx (Only r) w w3) (hb : w.heap.size ≤ b) (o : Obj) (x y : Value) : Bx (Only r) w (((w3.alloc o).setCell ⟨b, 0, none⟩ x).setCell ⟨b, 1, none⟩ y) :=
  ((h.alloc o).setNew (p := ⟨b, 0, none⟩) hb x).setNew (p := ⟨b, 1, none⟩) hb y
theorem bx_fin0 {w w3 : World} {r b : Nat} (h : Bx (Only r) w w3) (hb : w.heap.size ≤ b) (x y : Value) : Bx (Only r) w ((w3.setCell ⟨b, 0, none⟩ x).setCell ⟨b, 1, none⟩ y) :=
  (h.setNew (p := ⟨b, 0, none⟩) hb x).setNew (p := ⟨b, 1, none⟩) hb y

/-- A slice that a reader's changes don't touch. -/
def Stab (r : Nat) (a : Option Addr) (cap : Nat) (l : List Int) : Prop := ∀ W W' : World, Sl .u8 W a l.length cap l → Bx (Only r) W W' → Sl .u8 W' a l.length cap l
theorem Stab.of {w : World} {r : Nat} {a : Option Addr} {cap : Nat} {l : List Int} (hs : Sl .u8 w a l.length cap l) (hr : w.heap.size ≤ r) : Stab r a cap l := by
  intro W W' h hx
  rcases hs.2.2.2 with h0 | ⟨b, off, rfl, hlt, _⟩
  · exact ⟨h.1, h.2.1, h.2.2.1, .inl h0⟩
  · exact h.bx hx (fun p hp => by cases hp; exact Only.ne (by simp; omega))

/-- A block that holds the five cells of a call. -/
def Five (w : World) (b : Nat) (t : TypeId) (v0 v1 v2 v3 v4 : Value) : Prop := w.heap[b]? = some (.cells #[v0, v1, v2, v3, v4] t (0, 0))
theorem Five.lt {w : World} {b : Nat} {t : TypeId} {v0 v1 v2 v3 v4 : Value} (h : Five w b t v0 v1 v2 v3 v4) : b < w.heap.size := (Array.getElem?_eq_some_iff.1 h).1
theorem Five.c0 {w : World} {b : Nat} {t : TypeId} {v0 v1 v2 v3 v4 : Value} (h : Five w b t v0 v1 v2 v3 v4) : w.cell? ⟨b, 0, none⟩ = some v0 := by simp [World.cell?, show w.heap[b]? = _ from h]
theorem Five.c1 {w : World} {b : Nat} {t : TypeId} {v0 v1 v2 v3 v4 : Value} (h : Five w b t v0 v1 v2 v3 v4) : w.cell? ⟨b, 1, none⟩ = some v1 := by simp [World.cell?, show w.heap[b]? = _ from h]
theorem Five.c2 {w : World} {b : Nat} {t : TypeId} {v0 v1 v2 v3 v4 : Value} (h : Five w b t v0 v1 v2 v3 v4) : w.cell? ⟨b, 2, none⟩ = some v2 := by simp [World.cell?, show w.heap[b]? = _ from h]
theorem Five.c3 {w : World} {b : Nat} {t : TypeId} {v0 v1 v2 v3 v4 : Value} (h : Five w b t v0 v1 v2 v3 v4) : w.cell? ⟨b, 3, none⟩ = some v3 := by simp [World.cell?, show w.heap[b]? = _ from h]
theorem Five.c4 {w : World} {b : Nat} {t : TypeId} {v0 v1 v2 v3 v4 : Value} (h : Five w b t v0 v1 v2 v3 v4) : w.cell? ⟨b, 4, none⟩ = some v4 := by simp [World.cell?, show w.heap[b]? = _ from h]
theorem Five.new (w : World) (t : TypeId) (v0 v1 v2 v3 v4 : Value) : Five (w.alloc (.cells #[v0, v1, v2, v3, v4] t)) w.heap.size t v0 v1 v2 v3 v4 := heap_alloc_new w _
theorem Five.bx {X : Nat → Prop} {w w' : World} {b : Nat} {t : TypeId} {v0 v1 v2 v3 v4 : Value} (h : Five w b t v0 v1 v2 v3 v4) (hb : Bx X w w') (hx : ¬ X b) : Five w' b t v0 v1 v2 v3 v4 := (hb.block b h.lt hx).trans h
theorem Five.below {w w' : World} {b : Nat} {t : TypeId} {v0 v1 v2 v3 v4 : Value} (h : Five w b t v0 v1 v2 v3 v4) (hb : Below w.heap.size w w') : Five w' b t v0 v1 v2 v3 v4 := (hb.block b h.lt).trans h
theorem Two.bl {w w' : World} {b : Nat} {t : TypeId} {v0 v1 : Value} (h : Two w b t v0 v1) (hb : Below w.heap.size w w') : Two w' b t v0 v1 := h.below hb h.lt

/-- What one call returns. -/
def RdRes (r : Nat) (l : List Int) (a : Option Addr) (cap : Nat) (w : World) (e : Ending) (w' : World) : Prop :=
  ∃ j : Nat, e = .returned (.tuple #[.agg #[.slice a l.length cap, .int .i64 j], .bool true]) ∧ Rd w' r l j ∧ Bx (Only r) w w'


set_option maxRecDepth 100000 in
set_option maxHeartbeats 2000000 in
theorem read_fixed (w : World) (r : Nat) (l : List Int) (ix : Nat) (a : Option Addr) (cap : Nat) (kd n m X : Int) (ba : Option Addr) (bn bc : Nat) (h : Rd w r l ix) (hs : Sl .u8 w a l.length cap l) (hby : Bytes l) (hab : Stab r a cap l) (hk0 : 0 ≤ kd) (hk1 : kd ≤ 255) (hk : kd % 8 = 2) :
    Calls Try.prog 38 #[.pointer (some ⟨r, 0, none⟩), .agg #[.slice a l.length cap, .int .i64 ix], .agg #[.int .u8 kd, .int .i64 n, .int .i64 m, .int .u64 X, .slice ba bn bc]] w (RdRes r l a cap w) := by
  have hrlt := h.lt
  have hle := h.le
  have hl47 : l.length ≤ 140737488355000 := by obtain ⟨_, _, _, _, _, _, h5⟩ := h; exact h5
  obtain ⟨W, hWe⟩ : ∃ W, W = (((w.alloc (.cells #[.slice a l.length cap, .int .i64 ix] 71)).alloc (.cells #[.int .u8 kd, .int .i64 n, .int .i64 m, .int .u64 X, .slice ba bn bc] 30)).alloc (.cells #[.slice none 0 0, .int .i64 0] 71)) := ⟨_, rfl⟩
  have hBW : Below w.heap.size w W := by rw [hWe]; exact (((Below.refl _ _).alloc (Nat.le_refl _) _).alloc (by simp) _).alloc (by simp; omega) _
  have hWs : W.heap.size = w.heap.size + 3 := by rw [hWe]; simp
  have hT4 : Two W w.heap.size 71 (.slice a l.length cap) (.int .i64 ix) := by rw [hWe]; exact ((Two.new w _ _ _).alloc _).alloc _
  have hF5 : Five W (w.heap.size + 1) 30 (.int .u8 kd) (.int .i64 n) (.int .i64 m) (.int .u64 X) (.slice ba bn bc) := by
    rw [hWe]
    have h5 := Five.new (w.alloc (.cells #[.slice a l.length cap, .int .i64 ix] 71)) 30 (.int .u8 kd) (.int .i64 n) (.int .i64 m) (.int .u64 X) (.slice ba bn bc)
    rw [World.size_alloc] at h5
    exact h5.below ((Below.refl _ _).alloc (Nat.le_refl _) _)
  have hT6 : Two W (w.heap.size + 2) 71 (.slice none 0 0) (.int .i64 0) := by
    rw [hWe]
    have h6 := Two.new ((w.alloc (.cells #[.slice a l.length cap, .int .i64 ix] 71)).alloc (.cells #[.int .u8 kd, .int .i64 n, .int .i64 m, .int .u64 X, .slice ba bn bc] 30)) 71 (.slice none 0 0) (.int .i64 0)
    simpa using h6
  have k0 := hF5.c0
  have k1 := hF5.c1
  have k2 := hF5.c2
  have k3 := hF5.c3
  have k4 := hT4.c0
  have k5 := hT4.c1
  have k6 := hT6.f0
  have k7 := hT6.f1
  have k8 := hT6.c0
  have k9 := hT6.c1
  rw [hWe] at k0 k1 k2 k3 k4 k5 k6 k7 k8 k9
  have HWe := Lib.hid hWe
  clear hWe
  have HSB : Hid (Stab r a cap l) := hab
  go_enter Try.func38, Try.ntmps38
  go_wp2_with fail
  rw [← HWe.out]
  refine (fixed_any W r l ix n (h.below hBW) hby).mono ?_
  rintro e w2 ⟨rfl, hR2, hX2⟩
  have hT4' := hT4.bx hX2 (Only.ne (by omega))
  have hF5' := hF5.bx hX2 (Only.ne (by omega))
  have hT6' := hT6.bx hX2 (Only.ne (by omega))
  have p1 := hF5'.c1
  have p2 := hF5'.c2
  have p3 := hF5'.c3
  have p4 := hT4'.c0
  have p5 := hT4'.c1
  have hX := (Bx.of (X := Only r) hBW).trans hX2
  have hsz2 := hX2.size
  have hs2 := HSB.out W w2 (hs.below hBW) hX2
  clear k0 k1 k2 k3 k4 k5 k6 k7 k8 k9 hX2 hT4 hF5 hT6 hT4' hF5' hBW
  go_wp2_with fail
  refine (rfixed_any w2 a l.length cap ix l n hs2 hby hle hl47).mono ?_
  rintro e w3 ⟨rfl, hB3⟩
  have hT6'' := hT6'.bl hB3
  have hR3 := hR2.below hB3
  have hX3 := hX.then hB3
  have g2 : ∀ o, (w3.alloc o).cell? ⟨w.heap.size + 2, 0, none⟩ = some (.slice none 0 0) := fun o => (hT6''.alloc o).c0
  have g3 : ∀ o, (w3.alloc o).cell? ⟨w.heap.size + 2, 1, none⟩ = some (.int .i64 0) := fun o => (hT6''.alloc o).c1
  have g4 : ∀ o, (w3.alloc o).frozen? ⟨w.heap.size + 2, 0, none⟩ = false := fun o => (hT6''.alloc o).f0
  have g5 : ∀ o, (w3.alloc o).frozen? ⟨w.heap.size + 2, 1, none⟩ = false := fun o => (hT6''.alloc o).f1
  clear p1 p2 p3 p4 p5 hB3 hX hR2
  go_wp2_with fail
  refine bodyPost_cell2 rfl (w.heap.size + 2) rfl _ _ ((hT6''.alloc _).range_set _ _) Try.underlying71 rfl (by kernel_rfl) rfl ?_
  exact ⟨ix + (fxR l ix n).1, rfl, rd_fin hR3 (by omega) _ _ _, bx_fin hX3 (by omega) _ _ _⟩

set_option maxRecDepth 100000 in
set_option maxHeartbeats 2000000 in
theorem read_number (w : World) (r : Nat) (l : List Int) (ix : Nat) (a : Option Addr) (cap : Nat) (kd n m X : Int) (ba : Option Addr) (bn bc : Nat) (h : Rd w r l ix) (hs : Sl .u8 w a l.length cap l) (hby : Bytes l) (hab : Stab r a cap l) (hk0 : 0 ≤ kd) (hk1 : kd ≤ 255) (hk : kd % 8 = 3) :
    Calls Try.prog 38 #[.pointer (some ⟨r, 0, none⟩), .agg #[.slice a l.length cap, .int .i64 ix], .agg #[.int .u8 kd, .int .i64 n, .int .i64 m, .int .u64 X, .slice ba bn bc]] w (RdRes r l a cap w) := by
  have hrlt := h.lt
  have hle := h.le
  have hl47 : l.length ≤ 140737488355000 := by obtain ⟨_, _, _, _, _, _, h5⟩ := h; exact h5
  obtain ⟨W, hWe⟩ : ∃ W, W = (((w.alloc (.cells #[.slice a l.length cap, .int .i64 ix] 71)).alloc (.cells #[.int .u8 kd, .int .i64 n, .int .i64 m, .int .u64 X, .slice ba bn bc] 30)).alloc (.cells #[.slice none 0 0, .int .i64 0] 71)) := ⟨_, rfl⟩
  have hBW : Below w.heap.size w W := by rw [hWe]; exact (((Below.refl _ _).alloc (Nat.le_refl _) _).alloc (by simp) _).alloc (by simp; omega) _
  have hWs : W.heap.size = w.heap.size + 3 := by rw [hWe]; simp
  have hT4 : Two W w.heap.size 71 (.slice a l.length cap) (.int .i64 ix) := by rw [hWe]; exact ((Two.new w _ _ _).alloc _).alloc _
  have hF5 : Five W (w.heap.size + 1) 30 (.int .u8 kd) (.int .i64 n) (.int .i64 m) (.int .u64 X) (.slice ba bn bc) := by
    rw [hWe]
    have h5 := Five.new (w.alloc (.cells #[.slice a l.length cap, .int .i64 ix] 71)) 30 (.int .u8 kd) (.int .i64 n) (.int .i64 m) (.int .u64 X) (.slice ba bn bc)
    rw [World.size_alloc] at h5
    exact h5.below ((Below.refl _ _).alloc (Nat.le_refl _) _)
  have hT6 : Two W (w.heap.size + 2) 71 (.slice none 0 0) (.int .i64 0) := by
    rw [hWe]
    have h6 := Two.new ((w.alloc (.cells #[.slice a l.length cap, .int .i64 ix] 71)).alloc (.cells #[.int .u8 kd, .int .i64 n, .int .i64 m, .int .u64 X, .slice ba bn bc] 30)) 71 (.slice none 0 0) (.int .i64 0)
    simpa using h6
  have k0 := hF5.c0
  have k1 := hF5.c1
  have k2 := hF5.c2
  have k3 := hF5.c3
  have k4 := hT4.c0
  have k5 := hT4.c1
  have k6 := hT6.f0
  have k7 := hT6.f1
  have k8 := hT6.c0
  have k9 := hT6.c1
  rw [hWe] at k0 k1 k2 k3 k4 k5 k6 k7 k8 k9
  have HWe := Lib.hid hWe
  clear hWe
  have HSB : Hid (Stab r a cap l) := hab
  go_enter Try.func38, Try.ntmps38
  go_wp2_with fail
  rw [← HWe.out]
  refine (number_go W r l ix X (h.below hBW) hby).mono ?_
  rintro e w2 ⟨rfl, hR2, hX2⟩
  have hT4' := hT4.bx hX2 (Only.ne (by omega))
  have hF5' := hF5.bx hX2 (Only.ne (by omega))
  have hT6' := hT6.bx hX2 (Only.ne (by omega))
  have p1 := hF5'.c1
  have p2 := hF5'.c2
  have p3 := hF5'.c3
  have p4 := hT4'.c0
  have p5 := hT4'.c1
  have hX := (Bx.of (X := Only r) hBW).trans hX2
  have hsz2 := hX2.size
  have hs2 := HSB.out W w2 (hs.below hBW) hX2
  clear k0 k1 k2 k3 k4 k5 k6 k7 k8 k9 hX2 hT4 hF5 hT6 hT4' hF5' hBW
  go_wp2_with fail
  refine (rnumber_any w2 a l.length cap ix l X hs2 hby hle hl47).mono ?_
  rintro e w3 ⟨rfl, hB3⟩
  have hT6'' := hT6'.bl hB3
  have hR3 := hR2.below hB3
  have hX3 := hX.then hB3
  have g2 : ∀ o, (w3.alloc o).cell? ⟨w.heap.size + 2, 0, none⟩ = some (.slice none 0 0) := fun o => (hT6''.alloc o).c0
  have g3 : ∀ o, (w3.alloc o).cell? ⟨w.heap.size + 2, 1, none⟩ = some (.int .i64 0) := fun o => (hT6''.alloc o).c1
  have g4 : ∀ o, (w3.alloc o).frozen? ⟨w.heap.size + 2, 0, none⟩ = false := fun o => (hT6''.alloc o).f0
  have g5 : ∀ o, (w3.alloc o).frozen? ⟨w.heap.size + 2, 1, none⟩ = false := fun o => (hT6''.alloc o).f1
  clear p1 p2 p3 p4 p5 hB3 hX hR2
  go_wp2_with fail
  refine bodyPost_cell2 rfl (w.heap.size + 2) rfl _ _ ((hT6''.alloc _).range_set _ _) Try.underlying71 rfl (by kernel_rfl) rfl ?_
  exact ⟨ix + (nbR l ix X).1, rfl, rd_fin hR3 (by omega) _ _ _, bx_fin hX3 (by omega) _ _ _⟩

set_option maxRecDepth 100000 in
set_option maxHeartbeats 2000000 in
theorem read_count (w : World) (r : Nat) (l : List Int) (ix : Nat) (a : Option Addr) (cap : Nat) (kd n m X : Int) (ba : Option Addr) (bn bc : Nat) (h : Rd w r l ix) (hs : Sl .u8 w a l.length cap l) (hby : Bytes l) (hab : Stab r a cap l) (hk0 : 0 ≤ kd) (hk1 : kd ≤ 255) (hnm : n ≤ 9223372036854775807) (hmm : m ≤ 9223372036854775807) (hk : kd % 8 = 4) :
    Calls Try.prog 38 #[.pointer (some ⟨r, 0, none⟩), .agg #[.slice a l.length cap, .int .i64 ix], .agg #[.int .u8 kd, .int .i64 n, .int .i64 m, .int .u64 X, .slice ba bn bc]] w (RdRes r l a cap w) := by
  have hrlt := h.lt
  have hle := h.le
  have hl47 : l.length ≤ 140737488355000 := by obtain ⟨_, _, _, _, _, _, h5⟩ := h; exact h5
  obtain ⟨W, hWe⟩ : ∃ W, W = (((w.alloc (.cells #[.slice a l.length cap, .int .i64 ix] 71)).alloc (.cells #[.int .u8 kd, .int .i64 n, .int .i64 m, .int .u64 X, .slice ba bn bc] 30)).alloc (.cells #[.slice none 0 0, .int .i64 0] 71)) := ⟨_, rfl⟩
  have hBW : Below w.heap.size w W := by rw [hWe]; exact (((Below.refl _ _).alloc (Nat.le_refl _) _).alloc (by simp) _).alloc (by simp; omega) _
  have hWs : W.heap.size = w.heap.size + 3 := by rw [hWe]; simp
  have hT4 : Two W w.heap.size 71 (.slice a l.length cap) (.int .i64 ix) := by rw [hWe]; exact ((Two.new w _ _ _).alloc _).alloc _
  have hF5 : Five W (w.heap.size + 1) 30 (.int .u8 kd) (.int .i64 n) (.int .i64 m) (.int .u64 X) (.slice ba bn bc) := by
    rw [hWe]
    have h5 := Five.new (w.alloc (.cells #[.slice a l.length cap, .int .i64 ix] 71)) 30 (.int .u8 kd) (.int .i64 n) (.int .i64 m) (.int .u64 X) (.slice ba bn bc)
    rw [World.size_alloc] at h5
    exact h5.below ((Below.refl _ _).alloc (Nat.le_refl _) _)
  have hT6 : Two W (w.heap.size + 2) 71 (.slice none 0 0) (.int .i64 0) := by
    rw [hWe]
    have h6 := Two.new ((w.alloc (.cells #[.slice a l.length cap, .int .i64 ix] 71)).alloc (.cells #[.int .u8 kd, .int .i64 n, .int .i64 m, .int .u64 X, .slice ba bn bc] 30)) 71 (.slice none 0 0) (.int .i64 0)
    simpa using h6
  have k0 := hF5.c0
  have k1 := hF5.c1
  have k2 := hF5.c2
  have k3 := hF5.c3
  have k4 := hT4.c0
  have k5 := hT4.c1
  have k6 := hT6.f0
  have k7 := hT6.f1
  have k8 := hT6.c0
  have k9 := hT6.c1
  rw [hWe] at k0 k1 k2 k3 k4 k5 k6 k7 k8 k9
  have HWe := Lib.hid hWe
  clear hWe
  have HSB : Hid (Stab r a cap l) := hab
  go_enter Try.func38, Try.ntmps38
  go_wp2_with fail
  rw [← HWe.out]
  refine (count_any W r l ix n m hnm hmm (h.below hBW) hby).mono ?_
  rintro e w2 ⟨rfl, hR2, hX2⟩
  have hT4' := hT4.bx hX2 (Only.ne (by omega))
  have hF5' := hF5.bx hX2 (Only.ne (by omega))
  have hT6' := hT6.bx hX2 (Only.ne (by omega))
  have p1 := hF5'.c1
  have p2 := hF5'.c2
  have p3 := hF5'.c3
  have p4 := hT4'.c0
  have p5 := hT4'.c1
  have hX := (Bx.of (X := Only r) hBW).trans hX2
  have hsz2 := hX2.size
  have hs2 := HSB.out W w2 (hs.below hBW) hX2
  clear k0 k1 k2 k3 k4 k5 k6 k7 k8 k9 hX2 hT4 hF5 hT6 hT4' hF5' hBW
  go_wp2_with fail
  refine (rcount_any w2 a l.length cap ix l n m hs2 hby hle hl47 hnm hmm).mono ?_
  rintro e w3 ⟨rfl, hB3⟩
  have hT6'' := hT6'.bl hB3
  have hR3 := hR2.below hB3
  have hX3 := hX.then hB3
  have g2 : ∀ o, (w3.alloc o).cell? ⟨w.heap.size + 2, 0, none⟩ = some (.slice none 0 0) := fun o => (hT6''.alloc o).c0
  have g3 : ∀ o, (w3.alloc o).cell? ⟨w.heap.size + 2, 1, none⟩ = some (.int .i64 0) := fun o => (hT6''.alloc o).c1
  have g4 : ∀ o, (w3.alloc o).frozen? ⟨w.heap.size + 2, 0, none⟩ = false := fun o => (hT6''.alloc o).f0
  have g5 : ∀ o, (w3.alloc o).frozen? ⟨w.heap.size + 2, 1, none⟩ = false := fun o => (hT6''.alloc o).f1
  clear p1 p2 p3 p4 p5 hB3 hX hR2
  go_wp2_with fail
  refine bodyPost_cell2 rfl (w.heap.size + 2) rfl _ _ ((hT6''.alloc _).range_set _ _) Try.underlying71 rfl (by kernel_rfl) rfl ?_
  exact ⟨ix + (ctR l ix n m).1, rfl, rd_fin hR3 (by omega) _ _ _, bx_fin hX3 (by omega) _ _ _⟩

set_option maxRecDepth 100000 in
set_option maxHeartbeats 2000000 in
theorem read_rest (w : World) (r : Nat) (l : List Int) (ix : Nat) (a : Option Addr) (cap : Nat) (kd n m X : Int) (ba : Option Addr) (bn bc : Nat) (h : Rd w r l ix) (hk0 : 0 ≤ kd) (hk1 : kd ≤ 255) (hk : 5 ≤ kd % 8) :
    Calls Try.prog 38 #[.pointer (some ⟨r, 0, none⟩), .agg #[.slice a l.length cap, .int .i64 ix], .agg #[.int .u8 kd, .int .i64 n, .int .i64 m, .int .u64 X, .slice ba bn bc]] w (RdRes r l a cap w) := by
  have hrlt := h.lt
  have hle := h.le
  have hl47 : l.length ≤ 140737488355000 := by obtain ⟨_, _, _, _, _, _, h5⟩ := h; exact h5
  obtain ⟨W, hWe⟩ : ∃ W, W = (((w.alloc (.cells #[.slice a l.length cap, .int .i64 ix] 71)).alloc (.cells #[.int .u8 kd, .int .i64 n, .int .i64 m, .int .u64 X, .slice ba bn bc] 30)).alloc (.cells #[.slice none 0 0, .int .i64 0] 71)) := ⟨_, rfl⟩
  have hBW : Below w.heap.size w W := by rw [hWe]; exact (((Below.refl _ _).alloc (Nat.le_refl _) _).alloc (by simp) _).alloc (by simp; omega) _
  have hWs : W.heap.size = w.heap.size + 3 := by rw [hWe]; simp
  have hT4 : Two W w.heap.size 71 (.slice a l.length cap) (.int .i64 ix) := by rw [hWe]; exact ((Two.new w _ _ _).alloc _).alloc _
  have hF5 : Five W (w.heap.size + 1) 30 (.int .u8 kd) (.int .i64 n) (.int .i64 m) (.int .u64 X) (.slice ba bn bc) := by
    rw [hWe]
    have h5 := Five.new (w.alloc (.cells #[.slice a l.length cap, .int .i64 ix] 71)) 30 (.int .u8 kd) (.int .i64 n) (.int .i64 m) (.int .u64 X) (.slice ba bn bc)
    rw [World.size_alloc] at h5
    exact h5.below ((Below.refl _ _).alloc (Nat.le_refl _) _)
  have hT6 : Two W (w.heap.size + 2) 71 (.slice none 0 0) (.int .i64 0) := by
    rw [hWe]
    have h6 := Two.new ((w.alloc (.cells #[.slice a l.length cap, .int .i64 ix] 71)).alloc (.cells #[.int .u8 kd, .int .i64 n, .int .i64 m, .int .u64 X, .slice ba bn bc] 30)) 71 (.slice none 0 0) (.int .i64 0)
    simpa using h6
  have k0 := hF5.c0
  have k1 := hF5.c1
  have k2 := hF5.c2
  have k3 := hF5.c3
  have k4 := hT4.c0
  have k5 := hT4.c1
  have k6 := hT6.f0
  have k7 := hT6.f1
  have k8 := hT6.c0
  have k9 := hT6.c1
  rw [hWe] at k0 k1 k2 k3 k4 k5 k6 k7 k8 k9
  have HWe := Lib.hid hWe
  clear hWe
  have q0 : (kd % 8 == 0) = false := by simp; omega
  have q1 : (kd % 8 == 1) = false := by simp; omega
  have q2 : (kd % 8 == 2) = false := by simp; omega
  have q3 : (kd % 8 == 3) = false := by simp; omega
  have q4 : (kd % 8 == 4) = false := by simp; omega
  go_enter Try.func38, Try.ntmps38
  go_wp2_with fail
  have hTf : Two (((w.alloc (.cells #[.slice a l.length cap, .int .i64 ix] 71)).alloc (.cells #[.int .u8 kd, .int .i64 n, .int .i64 m, .int .u64 X, .slice ba bn bc] 30)).alloc (.cells #[.slice a l.length cap, .int .i64 ix] 71)) (w.heap.size + 1 + 1) 71 (.slice a l.length cap) (.int .i64 ix) := by
    have h6 := Two.new ((w.alloc (.cells #[.slice a l.length cap, .int .i64 ix] 71)).alloc (.cells #[.int .u8 kd, .int .i64 n, .int .i64 m, .int .u64 X, .slice ba bn bc] 30)) 71 (.slice a l.length cap) (.int .i64 ix)
    simpa using h6
  have hBf : Below w.heap.size w (((w.alloc (.cells #[.slice a l.length cap, .int .i64 ix] 71)).alloc (.cells #[.int .u8 kd, .int .i64 n, .int .i64 m, .int .u64 X, .slice ba bn bc] 30)).alloc (.cells #[.slice a l.length cap, .int .i64 ix] 71)) := (((Below.refl _ _).alloc (Nat.le_refl _) _).alloc (by simp) _).alloc (by simp; omega) _
  refine bodyPost_cell2 rfl (w.heap.size + 1 + 1) rfl _ _ hTf.range Try.underlying71 rfl (by kernel_rfl) rfl ?_
  exact ⟨ix, rfl, h.below hBf, Bx.of hBf⟩
end Go.Proofs.Ytakpockkagfphaa
