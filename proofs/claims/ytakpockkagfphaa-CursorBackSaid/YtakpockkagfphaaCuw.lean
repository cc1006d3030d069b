/-
  The contracts of a reader's methods that do a step, or undo it. No condition but those in each statement.
-/
import Derived.Test.YtakpockkagfphaaCuc
namespace Go.Proofs.Ytakpockkagfphaa
open Go.RowKit Go.Shelf

/-- What a method returns that takes a number. -/
def MRes (k : IntKind) (r : Nat) (l : List Int) (ix : Nat) (R : Nat × Int × Int) (w : World) (e : Ending) (w' : World) : Prop :=
  e = .returned (.tuple #[.int k R.2.1, .int .i64 R.2.2]) ∧ Rd w' r l (ix + R.1) ∧ Bx (Only r) w w'
theorem MRes.arg {k : IntKind} {r : Nat} {l : List Int} {ix : Nat} {R : Nat × Int × Int} {w w' : World} {e : Int} (hR : R = (0, 0, e)) (h : Rd w' r l ix) (hx : Bx (Only r) w w') : MRes k r l ix R w (.returned (.tuple #[.int k 0, .int .i64 e])) w' := by
  subst hR
  exact ⟨rfl, h, hx⟩

theorem Rd.reset {w : World} {r : Nat} {l : List Int} {ix2 ix : Nat} (h : Rd w r l ix2) (hi : ix ≤ l.length) : Rd (w.setCell ⟨r, 0, none⟩ (.int .i64 ((l.length : Int) - ix))) r l ix := by
  obtain ⟨a, cap, h1, h2, h3, h4, h5⟩ := h
  exact ⟨a, cap, h1.set0 _, h2.bx ((Bx.refl (Only r) w).setCell (p := ⟨r, 0, none⟩) (Only.me r) _) (fun p hp => Only.ne (by have := h3 p hp; omega)), h3, hi, h5⟩

/-- An error takes nothing. -/
def Sane (R : Nat × Int × Int) : Prop := R.2.2 ≠ 0 → R.1 = 0 ∧ R.2.1 = 0
theorem nbR_sane (l : List Int) (ix : Nat) (top : Int) : Sane (nbR l ix top) := by
  unfold nbR Sane
  dsimp only
  split
  · exact fun _ => ⟨rfl, rfl⟩
  · split
    · exact fun _ => ⟨rfl, rfl⟩
    · exact fun h => absurd rfl h
theorem ctR_sane (l : List Int) (ix : Nat) (top size : Int) : Sane (ctR l ix top size) := by
  unfold ctR Sane
  dsimp only
  split
  · exact fun _ => ⟨rfl, rfl⟩
  · split
    · exact fun _ => ⟨rfl, rfl⟩
    · split
      · exact fun _ => ⟨rfl, rfl⟩
      · intro h; simp_all
theorem fxR_sane (l : List Int) (ix : Nat) (n : Int) : Sane (fxR l ix n) := by
  unfold fxR Sane
  split
  · exact fun _ => ⟨rfl, rfl⟩
  · intro h
    have h' : ¬ tkE l.length ix n = 0 := h
    have e2 : tkL l ix n = [] := by unfold tkL; rw [if_neg h']
    rw [e2]
    exact ⟨rfl, rfl⟩


set_option maxRecDepth 100000 in
set_option maxHeartbeats 2000000 in
theorem whole_fixed (w : World) (r : Nat) (l : List Int) (ix : Nat) (x : Int) (p1 p2 : Nat) (R : Nat × Int × Int) (hsane : Sane R) (h : Rd w r l ix) (b1 : Boxed w p1 111 (.pointer (some ⟨r, 0, none⟩))) (b2 : Boxed w p2 93 (.func (.func 55) #[.pointer (some ⟨r, 0, none⟩)] #[])) (hp1 : p1 ≠ r)
    (hst : Calls Try.prog 55 #[.pointer (some ⟨r, 0, none⟩), .int .u64 x] w (StRes r l ix R w)) :
    Calls Try.prog 65 #[.int .u64 x, .pointer (some ⟨p1, 0, none⟩), .pointer (some ⟨p2, 0, none⟩)] w (MRes .u64 r l ix R w) := by
  obtain ⟨m, z, er⟩ := R
  have hle := h.le
  obtain ⟨a, cap, h1, h2, h3, h4, h5⟩ := id h
  have c0 := h1.c0
  have e1 := b1.cell
  have e2 := b2.cell
  clear h1 h2 h3
  go_enter Try.func65, Try.ntmps65
  go_wp2_with fail
  refine hst.mono ?_
  rintro e w2 ⟨rfl, ⟨ix2, hR2, hix⟩, hX2⟩
  have d1 := hX2.cell e1 (Only.ne hp1)
  have d0 : w2.frozen? ⟨r, 0, none⟩ = false := by
    obtain ⟨_, _, h1, _⟩ := hR2
    exact h1.f0
  have d2 : ∃ y, w2.cell? ⟨r, 0, none⟩ = some y := by
    obtain ⟨_, _, h1, _⟩ := hR2
    exact ⟨_, h1.c0⟩
  obtain ⟨y, d2⟩ := d2
  have hR3 := hR2.reset hle
  have hX3 := hX2.setCell (p := ⟨r, 0, none⟩) (Only.me r) (.int .i64 ((l.length : Int) - ix))
  dsimp only at hix
  have HX := Lib.hid hix
  have HS := Lib.hid hsane
  clear hst e1 e2 b1 b2 c0 hix hsane
  by_cases her : er = 0
  · have hb : (er != 0) = false := by simp; exact her
    have hE := Lib.hid her
    clear her
    go_wp2_with fail
    go_ret2
    refine ⟨?_, ?_, hX2⟩
    · rw [hE.out]; rfl
    · rw [← HX.out hE.out]; exact hR2
  · have hb : (er != 0) = true := by simp; exact her
    have hE := Lib.hid her
    clear her
    go_wp2_with fail
    go_ret2
    have hs := HS.out hE.out
    refine ⟨?_, ?_, hX3⟩
    · show _ = Ending.returned (.tuple #[.int .u64 z, .int .i64 er])
      rw [show z = 0 from hs.2]; rfl
    · show Rd _ r l (ix + m)
      rw [show m = 0 from hs.1]; exact hR3

set_option maxRecDepth 100000 in
set_option maxHeartbeats 2000000 in
theorem whole_number (w : World) (r : Nat) (l : List Int) (ix : Nat) (x : Int) (p1 p2 : Nat) (R : Nat × Int × Int) (hsane : Sane R) (h : Rd w r l ix) (b1 : Boxed w p1 111 (.pointer (some ⟨r, 0, none⟩))) (b2 : Boxed w p2 93 (.func (.func 54) #[.pointer (some ⟨r, 0, none⟩)] #[])) (hp1 : p1 ≠ r)
    (hst : Calls Try.prog 54 #[.pointer (some ⟨r, 0, none⟩), .int .u64 x] w (StRes r l ix R w)) :
    Calls Try.prog 65 #[.int .u64 x, .pointer (some ⟨p1, 0, none⟩), .pointer (some ⟨p2, 0, none⟩)] w (MRes .u64 r l ix R w) := by
  obtain ⟨m, z, er⟩ := R
  have hle := h.le
  obtain ⟨a, cap, h1, h2, h3, h4, h5⟩ := id h
  have c0 := h1.c0
  have e1 := b1.cell
  have e2 := b2.cell
  clear h1 h2 h3
  go_enter Try.func65, Try.ntmps65
  go_wp2_with fail
  refine hst.mono ?_
  rintro e w2 ⟨rfl, ⟨ix2, hR2, hix⟩, hX2⟩
  have d1 := hX2.cell e1 (Only.ne hp1)
  have d0 : w2.frozen? ⟨r, 0, none⟩ = false := by
    obtain ⟨_, _, h1, _⟩ := hR2
    exact h1.f0
  have d2 : ∃ y, w2.cell? ⟨r, 0, none⟩ = some y := by
    obtain ⟨_, _, h1, _⟩ := hR2
    exact ⟨_, h1.c0⟩
  obtain ⟨y, d2⟩ := d2
  have hR3 := hR2.reset hle
  have hX3 := hX2.setCell (p := ⟨r, 0, none⟩) (Only.me r) (.int .i64 ((l.length : Int) - ix))
  dsimp only at hix
  have HX := Lib.hid hix
  have HS := Lib.hid hsane
  clear hst e1 e2 b1 b2 c0 hix hsane
  by_cases her : er = 0
  · have hb : (er != 0) = false := by simp; exact her
    have hE := Lib.hid her
    clear her
    go_wp2_with fail
    go_ret2
    refine ⟨?_, ?_, hX2⟩
    · rw [hE.out]; rfl
    · rw [← HX.out hE.out]; exact hR2
  · have hb : (er != 0) = true := by simp; exact her
    have hE := Lib.hid her
    clear her
    go_wp2_with fail
    go_ret2
    have hs := HS.out hE.out
    refine ⟨?_, ?_, hX3⟩
    · show _ = Ending.returned (.tuple #[.int .u64 z, .int .i64 er])
      rw [show z = 0 from hs.2]; rfl
    · show Rd _ r l (ix + m)
      rw [show m = 0 from hs.1]; exact hR3

set_option maxRecDepth 100000 in
set_option maxHeartbeats 2000000 in
theorem whole_count (w : World) (r : Nat) (l : List Int) (ix : Nat) (size : Int) (x : Int) (p1 p2 : Nat) (R : Nat × Int × Int) (hsane : Sane R) (h : Rd w r l ix) (b1 : Boxed w p1 111 (.pointer (some ⟨r, 0, none⟩))) (b2 : Boxed w p2 93 (.func (.func 52) #[.agg #[.pointer (some ⟨r, 0, none⟩), .int .i64 size]] #[])) (hp1 : p1 ≠ r)
    (hst : Calls Try.prog 52 #[.agg #[.pointer (some ⟨r, 0, none⟩), .int .i64 size], .int .u64 x] w (StRes r l ix R w)) :
    Calls Try.prog 65 #[.int .u64 x, .pointer (some ⟨p1, 0, none⟩), .pointer (some ⟨p2, 0, none⟩)] w (MRes .u64 r l ix R w) := by
  obtain ⟨m, z, er⟩ := R
  have hle := h.le
  obtain ⟨a, cap, h1, h2, h3, h4, h5⟩ := id h
  have c0 := h1.c0
  have e1 := b1.cell
  have e2 := b2.cell
  clear h1 h2 h3
  go_enter Try.func65, Try.ntmps65
  go_wp2_with fail
  refine hst.mono ?_
  rintro e w2 ⟨rfl, ⟨ix2, hR2, hix⟩, hX2⟩
  have d1 := hX2.cell e1 (Only.ne hp1)
  have d0 : w2.frozen? ⟨r, 0, none⟩ = false := by
    obtain ⟨_, _, h1, _⟩ := hR2
    exact h1.f0
  have d2 : ∃ y, w2.cell? ⟨r, 0, none⟩ = some y := by
    obtain ⟨_, _, h1, _⟩ := hR2
    exact ⟨_, h1.c0⟩
  obtain ⟨y, d2⟩ := d2
  have hR3 := hR2.reset hle
  have hX3 := hX2.setCell (p := ⟨r, 0, none⟩) (Only.me r) (.int .i64 ((l.length : Int) - ix))
  dsimp only at hix
  have HX := Lib.hid hix
  have HS := Lib.hid hsane
  clear hst e1 e2 b1 b2 c0 hix hsane
  by_cases her : er = 0
  · have hb : (er != 0) = false := by simp; exact her
    have hE := Lib.hid her
    clear her
    go_wp2_with fail
    go_ret2
    refine ⟨?_, ?_, hX2⟩
    · rw [hE.out]; rfl
    · rw [← HX.out hE.out]; exact hR2
  · have hb : (er != 0) = true := by simp; exact her
    have hE := Lib.hid her
    clear her
    go_wp2_with fail
    go_ret2
    have hs := HS.out hE.out
    refine ⟨?_, ?_, hX3⟩
    · show _ = Ending.returned (.tuple #[.int .u64 z, .int .i64 er])
      rw [show z = 0 from hs.2]; rfl
    · show Rd _ r l (ix + m)
      rw [show m = 0 from hs.1]; exact hR3

set_option maxRecDepth 100000 in
set_option maxHeartbeats 2000000 in
theorem fixed_go (w : World) (r : Nat) (l : List Int) (ix : Nat) (n : Nat) (hn1 : 1 ≤ n) (hn8 : n ≤ 8) (h : Rd w r l ix) (hby : Bytes l) :
    Calls Try.prog 32 #[.pointer (some ⟨r, 0, none⟩), .int .i64 n] w (MRes .u64 r l ix (fxR l ix n) w) := by
  have hb1 : decide ((n : Int) < 1) = false := by simp; omega
  have hb2 : decide ((8 : Int) < n) = false := by simp; omega
  have hlt := h.lt
  have hB1 : Below w.heap.size w (w.alloc (.cells #[.pointer (some ⟨r, 0, none⟩)] 111)) := (Below.refl _ _).alloc (Nat.le_refl _) _
  have hB2 : Below w.heap.size w ((w.alloc (.cells #[.pointer (some ⟨r, 0, none⟩)] 111)).alloc (.cells #[.func (.func 55) #[.pointer (some ⟨r, 0, none⟩)] #[]] 93)) := hB1.alloc (by simp) _
  have b1 := (Boxed.new w 111 (.pointer (some ⟨r, 0, none⟩))).alloc (.cells #[.func (.func 55) #[.pointer (some ⟨r, 0, none⟩)] #[]] 93)
  have b2 := Boxed.new (w.alloc (.cells #[.pointer (some ⟨r, 0, none⟩)] 111)) 93 (.func (.func 55) #[.pointer (some ⟨r, 0, none⟩)] #[])
  rw [World.size_alloc] at b2
  have HN := Lib.hid (whole_fixed _ r l ix n w.heap.size (w.heap.size + 1) (fxR l ix n) (fxR_sane l ix n) (h.below hB2) b1 b2 (by omega) (fixed_rd _ r l ix n (h.below hB2) hby hn1 hn8))
  clear b1 b2 hB1
  go_enter Try.func32, Try.ntmps32
  go_wp2_with (first
    | (go_at_call 48; refine (none_rd _ r l ix h).mono ?_; rintro e w' ⟨rfl, rfl⟩)
    | (go_at_call 65; refine HN.out.mono ?_; rintro e w3 ⟨rfl, hR3, hX3⟩)
    | go_in)
  go_ret2
  exact ⟨rfl, hR3, (Bx.of hB2).trans hX3⟩

set_option maxRecDepth 100000 in
set_option maxHeartbeats 2000000 in
theorem number_go (w : World) (r : Nat) (l : List Int) (ix : Nat) (x : Int) (h : Rd w r l ix) (hby : Bytes l) :
    Calls Try.prog 27 #[.pointer (some ⟨r, 0, none⟩), .int .u64 x] w (MRes .u64 r l ix (nbR l ix x) w) := by
  have hlt := h.lt
  have hB1 : Below w.heap.size w (w.alloc (.cells #[.pointer (some ⟨r, 0, none⟩)] 111)) := (Below.refl _ _).alloc (Nat.le_refl _) _
  have hB2 : Below w.heap.size w ((w.alloc (.cells #[.pointer (some ⟨r, 0, none⟩)] 111)).alloc (.cells #[.func (.func 54) #[.pointer (some ⟨r, 0, none⟩)] #[]] 93)) := hB1.alloc (by simp) _
  have b1 := (Boxed.new w 111 (.pointer (some ⟨r, 0, none⟩))).alloc (.cells #[.func (.func 54) #[.pointer (some ⟨r, 0, none⟩)] #[]] 93)
  have b2 := Boxed.new (w.alloc (.cells #[.pointer (some ⟨r, 0, none⟩)] 111)) 93 (.func (.func 54) #[.pointer (some ⟨r, 0, none⟩)] #[])
  rw [World.size_alloc] at b2
  have HN := Lib.hid (whole_number _ r l ix x w.heap.size (w.heap.size + 1) (nbR l ix x) (nbR_sane l ix x) (h.below hB2) b1 b2 (by omega) (number_rd _ r l ix x (h.below hB2) hby))
  clear b1 b2 hB1
  go_enter Try.func27, Try.ntmps27
  go_wp2_with (first
    | (go_at_call 48; refine (none_rd _ r l ix h).mono ?_; rintro e w' ⟨rfl, rfl⟩)
    | (go_at_call 65; refine HN.out.mono ?_; rintro e w3 ⟨rfl, hR3, hX3⟩)
    | go_in)
  go_ret2
  exact ⟨rfl, hR3, (Bx.of hB2).trans hX3⟩

theorem ctR_wrap {l : List Int} {ix : Nat} {n size : Int} (hby : Bytes l) (hi : ix ≤ l.length) (ht0 : 0 ≤ n) (htm : n ≤ 9223372036854775807) (hs1 : 1 ≤ size) : wrap64 (ctR l ix n size).2.1 = (ctR l ix n size).2.1 := by
  obtain ⟨m, z, er, hr⟩ : ∃ m z er, nbR l ix n = (m, z, er) := ⟨_, _, _, rfl⟩
  have hnot : ¬ (n < 0 ∨ size < 1) := by omega
  by_cases her : er = 0
  · subst her
    have hg := nbR_good hby hr hi
    by_cases hq : (l.length : Int) - (ix + m) < z * size
    · rw [ctR_end hnot hr hq]; exact IntWalk.wrap64_in 0 ⟨by omega, by omega⟩
    · rw [ctR_ok hnot hr hq]; exact IntWalk.wrap64_in z ⟨by omega, by omega⟩
  · rw [ctR_err hnot hr her]; exact IntWalk.wrap64_in 0 ⟨by omega, by omega⟩

set_option maxRecDepth 100000 in
set_option maxHeartbeats 2000000 in
theorem count_go (w : World) (r : Nat) (l : List Int) (ix : Nat) (n size : Int) (ht0 : 0 ≤ n) (htm : n ≤ 9223372036854775807) (hs1 : 1 ≤ size) (hs2 : size ≤ 9223372036854775807) (h : Rd w r l ix) (hby : Bytes l) :
    Calls Try.prog 25 #[.pointer (some ⟨r, 0, none⟩), .int .i64 n, .int .i64 size] w (MRes .i64 r l ix (ctR l ix n size) w) := by
  have hb1 : decide (n < 0) = false := by simp; omega
  have hb2 : decide (size < 1) = false := by simp; omega
  have hwr : IntKind.u64.wrap n = n := by rw [IntKind.wrap_u64]; omega
  have hlt := h.lt
  have hB1 : Below w.heap.size w (w.alloc (.cells #[.pointer (some ⟨r, 0, none⟩)] 111)) := (Below.refl _ _).alloc (Nat.le_refl _) _
  have hB2 : Below w.heap.size w ((w.alloc (.cells #[.pointer (some ⟨r, 0, none⟩)] 111)).alloc (.cells #[.func (.func 52) #[.agg #[.pointer (some ⟨r, 0, none⟩), .int .i64 size]] #[]] 93)) := hB1.alloc (by simp) _
  have b1 := (Boxed.new w 111 (.pointer (some ⟨r, 0, none⟩))).alloc (.cells #[.func (.func 52) #[.agg #[.pointer (some ⟨r, 0, none⟩), .int .i64 size]] #[]] 93)
  have b2 := Boxed.new (w.alloc (.cells #[.pointer (some ⟨r, 0, none⟩)] 111)) 93 (.func (.func 52) #[.agg #[.pointer (some ⟨r, 0, none⟩), .int .i64 size]] #[])
  rw [World.size_alloc] at b2
  have hWz : wrap64 (ctR l ix n size).2.1 = (ctR l ix n size).2.1 := ctR_wrap hby h.le ht0 htm hs1
  have HW := Lib.hid hWz
  clear hWz
  have HN := Lib.hid (whole_count _ r l ix size n w.heap.size (w.heap.size + 1) (ctR l ix n size) (ctR_sane l ix n size) (h.below hB2) b1 b2 (by omega) (count_rd _ r l ix n size (h.below hB2) hby ht0 hs1 hs2))
  clear b1 b2 hB1
  go_enter Try.func25, Try.ntmps25
  go_wp2_with (first
    | (go_at_call 48; refine (none_rd _ r l ix h).mono ?_; rintro e w' ⟨rfl, rfl⟩)
    | (go_at_call 65; refine HN.out.mono ?_; rintro e w3 ⟨rfl, hR3, hX3⟩)
    | go_in)
  go_ret2
  exact ⟨by rw [HW.out]; rfl, hR3, (Bx.of hB2).trans hX3⟩
end Go.Proofs.Ytakpockkagfphaa
