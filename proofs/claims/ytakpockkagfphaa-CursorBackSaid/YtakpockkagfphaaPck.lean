/-
  The contracts of a piece's back: where its bytes follow, and where they are cut. No condition but those in each statement.
-/
import Derived.Test.YtakpockkagfphaaPcb
namespace Go.Proofs.Ytakpockkagfphaa
open Go.RowKit Go.Shelf
set_option linter.unusedVariables false

theorem at_of_drop {l m rest : List Int} {ix : Nat} {c : Int} (h : l.drop ix = c :: m ++ rest) : ix < l.length ∧ l[ix]?.getD 0 = c := by
  have hlt : ix < l.length := by
    rcases Nat.lt_or_ge ix l.length with h1 | h1
    · exact h1
    · rw [List.drop_eq_nil_of_le h1] at h; cases h
  refine ⟨hlt, ?_⟩
  rw [drop_cons l ix hlt] at h
  have := List.head_eq_of_cons_eq h
  exact this
theorem len_of_drop {l a : List Int} {ix : Nat} (h : l.drop ix = a) (hi : ix ≤ l.length) : l.length = ix + a.length := by
  rw [← h]; simp; omega
theorem fx_at {l rest : List Int} {ix n : Nat} {x : Int} (h : l.drop ix = leB n x ++ rest) (hi : ix ≤ l.length) (hn1 : 1 ≤ n) (hn8 : n ≤ 8) (hx : x % 256 ^ n = x) : fxR l ix n = (n, x, 0) := by
  have hlen := leB_length n x
  have hl := len_of_drop h hi
  rw [List.length_append, hlen] at hl
  obtain ⟨he, hk⟩ := tk_ok (l := l) (ix := ix) (m := n) (by omega)
  rw [fxR_go (by omega), he, hk, h]
  have e1 : (leB n x ++ rest).take n = leB n x := by
    rw [List.take_append_of_le_length (by omega), List.take_of_length_le (by omega)]
  rw [e1, leV_leB, hlen, hx]
theorem fx_cut {l : List Int} {ix n : Nat} (hi : ix ≤ l.length) (hn1 : 1 ≤ n) (hn8 : n ≤ 8) (h : l.length < ix + n) : fxR l ix n = (0, 0, 20) := by
  rw [fxR_go (by omega)]
  have e1 : tkE l.length ix n = 20 := tkE_end (by omega) (by omega)
  have e2 : tkL l ix n = [] := by unfold tkL; rw [e1]; rfl
  rw [e1, e2]; rfl


set_option maxRecDepth 100000 in
set_option maxHeartbeats 800000 in
theorem pback_ok0 (w : World) (r : Nat) (l : List Int) (ix : Nat) (p : Pc) (rest : List Int) (h : Rd w r l ix) (hby : Bytes l) (hP : PcOk w p) (hst : Stab r p.ba p.bc p.bl) (hl : l.drop ix = pcB p ++ rest) (hk : p.kd % 4 = 0) :
    Calls Try.prog 20 #[.agg #[.int .u8 p.kd, .int .u8 p.N, .int .u64 p.X, .slice p.ba p.bn p.bc], .pointer (some ⟨r, 0, none⟩)] w fun e w' => e = .returned (.bool true) ∧ Rd w' r l (ix + (pcB p).length) ∧ Bx (Only r) w w' := by
  obtain ⟨hk', hN, hX, hs, hf⟩ := hP
  obtain ⟨hk0, hk1⟩ := bounds_u8 hk'
  obtain ⟨hN0, hN1⟩ := bounds_u8 hN
  obtain ⟨hX0, hX1⟩ := bounds_u64 hX
  clear hk' hN hX
  have hrlt := h.lt
  have hle := h.le
  have hF := Four.new w 39 (.int .u8 p.kd) (.int .u8 p.N) (.int .u64 p.X) (.slice p.ba p.bn p.bc)
  have hB0 : Below w.heap.size w (w.alloc (.cells #[.int .u8 p.kd, .int .u8 p.N, .int .u64 p.X, .slice p.ba p.bn p.bc] 39)) := (Below.refl _ _).alloc (Nat.le_refl _) _
  have c0 := hF.c0
  have c1 := hF.c1
  have c2 := hF.c2
  have c3 := hF.c3
  have hR0 := h.below hB0
  have hm0 := pcB_0 hk
  rw [hm0] at hl
  obtain ⟨hlt, hat⟩ := at_of_drop (m := []) hl
  have hfx := fx_one hlt
  rw [hat] at hfx
  have HL : Hid ((pcB p).length = 1) := by rw [hm0]; rfl
  have HFX := Lib.hid hfx
  clear hs hf hst hm0 hl hlt hat hfx
  go_enter Try.func20, Try.ntmps20
  go_wp2_with fail
  refine (byte_any _ r l ix hR0 hby).mono ?_
  intro e w2 hM
  obtain ⟨rfl, hR2, hX2⟩ := hM.at HFX.out (ix + 1) rfl
  have hF2 := hF.bx hX2 (Only.ne (by omega))
  have d1 := hF2.c1
  have d2 := hF2.c2
  have d3 := hF2.c3
  have hX := (Bx.of (X := Only r) hB0).trans hX2
  have hNN : (p.N == p.N) = true := by simp
  clear hM hF hF2 hR0 c0 c1 c2 c3 hB0 hX2
  go_wp2_with fail
  go_ret
  exact ⟨rfl, by rw [HL.out]; exact hR2, hX⟩

set_option maxRecDepth 100000 in
set_option maxHeartbeats 800000 in
theorem pback_no0 (w : World) (r : Nat) (l : List Int) (ix : Nat) (p : Pc) (h : Rd w r l ix) (hby : Bytes l) (hP : PcOk w p) (hst : Stab r p.ba p.bc p.bl) (m : Nat) (hm : m < (pcB p).length) (hl : l.drop ix = (pcB p).take m) (hk : p.kd % 4 = 0) :
    Calls Try.prog 20 #[.agg #[.int .u8 p.kd, .int .u8 p.N, .int .u64 p.X, .slice p.ba p.bn p.bc], .pointer (some ⟨r, 0, none⟩)] w fun e w' => e = .returned (.bool false) ∧ Rd w' r l ix ∧ Bx (Only r) w w' := by
  obtain ⟨hk', hN, hX, hs, hf⟩ := hP
  obtain ⟨hk0, hk1⟩ := bounds_u8 hk'
  obtain ⟨hN0, hN1⟩ := bounds_u8 hN
  obtain ⟨hX0, hX1⟩ := bounds_u64 hX
  clear hk' hN hX
  have hrlt := h.lt
  have hle := h.le
  have hF := Four.new w 39 (.int .u8 p.kd) (.int .u8 p.N) (.int .u64 p.X) (.slice p.ba p.bn p.bc)
  have hB0 : Below w.heap.size w (w.alloc (.cells #[.int .u8 p.kd, .int .u8 p.N, .int .u64 p.X, .slice p.ba p.bn p.bc] 39)) := (Below.refl _ _).alloc (Nat.le_refl _) _
  have c0 := hF.c0
  have c1 := hF.c1
  have c2 := hF.c2
  have c3 := hF.c3
  have hR0 := h.below hB0
  have hm0 := pcB_0 hk
  rw [hm0] at hm hl
  have hm1 : m = 0 := by simp at hm; exact hm
  subst hm1
  have hln := len_of_drop hl hle
  have HFX := Lib.hid (fx_end (l := l) (ix := ix) (by rw [hln]; simp))
  clear hs hf hst hm0 hl hm hln
  go_enter Try.func20, Try.ntmps20
  go_wp2_with fail
  refine (byte_any _ r l ix hR0 hby).mono ?_
  intro e w2 hM
  obtain ⟨rfl, hR2, hX2⟩ := hM.at HFX.out ix (by omega)
  have hF2 := hF.bx hX2 (Only.ne (by omega))
  have d1 := hF2.c1
  have d2 := hF2.c2
  have d3 := hF2.c3
  have hX := (Bx.of (X := Only r) hB0).trans hX2
  clear hM hF hF2 hR0 c0 c1 c2 c3 hB0 hX2
  by_cases hz : p.N = 0
  · have hzb : ((0 : Int) == p.N) = true := by simp [hz]
    clear hz
    go_wp2_with fail
    go_ret
    exact ⟨rfl, hR2, hX⟩
  · have hzb : ((0 : Int) == p.N) = false := by simp; omega
    clear hz
    go_wp2_with fail
    go_ret
    exact ⟨rfl, hR2, hX⟩

set_option maxRecDepth 100000 in
set_option maxHeartbeats 800000 in
theorem pback_ok1 (w : World) (r : Nat) (l : List Int) (ix : Nat) (p : Pc) (rest : List Int) (h : Rd w r l ix) (hby : Bytes l) (hP : PcOk w p) (hst : Stab r p.ba p.bc p.bl) (hl : l.drop ix = pcB p ++ rest) (hk : p.kd % 4 = 1) :
    Calls Try.prog 20 #[.agg #[.int .u8 p.kd, .int .u8 p.N, .int .u64 p.X, .slice p.ba p.bn p.bc], .pointer (some ⟨r, 0, none⟩)] w fun e w' => e = .returned (.bool true) ∧ Rd w' r l (ix + (pcB p).length) ∧ Bx (Only r) w w' := by
  obtain ⟨hk', hN, hX, hs, hf⟩ := hP
  obtain ⟨hk0, hk1⟩ := bounds_u8 hk'
  obtain ⟨hN0, hN1⟩ := bounds_u8 hN
  obtain ⟨hX0, hX1⟩ := bounds_u64 hX
  clear hk' hN hX
  have hrlt := h.lt
  have hle := h.le
  have hF := Four.new w 39 (.int .u8 p.kd) (.int .u8 p.N) (.int .u64 p.X) (.slice p.ba p.bn p.bc)
  have hB0 : Below w.heap.size w (w.alloc (.cells #[.int .u8 p.kd, .int .u8 p.N, .int .u64 p.X, .slice p.ba p.bn p.bc] 39)) := (Below.refl _ _).alloc (Nat.le_refl _) _
  have c0 := hF.c0
  have c1 := hF.c1
  have c2 := hF.c2
  have c3 := hF.c3
  have hR0 := h.below hB0
  have hbn := hs.1
  have hlc := hs.2.1
  have hcm := hs.2.2.1
  have hm30 : min p.bn 30 ≤ 30 := Nat.min_le_right _ _
  have hmb : min p.bn 30 ≤ p.bn := Nat.min_le_left _ _
  have hc30 := cut_30 p.bn
  have hcI : min (p.bn : Int) 30 = ((min p.bn 30 : Nat) : Int) := by omega
  have hme : pcB p = p.bl.take (min p.bn 30) := by rw [pcB_1 hk, take_30, hbn]
  have hml : (p.bl.take (min p.bn 30)).length = min p.bn 30 := by rw [List.length_take, hbn]; omega
  have hsB : ∀ W : World, Sl .u8 W p.ba p.bn p.bc p.bl → Sl .u8 W p.ba (min p.bn 30) p.bc (p.bl.take (min p.bn 30)) := fun W hh => hh.upto _ hmb
  generalize hq : min p.bn 30 = q at *
  rw [hme] at hl
  have hln := len_of_drop hl hle
  rw [List.length_append, hml] at hln
  have htk : (l.drop ix).take q = p.bl.take q := by
    rw [hl]; conv => lhs; rw [← hml]
    simp
  have HL : Hid ((pcB p).length = q) := by rw [hme]; exact hml
  have HTK := Lib.hid htk
  have HLN := Lib.hid hln
  have HS := Lib.hid hs
  have HST := Lib.hid hst
  have HSB := Lib.hid hsB
  have HBN := Lib.hid hbn
  clear hs hf hst hme hml hl hln htk hsB hbn hq
  go_enter Try.func20, Try.ntmps20
  go_wp2_with fail
  refine (bytes_any _ r l ix q hR0).mono ?_
  intro e w2 hM
  obtain ⟨a2, c4, rfl, hown, hR2, hX2⟩ := hM.at (by have := HLN.out; omega) (ix + q) rfl
  rw [HTK.out] at hown
  have hF2 := hF.bx hX2 (Only.ne (by omega))
  have d1 := hF2.c1
  have d2 := hF2.c2
  have d3 := hF2.c3
  have hX := (Bx.of (X := Only r) hB0).trans hX2
  have hs2 := HST.out _ w2 (by rw [HBN.out]; exact HS.out.below hB0) hX2
  rw [HBN.out] at hs2
  have HSM := Lib.hid (sameBytes_yes w2 _ _ _ _ _ _ _ _ (own_sl hown) (HSB.out w2 hs2) rfl)
  clear hM hF hF2 hR0 c0 c1 c2 c3 hB0 hX2 hown hs2
  go_wp2_with fail
  refine HSM.out.mono ?_
  rintro e w3 ⟨rfl, hD3⟩
  have hR3 := hR2.below hD3.below
  have hX3 := hX.then hD3.below
  clear HSM hD3
  go_wp2_with fail
  go_ret
  exact ⟨rfl, by rw [HL.out]; exact hR3, hX3⟩

set_option maxRecDepth 100000 in
set_option maxHeartbeats 800000 in
theorem pback_no1 (w : World) (r : Nat) (l : List Int) (ix : Nat) (p : Pc) (h : Rd w r l ix) (hby : Bytes l) (hP : PcOk w p) (hst : Stab r p.ba p.bc p.bl) (m : Nat) (hm : m < (pcB p).length) (hl : l.drop ix = (pcB p).take m) (hk : p.kd % 4 = 1) :
    Calls Try.prog 20 #[.agg #[.int .u8 p.kd, .int .u8 p.N, .int .u64 p.X, .slice p.ba p.bn p.bc], .pointer (some ⟨r, 0, none⟩)] w fun e w' => e = .returned (.bool false) ∧ Rd w' r l ix ∧ Bx (Only r) w w' := by
  obtain ⟨hk', hN, hX, hs, hf⟩ := hP
  obtain ⟨hk0, hk1⟩ := bounds_u8 hk'
  obtain ⟨hN0, hN1⟩ := bounds_u8 hN
  obtain ⟨hX0, hX1⟩ := bounds_u64 hX
  clear hk' hN hX
  have hrlt := h.lt
  have hle := h.le
  have hF := Four.new w 39 (.int .u8 p.kd) (.int .u8 p.N) (.int .u64 p.X) (.slice p.ba p.bn p.bc)
  have hB0 : Below w.heap.size w (w.alloc (.cells #[.int .u8 p.kd, .int .u8 p.N, .int .u64 p.X, .slice p.ba p.bn p.bc] 39)) := (Below.refl _ _).alloc (Nat.le_refl _) _
  have c0 := hF.c0
  have c1 := hF.c1
  have c2 := hF.c2
  have c3 := hF.c3
  have hR0 := h.below hB0
  have hbn := hs.1
  have hlc := hs.2.1
  have hcm := hs.2.2.1
  have hm30 : min p.bn 30 ≤ 30 := Nat.min_le_right _ _
  have hmb : min p.bn 30 ≤ p.bn := Nat.min_le_left _ _
  have hc30 := cut_30 p.bn
  have hcI : min (p.bn : Int) 30 = ((min p.bn 30 : Nat) : Int) := by omega
  have hme : pcB p = p.bl.take (min p.bn 30) := by rw [pcB_1 hk, take_30, hbn]
  have hml : (p.bl.take (min p.bn 30)).length = min p.bn 30 := by rw [List.length_take, hbn]; omega
  have hsB : ∀ W : World, Sl .u8 W p.ba p.bn p.bc p.bl → Sl .u8 W p.ba (min p.bn 30) p.bc (p.bl.take (min p.bn 30)) := fun W hh => hh.upto _ hmb
  generalize hq : min p.bn 30 = q at *
  rw [hme] at hl hm
  rw [hml] at hm
  have hln := len_of_drop hl hle
  rw [List.length_take, hml] at hln
  have HE := Lib.hid (tkE_end (len := l.length) (ix := ix) (n := (q : Int)) (by omega) (by omega))
  clear hs hf hst hme hml hl hln hsB hbn hq hm
  go_enter Try.func20, Try.ntmps20
  go_wp2_with fail
  refine (bytes_any _ r l ix q hR0).mono ?_
  intro e w2 hM
  obtain ⟨a2, c4, rfl, hR2, hX2⟩ := hM.bad HE.out (by decide)
  have hF2 := hF.bx hX2 (Only.ne (by omega))
  have d1 := hF2.c1
  have d2 := hF2.c2
  have d3 := hF2.c3
  have hX := (Bx.of (X := Only r) hB0).trans hX2
  clear hM hF hF2 hR0 c0 c1 c2 c3 hB0 hX2
  go_wp2_with fail
  go_ret
  exact ⟨rfl, hR2, hX⟩

set_option maxRecDepth 100000 in
set_option maxHeartbeats 800000 in
theorem pback_ok2 (w : World) (r : Nat) (l : List Int) (ix : Nat) (p : Pc) (rest : List Int) (h : Rd w r l ix) (hby : Bytes l) (hP : PcOk w p) (hst : Stab r p.ba p.bc p.bl) (hl : l.drop ix = pcB p ++ rest) (hk : p.kd % 4 = 2) :
    Calls Try.prog 20 #[.agg #[.int .u8 p.kd, .int .u8 p.N, .int .u64 p.X, .slice p.ba p.bn p.bc], .pointer (some ⟨r, 0, none⟩)] w fun e w' => e = .returned (.bool true) ∧ Rd w' r l (ix + (pcB p).length) ∧ Bx (Only r) w w' := by
  obtain ⟨hk', hN, hX, hs, hf⟩ := hP
  obtain ⟨hk0, hk1⟩ := bounds_u8 hk'
  obtain ⟨hN0, hN1⟩ := bounds_u8 hN
  obtain ⟨hX0, hX1⟩ := bounds_u64 hX
  clear hk' hN hX
  have hrlt := h.lt
  have hle := h.le
  have hF := Four.new w 39 (.int .u8 p.kd) (.int .u8 p.N) (.int .u64 p.X) (.slice p.ba p.bn p.bc)
  have hB0 : Below w.heap.size w (w.alloc (.cells #[.int .u8 p.kd, .int .u8 p.N, .int .u64 p.X, .slice p.ba p.bn p.bc] 39)) := (Below.refl _ _).alloc (Nat.le_refl _) _
  have c0 := hF.c0
  have c1 := hF.c1
  have c2 := hF.c2
  have c3 := hF.c3
  have hR0 := h.below hB0
  have hn8 : pcn p ≤ 8 ∧ 1 ≤ pcn p ∧ ((pcn p : Nat) : Int) = 1 + p.N % 8 := by unfold pcn; omega
  obtain ⟨n, hn⟩ : ∃ n, n = pcn p := ⟨_, rfl⟩
  have hme := pcB_2 hk
  rw [← hn] at hn8 hme
  have HP := Lib.hid (pfixed_any (w.alloc (.cells #[.int .u8 p.kd, .int .u8 p.N, .int .u64 p.X, .slice p.ba p.bn p.bc] 39)) p.kd p.N p.X p.ba p.bn p.bc hN0 hN1 hX0 hX1)
  have hq : (1 + p.N % 8).toNat = n := hn.symm
  obtain ⟨x, hx⟩ : ∃ x, x = p.X % 256 ^ n := ⟨_, rfl⟩
  have hxm : x % 256 ^ n = x := by rw [hx]; exact Int.emod_emod_of_dvd _ (Int.dvd_refl _)
  rw [← hx] at hme
  have hleb := leB_length n x
  have HX := Lib.hid hx
  have HQ := Lib.hid hq
  have H8 := Lib.hid hn8
  rw [hme] at hl
  have HFX := Lib.hid (fx_at hl hle hn8.2.1 hn8.1 hxm)
  have HL : Hid ((pcB p).length = n) := by rw [hme]; exact hleb
  clear hs hf hst hl hme hn hq hx hxm hleb hn8
  go_enter Try.func20, Try.ntmps20
  go_wp2_with fail
  refine HP.out.mono ?_
  rintro e w1 ⟨rfl, hB1⟩
  rw [HQ.out, ← HX.out, ← H8.out.2.2]
  have hR1 := hR0.below hB1
  have hF1 := hF.below hB1
  have hB01 := step_below hB0 hB1 (Nat.le_refl _)
  clear HP hB1 hR0 hF c0 c1 c2 c3 hB0
  go_wp2_with fail
  refine (fixed_any w1 r l ix n hR1 hby).mono ?_
  intro e w2 hM
  obtain ⟨rfl, hR2, hX2⟩ := hM.at HFX.out (ix + n) rfl
  have hX := (Bx.of (X := Only r) hB01).trans hX2
  clear hM hF1 hR1 hB01 hX2
  have hxx : (x == x) = true := by simp
  go_wp2_with fail
  go_ret
  exact ⟨rfl, by rw [HL.out]; exact hR2, hX⟩

set_option maxRecDepth 100000 in
set_option maxHeartbeats 800000 in
theorem pback_no2 (w : World) (r : Nat) (l : List Int) (ix : Nat) (p : Pc) (h : Rd w r l ix) (hby : Bytes l) (hP : PcOk w p) (hst : Stab r p.ba p.bc p.bl) (m : Nat) (hm : m < (pcB p).length) (hl : l.drop ix = (pcB p).take m) (hk : p.kd % 4 = 2) :
    Calls Try.prog 20 #[.agg #[.int .u8 p.kd, .int .u8 p.N, .int .u64 p.X, .slice p.ba p.bn p.bc], .pointer (some ⟨r, 0, none⟩)] w fun e w' => e = .returned (.bool false) ∧ Rd w' r l ix ∧ Bx (Only r) w w' := by
  obtain ⟨hk', hN, hX, hs, hf⟩ := hP
  obtain ⟨hk0, hk1⟩ := bounds_u8 hk'
  obtain ⟨hN0, hN1⟩ := bounds_u8 hN
  obtain ⟨hX0, hX1⟩ := bounds_u64 hX
  clear hk' hN hX
  have hrlt := h.lt
  have hle := h.le
  have hF := Four.new w 39 (.int .u8 p.kd) (.int .u8 p.N) (.int .u64 p.X) (.slice p.ba p.bn p.bc)
  have hB0 : Below w.heap.size w (w.alloc (.cells #[.int .u8 p.kd, .int .u8 p.N, .int .u64 p.X, .slice p.ba p.bn p.bc] 39)) := (Below.refl _ _).alloc (Nat.le_refl _) _
  have c0 := hF.c0
  have c1 := hF.c1
  have c2 := hF.c2
  have c3 := hF.c3
  have hR0 := h.below hB0
  have hn8 : pcn p ≤ 8 ∧ 1 ≤ pcn p ∧ ((pcn p : Nat) : Int) = 1 + p.N % 8 := by unfold pcn; omega
  obtain ⟨n, hn⟩ : ∃ n, n = pcn p := ⟨_, rfl⟩
  have hme := pcB_2 hk
  rw [← hn] at hn8 hme
  have HP := Lib.hid (pfixed_any (w.alloc (.cells #[.int .u8 p.kd, .int .u8 p.N, .int .u64 p.X, .slice p.ba p.bn p.bc] 39)) p.kd p.N p.X p.ba p.bn p.bc hN0 hN1 hX0 hX1)
  have hq : (1 + p.N % 8).toNat = n := hn.symm
  obtain ⟨x, hx⟩ : ∃ x, x = p.X % 256 ^ n := ⟨_, rfl⟩
  have hxm : x % 256 ^ n = x := by rw [hx]; exact Int.emod_emod_of_dvd _ (Int.dvd_refl _)
  rw [← hx] at hme
  have hleb := leB_length n x
  have HX := Lib.hid hx
  have HQ := Lib.hid hq
  have H8 := Lib.hid hn8
  rw [hme] at hl hm
  rw [hleb] at hm
  have hln := len_of_drop hl hle
  rw [List.length_take, hleb] at hln
  have HFX := Lib.hid (fx_cut (l := l) (ix := ix) (n := n) hle hn8.2.1 hn8.1 (by omega))
  clear hs hf hst hl hme hn hq hx hxm hleb hn8 hm hln
  go_enter Try.func20, Try.ntmps20
  go_wp2_with fail
  refine HP.out.mono ?_
  rintro e w1 ⟨rfl, hB1⟩
  rw [HQ.out, ← HX.out, ← H8.out.2.2]
  have hR1 := hR0.below hB1
  have hF1 := hF.below hB1
  have hB01 := step_below hB0 hB1 (Nat.le_refl _)
  clear HP hB1 hR0 hF c0 c1 c2 c3 hB0
  go_wp2_with fail
  refine (fixed_any w1 r l ix n hR1 hby).mono ?_
  intro e w2 hM
  obtain ⟨rfl, hR2, hX2⟩ := hM.at HFX.out ix (by omega)
  have hX := (Bx.of (X := Only r) hB01).trans hX2
  clear hM hF1 hR1 hB01 hX2
  by_cases hz : x = 0
  · have hzb : (x == (0 : Int)) = true := by simp [hz]
    clear hz
    go_wp2_with fail
    go_ret
    exact ⟨rfl, hR2, hX⟩
  · have hzb : (x == (0 : Int)) = false := by simp; exact hz
    clear hz
    go_wp2_with fail
    go_ret
    exact ⟨rfl, hR2, hX⟩

set_option maxRecDepth 100000 in
set_option maxHeartbeats 800000 in
theorem pback_ok3 (w : World) (r : Nat) (l : List Int) (ix : Nat) (p : Pc) (rest : List Int) (h : Rd w r l ix) (hby : Bytes l) (hP : PcOk w p) (hst : Stab r p.ba p.bc p.bl) (hl : l.drop ix = pcB p ++ rest) (hk : p.kd % 4 = 3) :
    Calls Try.prog 20 #[.agg #[.int .u8 p.kd, .int .u8 p.N, .int .u64 p.X, .slice p.ba p.bn p.bc], .pointer (some ⟨r, 0, none⟩)] w fun e w' => e = .returned (.bool true) ∧ Rd w' r l (ix + (pcB p).length) ∧ Bx (Only r) w w' := by
  obtain ⟨hk', hN, hX, hs, hf⟩ := hP
  obtain ⟨hk0, hk1⟩ := bounds_u8 hk'
  obtain ⟨hN0, hN1⟩ := bounds_u8 hN
  obtain ⟨hX0, hX1⟩ := bounds_u64 hX
  clear hk' hN hX
  have hrlt := h.lt
  have hle := h.le
  have hF := Four.new w 39 (.int .u8 p.kd) (.int .u8 p.N) (.int .u64 p.X) (.slice p.ba p.bn p.bc)
  have hB0 : Below w.heap.size w (w.alloc (.cells #[.int .u8 p.kd, .int .u8 p.N, .int .u64 p.X, .slice p.ba p.bn p.bc] 39)) := (Below.refl _ _).alloc (Nat.le_refl _) _
  have c0 := hF.c0
  have c1 := hF.c1
  have c2 := hF.c2
  have c3 := hF.c3
  have hR0 := h.below hB0
  have hme := pcB_3 hk
  rw [hme] at hl
  have hv := vread_form p.X rest hX0 hX1
  rw [← hl] at hv
  have HFX := Lib.hid (nbR_ok (top := p.X) hv (by omega))
  have HL : Hid ((pcB p).length = vsize p.X) := by rw [hme]; rfl
  clear hs hf hst hl hme hv
  go_enter Try.func20, Try.ntmps20
  go_wp2_with fail
  refine (number_go _ r l ix p.X hR0 hby).mono ?_
  intro e w2 hM
  obtain ⟨rfl, hR2, hX2⟩ := hM.at HFX.out (ix + vsize p.X) rfl
  have hF2 := hF.bx hX2 (Only.ne (by omega))
  have d1 := hF2.c1
  have d2 := hF2.c2
  have d3 := hF2.c3
  have hX := (Bx.of (X := Only r) hB0).trans hX2
  have hxx : (p.X == p.X) = true := by simp
  clear hM hF hF2 hR0 c0 c1 c2 c3 hB0 hX2
  go_wp2_with fail
  go_ret
  exact ⟨rfl, by rw [HL.out]; exact hR2, hX⟩

set_option maxRecDepth 100000 in
set_option maxHeartbeats 800000 in
theorem pback_no3 (w : World) (r : Nat) (l : List Int) (ix : Nat) (p : Pc) (h : Rd w r l ix) (hby : Bytes l) (hP : PcOk w p) (hst : Stab r p.ba p.bc p.bl) (m : Nat) (hm : m < (pcB p).length) (hl : l.drop ix = (pcB p).take m) (hk : p.kd % 4 = 3) :
    Calls Try.prog 20 #[.agg #[.int .u8 p.kd, .int .u8 p.N, .int .u64 p.X, .slice p.ba p.bn p.bc], .pointer (some ⟨r, 0, none⟩)] w fun e w' => e = .returned (.bool false) ∧ Rd w' r l ix ∧ Bx (Only r) w w' := by
  obtain ⟨hk', hN, hX, hs, hf⟩ := hP
  obtain ⟨hk0, hk1⟩ := bounds_u8 hk'
  obtain ⟨hN0, hN1⟩ := bounds_u8 hN
  obtain ⟨hX0, hX1⟩ := bounds_u64 hX
  clear hk' hN hX
  have hrlt := h.lt
  have hle := h.le
  have hF := Four.new w 39 (.int .u8 p.kd) (.int .u8 p.N) (.int .u64 p.X) (.slice p.ba p.bn p.bc)
  have hB0 : Below w.heap.size w (w.alloc (.cells #[.int .u8 p.kd, .int .u8 p.N, .int .u64 p.X, .slice p.ba p.bn p.bc] 39)) := (Below.refl _ _).alloc (Nat.le_refl _) _
  have c0 := hF.c0
  have c1 := hF.c1
  have c2 := hF.c2
  have c3 := hF.c3
  have hR0 := h.below hB0
  have hme := pcB_3 hk
  rw [hme] at hl hm
  have hv := vread_cut p.X m hX0 hX1 hm
  rw [← hl] at hv
  have HFX := Lib.hid (nbR_err (top := p.X) hv (by decide))
  clear hs hf hst hl hme hv hm
  go_enter Try.func20, Try.ntmps20
  go_wp2_with fail
  refine (number_go _ r l ix p.X hR0 hby).mono ?_
  intro e w2 hM
  obtain ⟨rfl, hR2, hX2⟩ := hM.at HFX.out ix (by omega)
  have hF2 := hF.bx hX2 (Only.ne (by omega))
  have d1 := hF2.c1
  have d2 := hF2.c2
  have d3 := hF2.c3
  have hX := (Bx.of (X := Only r) hB0).trans hX2
  clear hM hF hF2 hR0 c0 c1 c2 c3 hB0 hX2
  by_cases hz : p.X = 0
  · have hzb : ((0 : Int) == p.X) = true := by simp [hz]
    clear hz
    go_wp2_with fail
    go_ret
    exact ⟨rfl, hR2, hX⟩
  · have hzb : ((0 : Int) == p.X) = false := by simp; omega
    clear hz
    go_wp2_with fail
    go_ret
    exact ⟨rfl, hR2, hX⟩

theorem pback_ok (w : World) (r : Nat) (l : List Int) (ix : Nat) (p : Pc) (rest : List Int) (h : Rd w r l ix) (hby : Bytes l) (hP : PcOk w p) (hst : Stab r p.ba p.bc p.bl) (hl : l.drop ix = pcB p ++ rest) :
    Calls Try.prog 20 #[.agg #[.int .u8 p.kd, .int .u8 p.N, .int .u64 p.X, .slice p.ba p.bn p.bc], .pointer (some ⟨r, 0, none⟩)] w fun e w' => e = .returned (.bool true) ∧ Rd w' r l (ix + (pcB p).length) ∧ Bx (Only r) w w' := by
  have hb := bounds_u8 hP.1
  have hc : p.kd % 4 = 0 ∨ p.kd % 4 = 1 ∨ p.kd % 4 = 2 ∨ p.kd % 4 = 3 := by omega
  rcases hc with hk | hk | hk | hk
  · exact pback_ok0 w r l ix p rest h hby hP hst hl hk
  · exact pback_ok1 w r l ix p rest h hby hP hst hl hk
  · exact pback_ok2 w r l ix p rest h hby hP hst hl hk
  · exact pback_ok3 w r l ix p rest h hby hP hst hl hk
theorem pback_no (w : World) (r : Nat) (l : List Int) (ix : Nat) (p : Pc) (m : Nat) (h : Rd w r l ix) (hby : Bytes l) (hP : PcOk w p) (hst : Stab r p.ba p.bc p.bl) (hm : m < (pcB p).length) (hl : l.drop ix = (pcB p).take m) :
    Calls Try.prog 20 #[.agg #[.int .u8 p.kd, .int .u8 p.N, .int .u64 p.X, .slice p.ba p.bn p.bc], .pointer (some ⟨r, 0, none⟩)] w fun e w' => e = .returned (.bool false) ∧ Rd w' r l ix ∧ Bx (Only r) w w' := by
  have hb := bounds_u8 hP.1
  have hc : p.kd % 4 = 0 ∨ p.kd % 4 = 1 ∨ p.kd % 4 = 2 ∨ p.kd % 4 = 3 := by omega
  rcases hc with hk | hk | hk | hk
  · exact pback_no0 w r l ix p h hby hP hst m hm hl hk
  · exact pback_no1 w r l ix p h hby hP hst m hm hl hk
  · exact pback_no2 w r l ix p h hby hP hst m hm hl hk
  · exact pback_no3 w r l ix p h hby hP hst m hm hl hk
end Go.Proofs.Ytakpockkagfphaa
