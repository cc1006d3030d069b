/-
  The contracts of a piece's write and back. No condition but those in each statement.
-/
import Derived.Test.YtakpockkagfphaaWtw
import Derived.Test.YtakpockkagfphaaPcf
namespace Go.Proofs.Ytakpockkagfphaa
open Go.RowKit Go.Shelf

/-- A block that holds the four cells of a piece. -/
def Four (w : World) (b : Nat) (t : TypeId) (v0 v1 v2 v3 : Value) : Prop := w.heap[b]? = some (.cells #[v0, v1, v2, v3] t (0, 0))
theorem Four.lt {w : World} {b : Nat} {t : TypeId} {v0 v1 v2 v3 : Value} (h : Four w b t v0 v1 v2 v3) : b < w.heap.size := (Array.getElem?_eq_some_iff.1 h).1
theorem Four.c0 {w : World} {b : Nat} {t : TypeId} {v0 v1 v2 v3 : Value} (h : Four w b t v0 v1 v2 v3) : w.cell? ⟨b, 0, none⟩ = some v0 := by simp [World.cell?, show w.heap[b]? = _ from h]
theorem Four.c1 {w : World} {b : Nat} {t : TypeId} {v0 v1 v2 v3 : Value} (h : Four w b t v0 v1 v2 v3) : w.cell? ⟨b, 1, none⟩ = some v1 := by simp [World.cell?, show w.heap[b]? = _ from h]
theorem Four.c2 {w : World} {b : Nat} {t : TypeId} {v0 v1 v2 v3 : Value} (h : Four w b t v0 v1 v2 v3) : w.cell? ⟨b, 2, none⟩ = some v2 := by simp [World.cell?, show w.heap[b]? = _ from h]
theorem Four.c3 {w : World} {b : Nat} {t : TypeId} {v0 v1 v2 v3 : Value} (h : Four w b t v0 v1 v2 v3) : w.cell? ⟨b, 3, none⟩ = some v3 := by simp [World.cell?, show w.heap[b]? = _ from h]
theorem Four.new (w : World) (t : TypeId) (v0 v1 v2 v3 : Value) : Four (w.alloc (.cells #[v0, v1, v2, v3] t)) w.heap.size t v0 v1 v2 v3 := heap_alloc_new w _
theorem Four.bx {X : Nat → Prop} {w w' : World} {b : Nat} {t : TypeId} {v0 v1 v2 v3 : Value} (h : Four w b t v0 v1 v2 v3) (hb : Bx X w w') (hx : ¬ X b) : Four w' b t v0 v1 v2 v3 := (hb.block b h.lt hx).trans h
theorem Four.below {w w' : World} {b : Nat} {t : TypeId} {v0 v1 v2 v3 : Value} (h : Four w b t v0 v1 v2 v3) (hb : Below w.heap.size w w') : Four w' b t v0 v1 v2 v3 := (hb.block b h.lt).trans h

def pcn (p : Pc) : Nat := (1 + p.N % 8).toNat
/-- The bytes of a piece. -/
def pcB (p : Pc) : List Int :=
  if p.kd % 4 = 0 then [p.N] else if p.kd % 4 = 1 then p.bl.take 30 else if p.kd % 4 = 2 then leB (pcn p) (p.X % 256 ^ pcn p) else vform p.X
theorem pcB_0 {p : Pc} (h : p.kd % 4 = 0) : pcB p = [p.N] := by unfold pcB; rw [if_pos h]
theorem pcB_1 {p : Pc} (h : p.kd % 4 = 1) : pcB p = p.bl.take 30 := by unfold pcB; rw [if_neg (by omega), if_pos h]
theorem pcB_2 {p : Pc} (h : p.kd % 4 = 2) : pcB p = leB (pcn p) (p.X % 256 ^ pcn p) := by unfold pcB; rw [if_neg (by omega), if_neg (by omega), if_pos h]
theorem pcB_3 {p : Pc} (h : p.kd % 4 = 3) : pcB p = vform p.X := by unfold pcB; rw [if_neg (by omega), if_neg (by omega), if_neg (by omega)]
theorem cut_30 (n : Nat) : (min (n : Int) 30).toNat = min n 30 := by omega
theorem take_30 (l : List Int) : l.take 30 = l.take (min l.length 30) := by
  rcases Nat.lt_or_ge l.length 30 with h | h
  · rw [Nat.min_eq_left (by omega), List.take_length, List.take_of_length_le (by omega)]
  · rw [Nat.min_eq_right h]

theorem WRes.keep {r : Nat} {lim : Int} {v : Value} {l m : List Int} {w : World} {e : Ending} {w' : World} (h : WRes r lim v l m w e w') {p : Addr} {u : Value} (hc : w.cell? p = some u) (hm : ¬ Mine r v p.block) : w'.cell? p = some u := by
  by_cases hf : lim < (l.length : Int) + m.length
  · exact ((h.full hf).2.cell (World.block_lt_of_cell? w _ hc)).trans hc
  · obtain ⟨_, v', _, hx, _⟩ := h.fits hf
    exact hx.cell hc hm

/-- What write returns. -/
def PwRes (r : Nat) (lim : Int) (v : Value) (l m : List Int) (w : World) (e : Ending) (w' : World) : Prop :=
  ∃ q, e = .returned (.tuple #[.int .i64 m.length, .int .i64 q]) ∧ WRes r lim v l m w (.returned (.int .i64 q)) w'

set_option maxRecDepth 100000 in
set_option maxHeartbeats 800000 in
theorem pwrite_any (w : World) (r : Nat) (lim : Int) (v : Value) (l : List Int) (p : Pc) (hW : Wr w r lim v l) (hP : PcOk w p) :
    Calls Try.prog 16 #[.agg #[.int .u8 p.kd, .int .u8 p.N, .int .u64 p.X, .slice p.ba p.bn p.bc], .pointer (some ⟨r, 0, none⟩)] w (PwRes r lim v l (pcB p) w) := by
  obtain ⟨hk, hN, hX, hs, hf⟩ := hP
  obtain ⟨hk0, hk1⟩ := bounds_u8 hk
  obtain ⟨hN0, hN1⟩ := bounds_u8 hN
  obtain ⟨hX0, hX1⟩ := bounds_u64 hX
  clear hk hN hX
  have hF := Four.new w 39 (.int .u8 p.kd) (.int .u8 p.N) (.int .u64 p.X) (.slice p.ba p.bn p.bc)
  have hB0 : Below w.heap.size w (w.alloc (.cells #[.int .u8 p.kd, .int .u8 p.N, .int .u64 p.X, .slice p.ba p.bn p.bc] 39)) := (Below.refl _ _).alloc (Nat.le_refl _) _
  have c0 := hF.c0
  have c1 := hF.c1
  have c2 := hF.c2
  have c3 := hF.c3
  have hc : p.kd % 4 = 0 ∨ p.kd % 4 = 1 ∨ p.kd % 4 = 2 ∨ p.kd % 4 = 3 := by omega
  rcases hc with hk | hk | hk | hk
  · have HM := Lib.hid (pcB_0 hk)
    have HA := Lib.hid (wbyte_any _ r lim v l p.N (hW.below hB0))
    go_enter Try.func16, Try.ntmps16
    go_wp2_with fail
    refine HA.out.mono ?_
    intro e w2 hM
    obtain ⟨q, rfl⟩ := hM.num
    go_wp2_with fail
    go_ret2
    exact ⟨q, by rw [HM.out]; rfl, by rw [HM.out]; exact hM.pre hB0⟩
  · have hbn := hs.1
    have hlc := hs.2.1
    have hcm := hs.2.2.1
    have hm30 : min p.bn 30 ≤ 30 := Nat.min_le_right _ _
    have hmb : min p.bn 30 ≤ p.bn := Nat.min_le_left _ _
    have hc30 := cut_30 p.bn
    have hsm := (hs.below hB0).upto (min p.bn 30) hmb
    have hme : pcB p = p.bl.take (min p.bn 30) := by rw [pcB_1 hk, take_30, hbn]
    have hml : (p.bl.take (min p.bn 30)).length = min p.bn 30 := hsm.1
    obtain ⟨f, hfd⟩ : ∃ f, f = p.bl.take (min p.bn 30) := ⟨_, rfl⟩
    rw [← hfd] at hsm hme hml
    generalize min p.bn 30 = m at *
    subst hml
    have HA := Lib.hid (wbytes_any _ r lim v l f p.ba p.bc (hW.below hB0) hsm (by omega))
    have HM := Lib.hid hme
    clear hs hf hsm hbn hfd hme
    go_enter Try.func16, Try.ntmps16
    go_wp2_with fail
    refine HA.out.mono ?_
    intro e w2 hM
    obtain ⟨q, rfl⟩ := hM.num
    go_wp2_with fail
    go_ret2
    exact ⟨q, by rw [HM.out]; rfl, by rw [HM.out]; exact hM.pre hB0⟩
  · have hn8 : pcn p ≤ 8 ∧ 1 ≤ pcn p ∧ ((pcn p : Nat) : Int) = 1 + p.N % 8 := by unfold pcn; omega
    obtain ⟨n, hn⟩ : ∃ n, n = pcn p := ⟨_, rfl⟩
    have hme := pcB_2 hk
    rw [← hn] at hn8 hme
    have HP := Lib.hid (pfixed_any (w.alloc (.cells #[.int .u8 p.kd, .int .u8 p.N, .int .u64 p.X, .slice p.ba p.bn p.bc] 39)) p.kd p.N p.X p.ba p.bn p.bc hN0 hN1 hX0 hX1)
    have hq : (1 + p.N % 8).toNat = n := hn.symm
    obtain ⟨x, hx⟩ : ∃ x, x = p.X % 256 ^ n := ⟨_, rfl⟩
    have hp : (0 : Int) < 256 ^ n := Int.pow_pos (by omega)
    have hx0 : 0 ≤ x := by rw [hx]; exact Int.emod_nonneg _ (by omega)
    have hx1 : ¬ 0 < x / 256 ^ n := by
      have : x / 256 ^ n = 0 := Int.ediv_eq_zero_of_lt hx0 (by rw [hx]; exact Int.emod_lt_of_pos _ hp)
      omega
    rw [← hx] at hme
    have HM := Lib.hid hme
    have HX := Lib.hid hx
    have HQ := Lib.hid hq
    have H8 := Lib.hid hn8
    have hnI8 : (n : Int) ≤ 8 := by omega
    have hnI1 : 1 ≤ (n : Int) := by omega
    clear hs hf hme hn hq hx hp hn8
    go_enter Try.func16, Try.ntmps16
    go_wp2_with fail
    refine HP.out.mono ?_
    rintro e w2 ⟨rfl, hB2⟩
    rw [HQ.out, ← HX.out, ← H8.out.2.2]
    have hB02 := step_below hB0 hB2 (Nat.le_refl _)
    have HA := Lib.hid (wfixed_fit w2 r lim v l x n ((hW.below hB0).below hB2) H8.out.2.1 H8.out.1 hx0 (Int.not_lt.2 hx1))
    have hln := leB_length n x
    have HL := Lib.hid hln
    clear HP hB2 hln hx1
    go_wp2_with fail
    refine HA.out.mono ?_
    intro e w3 hM
    obtain ⟨q, rfl⟩ := hM.num
    go_wp2_with fail
    go_ret2
    exact ⟨q, by rw [HM.out, HL.out]; rfl, by rw [HM.out]; exact hM.pre hB02⟩
  · have HM := Lib.hid (pcB_3 hk)
    obtain ⟨W, hWe⟩ : ∃ W, W = (w.alloc (.cells #[.int .u8 p.kd, .int .u8 p.N, .int .u64 p.X, .slice p.ba p.bn p.bc] 39)) := ⟨_, rfl⟩
    rw [← hWe] at hB0 hF
    have hWW := hW.below hB0
    have hc2 : W.cell? ⟨w.heap.size, 2, none⟩ = some (.int .u64 p.X) := hF.c2
    have hmm : ¬ Mine r v w.heap.size := fun hh => by have := hW.ownlt hh; omega
    have HWe := Lib.hid hWe
    clear hs hf hWe
    go_enter Try.func16, Try.ntmps16
    go_wp2_with fail
    rw [← HWe.out]
    go_region_held3 (fun w' => w'.cell? ⟨w.heap.size, 2, none⟩ = some (.int .u64 p.X)) (solve | (first | assumption | exact hc2)) (first
      | (go_at_call 45; refine (size_any p.X _ hX0 hX1).mono ?_; rintro e w' ⟨rfl, rfl⟩)
      | (go_at_call 34; refine (wnumber_any _ r lim v l p.X (hWW.below (Below.refl _ _).drew) hX0 hX1).mono ?_; intro e w2 hM; obtain ⟨q, rfl⟩ := hM.num; have hcc := hM.keep (p := ⟨w.heap.size, 2, none⟩) hc2 hmm))
    go_wp2_with fail
    go_ret2
    exact ⟨q, by rw [HM.out]; rfl, by rw [HM.out]; exact hM.pre (step_below hB0 (Below.refl _ _).drew (Nat.le_refl _))⟩
end Go.Proofs.Ytakpockkagfphaa
