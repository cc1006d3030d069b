/-
  A reader in memory, and the contracts of its small methods. No condition but those in each statement.
-/
import Derived.Test.YtakpockkagfphaaBx
namespace Go.Proofs.Ytakpockkagfphaa
open Go.RowKit Go.Shelf

/-- Just this block. -/
def Only (r : Nat) : Nat → Prop := fun k => k = r
theorem Only.me (r : Nat) : Only r r := rfl
theorem Only.ne {r k : Nat} (h : k ≠ r) : ¬ Only r k := h

/-- A reader of the bytes l at the place ix. -/
def Rd (w : World) (r : Nat) (l : List Int) (ix : Nat) : Prop :=
  ∃ a cap, Tri w r 83 (.int .i64 ((l.length : Int) - ix)) (.bool true) (.slice a l.length cap) ∧ Sl .u8 w a l.length cap l ∧ (∀ p, a = some p → p.block < r) ∧ ix ≤ l.length ∧ l.length ≤ 140737488355000
theorem Rd.lt {w : World} {r : Nat} {l : List Int} {ix : Nat} (h : Rd w r l ix) : r < w.heap.size := by obtain ⟨a, cap, h1, _⟩ := h; exact h1.lt
theorem Rd.le {w : World} {r : Nat} {l : List Int} {ix : Nat} (h : Rd w r l ix) : ix ≤ l.length := by obtain ⟨a, cap, _, _, _, h1, _⟩ := h; exact h1
theorem Rd.bx {X : Nat → Prop} {w w' : World} {r : Nat} {l : List Int} {ix : Nat} (h : Rd w r l ix) (hb : Bx X w w') (hx : ∀ k, X k → r < k) : Rd w' r l ix := by
  obtain ⟨a, cap, h1, h2, h3, h4⟩ := h
  exact ⟨a, cap, h1.bx hb (fun hh => by have := hx r hh; omega), h2.bx hb (fun p hp hh => by have := hx _ hh; have := h3 p hp; omega), h3, h4⟩
theorem Rd.below {w w' : World} {r : Nat} {l : List Int} {ix : Nat} (h : Rd w r l ix) (hb : Below w.heap.size w w') : Rd w' r l ix :=
  h.bx (X := fun _ => False) (Bx.of hb) (fun _ hh => hh.elim)

set_option maxRecDepth 100000 in
set_option maxHeartbeats 400000 in
theorem none_rd (w : World) (r : Nat) (l : List Int) (ix : Nat) (h : Rd w r l ix) :
    Calls Try.prog 48 #[.pointer (some ⟨r, 0, none⟩)] w fun e w' => e = .returned (.bool false) ∧ w = w' := by
  obtain ⟨a, cap, h1, _⟩ := h
  have c1 := h1.c1
  go_enter Try.func48, Try.ntmps48
  go_wp2
  go_ret
  exact ⟨rfl, rfl⟩

set_option maxRecDepth 100000 in
set_option maxHeartbeats 400000 in
theorem place_rd (w : World) (r : Nat) (l : List Int) (ix : Nat) (h : Rd w r l ix) :
    Calls Try.prog 49 #[.pointer (some ⟨r, 0, none⟩)] w fun e w' => e = .returned (.int .i64 ix) ∧ Draws w w' := by
  obtain ⟨a, cap, h1, h2, h3, h4, h5⟩ := h
  have c0 := h1.c0
  have c2 := h1.c2
  go_enter Try.func49, Try.ntmps49
  go_wp2_with fail
  go_quiet (fail)
  go_wp2
  go_ret
  exact ⟨ret_num (by omega), _, rfl⟩

set_option maxRecDepth 100000 in
set_option maxHeartbeats 400000 in
theorem at_rd (w : World) (r : Nat) (l : List Int) (ix : Nat) (h : Rd w r l ix) :
    Calls Try.prog 21 #[.pointer (some ⟨r, 0, none⟩)] w fun e w' => e = .returned (.int .i64 ix) ∧ Draws w w' := by
  go_enter Try.func21, Try.ntmps21
  go_wp2_with (first
    | (go_at_call 48; refine (none_rd _ r l ix h).mono ?_; rintro e w' ⟨rfl, rfl⟩)
    | (go_at_call 49; refine (place_rd _ r l ix h).mono ?_; rintro e w' ⟨rfl, hD⟩))
  go_ret
  exact ⟨rfl, hD⟩

set_option maxRecDepth 100000 in
set_option maxHeartbeats 400000 in
theorem left_rd (w : World) (r : Nat) (l : List Int) (ix : Nat) (h : Rd w r l ix) :
    Calls Try.prog 22 #[.pointer (some ⟨r, 0, none⟩)] w fun e w' => e = .returned (.int .i64 ((l.length : Int) - ix)) ∧ w = w' := by
  have h0 := h
  obtain ⟨a, cap, h1, h2, h3, h4, h5⟩ := h
  have c0 := h1.c0
  go_enter Try.func22, Try.ntmps22
  go_wp2_with (go_at_call 48; refine (none_rd _ r l ix h0).mono ?_; rintro e w' ⟨rfl, rfl⟩)
  go_ret
  exact ⟨rfl, rfl⟩

set_option maxRecDepth 100000 in
set_option maxHeartbeats 400000 in
theorem end_rd (w : World) (r : Nat) (l : List Int) (ix : Nat) (h : Rd w r l ix) :
    Calls Try.prog 23 #[.pointer (some ⟨r, 0, none⟩)] w fun e w' => e = .returned (.int .i64 (endE l.length ix)) ∧ w = w' := by
  have h0 := h
  obtain ⟨a, cap, h1, h2, h3, h4, h5⟩ := h
  have c0 := h1.c0
  by_cases hi : ix < l.length
  · have hb : decide (ix < l.length) = true := by simp; omega
    have he : endE l.length ix = 22 := by unfold endE; rw [if_pos hi]
    have HE := Lib.hid he
    clear he hi h4
    go_enter Try.func23, Try.ntmps23
    go_wp2_with (go_at_call 48; refine (none_rd _ r l ix h0).mono ?_; rintro e w' ⟨rfl, rfl⟩)
    go_ret
    exact ⟨ret_num HE.out.symm, rfl⟩
  · have hb : decide (ix < l.length) = false := by simp; omega
    have he : endE l.length ix = 0 := by unfold endE; rw [if_neg hi]
    have HE := Lib.hid he
    clear he hi h4
    go_enter Try.func23, Try.ntmps23
    go_wp2_with (go_at_call 48; refine (none_rd _ r l ix h0).mono ?_; rintro e w' ⟨rfl, rfl⟩)
    go_ret
    exact ⟨ret_num HE.out.symm, rfl⟩

theorem tail_block {a : Option Addr} {r cap ix : Nat} (h : ∀ p, a = some p → p.block < r) : ∀ p, (if cap = ix then a else a.map (fun x => x.add ix)) = some p → p.block < r := by
  intro p hp
  split at hp
  · exact h p hp
  · cases a with
    | none => simp at hp
    | some q => simp at hp; subst hp; have := h q rfl; unfold Addr.add; split <;> simpa using this

set_option maxRecDepth 100000 in
set_option maxHeartbeats 1000000 in
theorem take_rd (w : World) (r : Nat) (l : List Int) (ix n : Nat) (h : Rd w r l ix) (hn : ix + n ≤ l.length) :
    Calls Try.prog 53 #[.pointer (some ⟨r, 0, none⟩), .int .i64 n] w fun e w' => ∃ a2 c2, e = .returned (.slice a2 n c2) ∧ Sl .u8 w' a2 n c2 ((l.drop ix).take n) ∧ (∀ p, a2 = some p → p.block < r) ∧ Rd w' r l (ix + n) ∧ Bx (Only r) w w' := by
  have h0 := h
  obtain ⟨a, cap, h1, h2, h3, h4, h5⟩ := h
  have c0 := h1.c0
  have c2 := h1.c2
  have f0 := h1.f0
  have hcap := h2.2.1
  have hcm := h2.2.2.1
  go_enter Try.func53, Try.ntmps53
  go_wp2_with fail
  refine (place_rd _ r l ix h0).mono ?_
  rintro e w1 ⟨rfl, hD⟩
  have hB1 := hD.below
  have hT1 : Tri w1 r 83 (.int .i64 ((l.length : Int) - ix)) (.bool true) (.slice a l.length cap) := h1.below hB1 h1.lt
  have hT2 := hT1.set0 (.int .i64 ((l.length : Int) - ix - n))
  have d0 := hT1.c0
  have d2 := hT2.c2
  have g0 := hT1.f0
  have hX : Bx (Only r) w (w1.setCell ⟨r, 0, none⟩ (.int .i64 ((l.length : Int) - ix - n))) := (Bx.of hB1).setCell (Only.me r) _
  have hs3 := (h2.below hB1).bx (X := (Only r)) ((Bx.refl _ w1).setCell (p := ⟨r, 0, none⟩) (Only.me r) (.int .i64 ((l.length : Int) - ix - n))) (fun p hp => Only.ne (by have := h3 p hp; omega))
  clear hD hB1 hT1 c0 c2 f0 h1 h2 h0
  have hle1 : (ix : Int) + n ≤ (cap : Int) := by omega
  have hle2 : (ix : Int) ≤ (ix : Int) + n := by omega
  have hTl := Lib.hid ((hs3.tail h4).upto n (by omega))
  have hTb := Lib.hid (tail_block (cap := cap) (ix := ix) h3)
  have hR : Rd (w1.setCell ⟨r, 0, none⟩ (.int .i64 ((l.length : Int) - ix - n))) r l (ix + n) :=
    ⟨a, cap, by have : (l.length : Int) - ((ix + n : Nat) : Int) = (l.length : Int) - ix - n := by omega
                rw [this]; exact hT2, hs3, h3, hn, h5⟩
  clear hs3 hT2 h3
  go_wp2
  · have hc : cap = ix := by assumption
    have h6 := hTl.out
    have h7 := hTb.out
    have h8 : cap - ix = 0 := by omega
    rw [if_pos hc, h8] at h6
    simp only [if_pos hc] at h7
    go_ret
    exact ⟨_, _, rfl, h6, h7, hR, hX⟩
  · have hc : ¬ cap = ix := by assumption
    have h6 := hTl.out
    have h7 := hTb.out
    rw [if_neg hc] at h6
    simp only [if_neg hc] at h7
    go_ret
    exact ⟨_, _, rfl, h6, h7, hR, hX⟩
end Go.Proofs.Ytakpockkagfphaa
