/-
  The contracts of bytes.Clone, of NewReader, and of a reader's Bytes. No condition but those in each statement.
-/
import Derived.Test.YtakpockkagfphaaCum
namespace Go.Proofs.Ytakpockkagfphaa
open Go.RowKit Go.Shelf

/-- A slice of the call's own that reads as the list. -/
def Fresh (w : World) (l : List Int) (e : Ending) (w' : World) : Prop :=
  ∃ a c, e = .returned (.slice a l.length c) ∧ w'.ownsRow w.heap.size 5 1 (.slice a l.length c) l.length (l.map (Value.int .u8)) ∧ Below w.heap.size w w'

set_option maxRecDepth 100000 in
set_option maxHeartbeats 1000000 in
theorem clone_any (w : World) (a : Option Addr) (cap : Nat) (l : List Int) (hs : Sl .u8 w a l.length cap l) (hlen : l.length ≤ 140737488355000) :
    Calls Try.prog 47 #[.slice a l.length cap] w (Fresh w l) := by
  obtain ⟨i0, hinf, hz0, hz1, hz2⟩ := info_parts infoU8
  cases a with
  | none =>
    have hl : l = [] := by
      rcases hs.2.2.2 with ⟨h, _⟩ | ⟨b, off, h, _⟩
      · exact List.eq_nil_of_length_eq_zero h
      · cases h
    subst hl
    have hcap : cap = 0 := by
      rcases hs.2.2.2 with ⟨_, h⟩ | ⟨b, off, h, _⟩
      · exact h
      · cases h
    subst hcap
    have he : ∀ w : World, (binOp .eql 22 (.slice none 0 0) (.slice none 0 0)).run Try.prog w = .ok (.bool true) w := fun _ => rfl
    clear hs
    go_enter Try.func47, Try.ntmps47
    go_wp2
    go_ret
    exact ⟨none, 0, rfl, World.ownsRow_nil _ _ _ _, Below.refl _ _⟩
  | some p =>
    have hB0 : Below w.heap.size w (w.alloc (.cells #[] 5)) := (Below.refl _ _).alloc (Nat.le_refl _) _
    have hs2 := hs.below hB0
    have hE := own_empty w 5 w.heap.size (Nat.le_refl _)
    have he : ∀ w : World, (binOp .eql 22 (.slice (some p) l.length cap) (.slice none 0 0)).run Try.prog w = .ok (.bool false) w := fun _ => rfl
    clear hs
    go_enter Try.func47, Try.ntmps47
    go_wp2_with (at_builtin; refine wpList_append_onsl _ rfl (.tmp 5) (.tmp 6) 22 rfl .u8 w.heap.size 5 i0 1 Try.underlying22 hinf hz0 hz1 hz2 _ [] (some p) l.length cap l rfl rfl hE hs2 (by unfold maxLen; simp; omega) (by simp; omega) (by simp) ?_)
    intro v1 w1 hown1 hgrow1
    have hBf : Below w.heap.size w w1 := hB0.grown hgrow1 (by simp) (fun k hk => by simp [Value.ownBlock] at hk; omega)
    obtain ⟨a', c', rfl⟩ := own_shape hown1
    have hown2 : w1.ownsRow w.heap.size 5 1 (.slice a' l.length c') l.length (l.map (Value.int .u8)) := by simpa using hown1
    go_wp2
    go_ret
    exact ⟨a', c', rfl, hown2, hBf⟩

set_option maxRecDepth 100000 in
set_option maxHeartbeats 1000000 in
theorem newReader_any (w : World) (a : Option Addr) (cap : Nat) (l : List Int) (hs : Sl .u8 w a l.length cap l) (hlen : l.length ≤ 140737488355000) :
    Calls Try.prog 19 #[.slice a l.length cap] w fun e w' => ∃ r, e = .returned (.pointer (some ⟨r, 0, none⟩)) ∧ w.heap.size ≤ r ∧ Rd w' r l 0 ∧ Below w.heap.size w w' := by
  go_enter Try.func19, Try.ntmps19
  go_wp2_with fail
  refine (clone_any _ a cap l hs hlen).mono ?_
  rintro e w1 ⟨a1, c1, rfl, hown, hB1⟩
  have hT := Tri.new w1 83 (.int .i64 (l.length : Int)) (.bool true) (.slice a1 l.length c1)
  have hsl := (own_sl hown).below ((Below.refl w1.heap.size w1).alloc (Nat.le_refl _) (.cells #[.int .i64 (l.length : Int), .bool true, .slice a1 l.length c1] 83))
  have hbk := own_block hown
  have hBf := hB1.alloc hB1.size (.cells #[.int .i64 (l.length : Int), .bool true, .slice a1 l.length c1] 83)
  have hsz := hB1.size
  go_wp2
  go_ret
  exact ⟨w1.heap.size, rfl, hsz, ⟨a1, c1, by simpa using hT, hsl, fun p hp => (hbk p hp).2, Nat.zero_le _, hlen⟩, hBf⟩

/-- What Bytes returns. -/
def BRes (r : Nat) (l : List Int) (ix : Nat) (n : Int) (w : World) (e : Ending) (w' : World) : Prop :=
  ∃ a2 c2, e = .returned (.tuple #[.slice a2 (tkL l ix n).length c2, .int .i64 (tkE l.length ix n)]) ∧ w'.ownsRow w.heap.size 5 1 (.slice a2 (tkL l ix n).length c2) (tkL l ix n).length ((tkL l ix n).map (Value.int .u8)) ∧ Rd w' r l (ix + (tkL l ix n).length) ∧ Bx (Only r) w w'
theorem BRes.err {r : Nat} {l : List Int} {ix : Nat} {n e : Int} {w w' : World} (he : tkE l.length ix n = e) (h0 : e ≠ 0) (h : Rd w' r l ix) (hx : Bx (Only r) w w') : BRes r l ix n w (.returned (.tuple #[.slice none 0 0, .int .i64 e])) w' := by
  have h1 : tkL l ix n = [] := by unfold tkL; rw [if_neg (by rw [he]; exact h0)]
  unfold BRes
  rw [h1, he]
  exact ⟨none, 0, rfl, World.ownsRow_nil _ _ _ _, h, hx⟩

set_option maxRecDepth 100000 in
set_option maxHeartbeats 1000000 in
theorem bytes_any (w : World) (r : Nat) (l : List Int) (ix : Nat) (n : Int) (h : Rd w r l ix) :
    Calls Try.prog 26 #[.pointer (some ⟨r, 0, none⟩), .int .i64 n] w (BRes r l ix n w) := by
  obtain ⟨a, cap, h1, h2, h3, h4, h5⟩ := id h
  have c0 := h1.c0
  by_cases hn : n < 0
  · have hb1 : decide (n < 0) = true := by simp; omega
    have HE := Lib.hid (tkE_neg (len := l.length) (ix := ix) hn)
    clear hn h1 h2 h3
    go_enter Try.func26, Try.ntmps26
    go_wp2_with (go_at_call 48; refine (none_rd _ r l ix h).mono ?_; rintro e w' ⟨rfl, rfl⟩)
    go_ret2
    exact BRes.err HE.out (by decide) h (Bx.refl _ _)
  · have hb1 : decide (n < 0) = false := by simp; omega
    by_cases hm : (l.length : Int) - ix < n
    · have hb2 : decide ((l.length : Int) - ix < n) = true := by simp; omega
      have HE := Lib.hid (tkE_end hn hm)
      clear hn hm h1 h2 h3
      go_enter Try.func26, Try.ntmps26
      go_wp2_with (go_at_call 48; refine (none_rd _ r l ix h).mono ?_; rintro e w' ⟨rfl, rfl⟩)
      go_ret2
      exact BRes.err HE.out (by decide) h (Bx.refl _ _)
    · have hb2 : decide ((l.length : Int) - ix < n) = false := by simp; omega
      obtain ⟨m, rfl⟩ : ∃ m : Nat, n = m := ⟨n.toNat, by omega⟩
      have hle : ix + m ≤ l.length := by omega
      have he : tkE l.length ix (m : Int) = 0 := tkE_ok (by omega) (by omega)
      have hL : tkL l ix (m : Int) = (l.drop ix).take m := by unfold tkL; rw [if_pos he]; rfl
      have hLl : ((l.drop ix).take m).length = m := by simp; omega
      have HE := Lib.hid he
      have HL := Lib.hid hL
      have HM := Lib.hid hLl
      clear hn hm h1 h2 h3 he hL hLl
      go_enter Try.func26, Try.ntmps26
      go_wp2_with (go_at_call 48; refine (none_rd _ r l ix h).mono ?_; rintro e w' ⟨rfl, rfl⟩)
      refine (take_rd _ r l ix m h hle).mono ?_
      rintro e w1 ⟨a2, c2, rfl, hs2, hbk, hR2, hX2⟩
      have hl2 := hs2.1
      have hcl := clone_any w1 a2 c2 ((l.drop ix).take m) (by rw [hl2]; exact hs2) (by omega)
      rw [hl2] at hcl
      have HC := Lib.hid hcl
      clear hcl hl2 hs2 hbk
      go_wp2_with fail
      refine HC.out.mono ?_
      rintro e w2 ⟨a3, c3, rfl, hown, hB2⟩
      rw [HM.out] at hown
      rw [HM.out]
      have hX3 := hX2.then hB2
      go_wp2_with fail
      go_ret2
      unfold BRes
      rw [HL.out, HE.out, HM.out]
      exact ⟨a3, c3, rfl, own_base hown hX2.size, hR2.below hB2, hX3⟩
end Go.Proofs.Ytakpockkagfphaa
