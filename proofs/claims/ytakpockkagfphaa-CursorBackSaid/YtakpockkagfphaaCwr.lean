/-
  A writer in memory, and the contracts of its methods. No condition but those in each statement.
-/
import Derived.Test.YtakpockkagfphaaCub
import Derived.Test.YtakpockkagfphaaPutb
namespace Go.Proofs.Ytakpockkagfphaa
open Go.RowKit Go.Shelf

/-- 'append(v, b...)', v the call's own, b whatever; and where the new slice lies. -/
theorem wpList_append_onat {P : Program} (w : World) {ops : Array Oper} {rest : List Oper} {o : Oper} {a : Act} {Q : Exit → Act → World → Prop}
    (hg : o.guard = none) (s x : Operand) (t : TypeId) (hop : o.op = Op.call { callee := Callee.builtin Builtin.append, args := #[s, x], argTypes := #[t, t] })
    (k : IntKind) (base : Nat) (e : TypeId) (i : TypeInfo) (bytes : Nat) (h1 : P.underlying t = some (.slice e)) (h2 : P.info? e = some i) (h3 : i.zero = some (.int k 0)) (h4 : i.size = 1) (h5 : i.bytes = bytes)
    (v : Value) (l1 : List Int) (a2 : Option Addr) (m c : Nat) (l2 : List Int) (hs : a.eval s = v) (hx : a.eval x = .slice a2 m c) (s1 : w.ownsRow base e 1 v l1.length (l1.map (Value.int k))) (s2 : Sl k w a2 m c l2)
    (b1 : l1.length + m ≤ maxLen) (b2 : (l1.length + m) * bytes ≤ 140737488355328) (b3 : base ≤ w.heap.size)
    (hK : ∀ v' w', w'.ownsRow base e 1 v' (l1 ++ l2).length ((l1 ++ l2).map (Value.int k)) → w.grownBy w' v.ownBlock → (v'.ownBlock = v.ownBlock ∨ v'.ownBlock = some w.heap.size) → wpList P ops Q rest (a.put o.dst v') w') :
    wpList P ops Q (o :: rest) a w := by
  by_cases hm : m = 0
  · subst hm
    obtain ⟨a1, cap1, rfl⟩ := own_shape s1
    have hcap : l1.length ≤ cap1 := (own_sl s1).2.1
    refine wpList_plain hg fun K hK' => ?_
    have hrun := run_append_zero (P := P) w t o.type e i h1 h2 a1 a2 l1.length cap1 c hcap
    unfold Oper.wp
    simp [execOp, hop, resolve, invoke, builtin, hs, hx, hrun, Result.andThen]
    have hl2 : l2 = [] := List.eq_nil_of_length_eq_zero s2.1
    subst hl2
    exact hK' _ _ (hK _ w (by simpa using s1) (World.grownBy.refl _ _) (.inl rfl))
  · have s2' := s2
    obtain ⟨e1, e2, e3, e4⟩ := s2
    rcases e4 with ⟨e5, _⟩ | ⟨b, off, rfl, hlt, hc⟩
    · omega
    refine wpList_plain hg fun K hK' => ?_
    exact wp_append_lies w s x t hop base e i (.int k 0) 1 bytes h1 h2 h3 h4 h5 rfl (by decide) v l1.length (l1.map (Value.int k)) hs s1 ⟨b, off, none⟩ m c (l2.map (Value.int k)) hx (by simp [e1]) (s2'.olds (by omega)) (ints_one k l2) (by omega) b1 b2 b3 w.heap.size rfl
      (fun g cap w' hown hgrow hat _ => hK' _ _ (hK _ w' (by rw [List.length_append, e1, List.map_append]; exact hown) hgrow (by rcases hat with h | h; exact .inl h.symm; exact .inr (by rw [h]; rfl))))

/-- A writer with a limit, that has the bytes l; v is its slice of them. -/
def Wr (w : World) (r : Nat) (lim : Int) (v : Value) (l : List Int) : Prop :=
  Tri w r 85 (.int .i64 (lim - l.length)) (.bool true) v ∧ w.ownsRow (r + 1) 5 1 v l.length (l.map (Value.int .u8)) ∧ (l.length : Int) ≤ lim ∧ lim ≤ 16777216
/-- The writer's own blocks. -/
def Mine (r : Nat) (v : Value) : Nat → Prop := fun k => k = r ∨ v.ownBlock = some k
theorem Mine.ge {w : World} {r : Nat} {lim : Int} {v : Value} {l : List Int} (h : Wr w r lim v l) {k : Nat} (hk : Mine r v k) : r ≤ k := by
  rcases hk with rfl | hk
  · exact Nat.le_refl _
  · have := (h.2.1.lt k hk).1; omega
theorem Wr.lt {w : World} {r : Nat} {lim : Int} {v : Value} {l : List Int} (h : Wr w r lim v l) : r < w.heap.size := h.1.lt
theorem Wr.ownlt {w : World} {r : Nat} {lim : Int} {v : Value} {l : List Int} (h : Wr w r lim v l) {k : Nat} (hk : Mine r v k) : k < w.heap.size := by
  rcases hk with rfl | hk
  · exact h.lt
  · exact (h.2.1.lt k hk).2
theorem Wr.bx {X : Nat → Prop} {w w' : World} {r : Nat} {lim : Int} {v : Value} {l : List Int} (h : Wr w r lim v l) (hb : Bx X w w') (hx : ∀ k, Mine r v k → ¬ X k) : Wr w' r lim v l :=
  ⟨h.1.bx hb (hx r (.inl rfl)), own_bx h.2.1 hb (fun k hk => hx k (.inr hk)), h.2.2⟩
theorem Wr.below {w w' : World} {r : Nat} {lim : Int} {v : Value} {l : List Int} (h : Wr w r lim v l) (hb : Below w.heap.size w w') : Wr w' r lim v l :=
  h.bx (X := fun _ => False) (Bx.of hb) (fun _ _ hh => hh)

set_option maxRecDepth 100000 in
set_option maxHeartbeats 400000 in
theorem none_wr (w : World) (r : Nat) (lim : Int) (v : Value) (l : List Int) (h : Wr w r lim v l) :
    Calls Try.prog 46 #[.pointer (some ⟨r, 0, none⟩)] w fun e w' => e = .returned (.bool false) ∧ w = w' := by
  have c1 := h.1.c1
  go_enter Try.func46, Try.ntmps46
  go_wp2
  go_ret
  exact ⟨rfl, rfl⟩

set_option maxRecDepth 100000 in
set_option maxHeartbeats 400000 in
theorem len_wr (w : World) (r : Nat) (lim : Int) (v : Value) (l : List Int) (h : Wr w r lim v l) :
    Calls Try.prog 17 #[.pointer (some ⟨r, 0, none⟩)] w fun e w' => e = .returned (.int .i64 l.length) ∧ w = w' := by
  have c2 := h.1.c2
  obtain ⟨a, c, rfl⟩ := own_shape h.2.1
  go_enter Try.func17, Try.ntmps17
  go_wp2_with (go_at_call 46; refine (none_wr _ r lim _ l h).mono ?_; rintro e w' ⟨rfl, rfl⟩)
  go_ret
  exact ⟨rfl, rfl⟩

set_option maxRecDepth 100000 in
set_option maxHeartbeats 400000 in
theorem out_wr (w : World) (r : Nat) (lim : Int) (v : Value) (l : List Int) (h : Wr w r lim v l) :
    Calls Try.prog 18 #[.pointer (some ⟨r, 0, none⟩)] w (Fresh w l) := by
  have c2 := h.1.c2
  obtain ⟨a, c, rfl⟩ := own_shape h.2.1
  have hsl := own_sl h.2.1
  have hl := h.2.2
  have HC := Lib.hid (clone_any w a c l hsl (by omega))
  clear hsl
  go_enter Try.func18, Try.ntmps18
  go_wp2_with (go_at_call 46; refine (none_wr _ r lim _ l h).mono ?_; rintro e w' ⟨rfl, rfl⟩)
  refine HC.out.mono ?_
  rintro e w2 ⟨a3, c3, rfl, hown, hB2⟩
  go_wp2_with fail
  go_ret
  exact ⟨a3, c3, rfl, hown, hB2⟩

set_option maxRecDepth 100000 in
set_option maxHeartbeats 400000 in
theorem newWriter_arg (w : World) (lim : Int) (h : lim < 0 ∨ 16777216 < lim) :
    Calls Try.prog 15 #[.int .i64 lim] w fun e w' => e = .returned (.tuple #[.pointer none, .int .i64 2]) ∧ w = w' := by
  by_cases h1 : lim < 0
  · have hb : decide (lim < 0) = true := by simp; omega
    clear h h1
    go_enter Try.func15, Try.ntmps15
    go_wp2
    go_ret2
    exact ⟨rfl, rfl⟩
  · have hb : decide (lim < 0) = false := by simp; omega
    have hb2 : decide (16777216 < lim) = true := by simp; omega
    clear h h1
    go_enter Try.func15, Try.ntmps15
    go_wp2
    go_ret2
    exact ⟨rfl, rfl⟩

set_option maxRecDepth 100000 in
set_option maxHeartbeats 400000 in
theorem newWriter_ok (w : World) (lim : Int) (h : ¬ (lim < 0 ∨ 16777216 < lim)) :
    Calls Try.prog 15 #[.int .i64 lim] w fun e w' => e = .returned (.tuple #[.pointer (some ⟨w.heap.size, 0, none⟩), .int .i64 0]) ∧ Wr w' w.heap.size lim (.slice none 0 0) [] ∧ Below w.heap.size w w' := by
  have hb : decide (lim < 0) = false := by simp; omega
  have hb2 : decide (16777216 < lim) = false := by simp; omega
  have hT := Tri.new w 85 (.int .i64 lim) (.bool true) (.slice none 0 0)
  go_enter Try.func15, Try.ntmps15
  go_wp2
  go_ret2
  exact ⟨rfl, ⟨by simpa using hT, World.ownsRow_nil _ _ _ _, by simp; omega, by omega⟩, (Below.refl _ _).alloc (Nat.le_refl _) _⟩

/-- What a call returns that writes the bytes m. -/
def WRes (r : Nat) (lim : Int) (v : Value) (l m : List Int) (w : World) (e : Ending) (w' : World) : Prop :=
  if lim < (l.length : Int) + m.length then e = .returned (.int .i64 4) ∧ Below w.heap.size w w'
  else e = .returned (.int .i64 0) ∧ ∃ v', Wr w' r lim v' (l ++ m) ∧ Bx (Mine r v) w w' ∧ (∀ k, v'.ownBlock = some k → v.ownBlock = some k ∨ w.heap.size ≤ k)

set_option maxRecDepth 100000 in
set_option maxHeartbeats 1000000 in
theorem wbytes_any (w : World) (r : Nat) (lim : Int) (v : Value) (l m : List Int) (a : Option Addr) (cap : Nat) (h : Wr w r lim v l) (hs : Sl .u8 w a m.length cap m) (hm : m.length ≤ 70368744177000) :
    Calls Try.prog 30 #[.pointer (some ⟨r, 0, none⟩), .slice a m.length cap] w (WRes r lim v l m w) := by
  have c0 := h.1.c0
  have c2 := h.1.c2
  have hl2 := h.2.2
  by_cases hf : lim < (l.length : Int) + m.length
  · have hb : decide (lim - (l.length : Int) < (m.length : Int)) = true := by simp; omega
    have HR : WRes r lim v l m w = fun e w' => e = .returned (.int .i64 4) ∧ Below w.heap.size w w' := by
      funext e w'; unfold WRes; rw [if_pos hf]
    rw [HR]
    clear HR hf
    go_enter Try.func30, Try.ntmps30
    go_wp2_with (go_at_call 46; refine (none_wr _ r lim _ l h).mono ?_; rintro e w' ⟨rfl, rfl⟩)
    go_ret
    exact ⟨rfl, Below.refl _ _⟩
  · have hb : decide (lim - (l.length : Int) < (m.length : Int)) = false := by simp; omega
    have HR : WRes r lim v l m w = fun e w' => e = .returned (.int .i64 0) ∧ ∃ v', Wr w' r lim v' (l ++ m) ∧ Bx (Mine r v) w w' ∧ (∀ k, v'.ownBlock = some k → v.ownBlock = some k ∨ w.heap.size ≤ k) := by
      funext e w'; unfold WRes; rw [if_neg hf]
    rw [HR]
    obtain ⟨i0, hinf, hz0, hz1, hz2⟩ := info_parts infoU8
    have hlt := h.lt
    have hown := h.2.1
    go_enter Try.func30, Try.ntmps30
    go_wp2_with (first
      | (go_at_call 46; refine (none_wr _ r lim _ l h).mono ?_; rintro e w' ⟨rfl, rfl⟩)
      | (at_builtin; refine wpList_append_onat _ rfl (.tmp 21) (.tmp 22) 22 rfl .u8 (r + 1) 5 i0 1 Try.underlying22 hinf hz0 hz1 hz2 v l a m.length cap m rfl rfl hown hs (by unfold maxLen; omega) (by omega) (by omega) ?_))
    intro v1 w1 hown1 hgrow1 hat1
    obtain ⟨a1, c1, rfl⟩ := own_shape hown1
    have hne : ∀ k, v.ownBlock = some k → r + 1 ≤ k := fun k hk => (hown.lt k hk).1
    have hX1 : Bx (Mine r v) w w1 := (Bx.refl _ w).grown hgrow1 (fun k hk => .inl (.inr hk))
    have hT1 : Tri w1 r 85 (.int .i64 (lim - l.length)) (.bool true) v :=
      (hgrow1.block r hlt (fun e => by have := hne r e.symm; omega)).trans h.1
    have hT2 := hT1.set2 (.slice a1 (l.length + m.length) c1)
    have hT3 := hT2.set0 (.int .i64 (lim - l.length - m.length))
    have d2 := hT1.c2
    have f2 := hT1.f2
    have d0 := hT2.c0
    have f0 := hT2.f0
    have hX3 := (hX1.setCell (p := ⟨r, 2, none⟩) (.inl rfl) (.slice a1 (l.length + m.length) c1)).setCell (p := ⟨r, 0, none⟩) (.inl rfl) (.int .i64 (lim - l.length - m.length))
    have hown3 := own_set (own_set hown1 r 2 (.slice a1 (l.length + m.length) c1) (by omega)) r 0 (.int .i64 (lim - l.length - m.length)) (by omega)
    clear hT1 hT2 hX1 hgrow1 hown1 c0 c2 hs hown hinf hz0 hz1 hz2
    go_wp2_with fail
    go_ret
    refine ⟨rfl, .slice a1 (l.length + m.length) c1, ⟨?_, ?_, by simp; omega, hl2.2⟩, hX3, ?_⟩
    · have : lim - (((l ++ m).length : Nat) : Int) = lim - l.length - m.length := by simp; omega
      rw [this]; exact hT3
    · rw [List.length_append, List.map_append]; exact hown3
    · intro k hk
      rcases hat1 with h1 | h1
      · exact .inl (by rw [← h1]; exact hk)
      · right
        rw [h1] at hk
        simp at hk
        omega
end Go.Proofs.Ytakpockkagfphaa
