/-
  The contract of 'writes': whatever calls, a writer and the reference's agree. No condition but those in each statement.
-/
import Derived.Test.YtakpockkagfphaaRds
import Derived.Deep.Cut
import Derived.Deep.CutBlock
import Derived.Deep.CutRange
import Derived.Deep.DeepCutAuto
namespace Go.Proofs.Ytakpockkagfphaa
open Go.RowKit Go.Shelf

set_option maxRecDepth 100000 in
set_option maxHeartbeats 1000000 in
theorem writes_long (w : World) (lim : Int) (aa : Option Addr) (an ac : Nat) (h : 100 < an) :
    Calls Try.prog 13 #[.int .i64 lim, .slice aa an ac] w fun e w' => e = .returned (.bool true) ∧ Below w.heap.size w w' := by
  go_enter Try.func13, Try.ntmps13
  go_wp2_with fail
  go_ret
  exact ⟨rfl, Below.refl _ _⟩

set_option maxRecDepth 100000 in
set_option maxHeartbeats 1000000 in
theorem writes_arg (w : World) (lim : Int) (aa : Option Addr) (an ac : Nat) (hn : an ≤ 100) (h : lim < 0 ∨ 16777216 < lim) :
    Calls Try.prog 13 #[.int .i64 lim, .slice aa an ac] w fun e w' => e = .returned (.bool true) ∧ Below w.heap.size w w' := by
  have hN := Lib.hid (newWriter_arg w lim h)
  by_cases h1 : lim < 0
  · have hb : decide (lim < 0) = true := by simp; omega
    clear h
    go_enter Try.func13, Try.ntmps13
    go_wp2_with fail
    refine hN.out.mono ?_
    rintro e w' ⟨rfl, rfl⟩
    go_wp2_with fail
    go_ret
    exact ⟨rfl, Below.refl _ _⟩
  · have hb : decide (lim < 0) = false := by simp; omega
    have hb2 : decide (16777216 < lim) = true := by simp; omega
    clear h
    go_enter Try.func13, Try.ntmps13
    go_wp2_with fail
    refine hN.out.mono ?_
    rintro e w' ⟨rfl, rfl⟩
    go_wp2_with fail
    go_ret
    exact ⟨rfl, Below.refl _ _⟩

/-- What stays in a region that reads one cell. -/
def RSt1 (w : World) (b : Nat) (v : Value) (w' : World) : Prop := Below w.heap.size w w' ∧ w'.cell? ⟨b, 1, none⟩ = some v
theorem RSt1.step {w w1 w2 : World} {b : Nat} {v : Value} (h : RSt1 w b v w1) (hb : Below w1.heap.size w1 w2) : RSt1 w b v w2 :=
  ⟨h.1.trans (hb.mono h.1.size), (hb.cell (World.block_lt_of_cell? w1 _ h.2)).trans h.2⟩
theorem RSt1.drew {w w1 : World} {b : Nat} {v : Value} (h : RSt1 w b v w1) : RSt1 w b v w1.drew := h.step (Below.refl _ _).drew

/-- What holds between two calls: the writer has the bytes l, and so has the reference's. -/
def Inv (w0 : World) (r b7 : Nat) (lim : Int) (wx : World) (v : Value) (l : List Int) (sa : Option Addr) (sc : Nat) : Prop :=
  Wr wx r lim v l ∧ Two wx b7 76 (.int .i64 lim) (.slice sa l.length sc) ∧ Sl .u8 wx sa l.length sc l ∧ (∀ p, sa = some p → ¬ Mine r v p.block ∧ p.block ≠ b7 ∧ p.block < wx.heap.size) ∧ (∀ k, v.ownBlock = some k → b7 < k) ∧ r < b7 ∧ w0.heap.size ≤ r ∧ Below w0.heap.size w0 wx
/-- The writer has the bytes L, the reference's has l still. -/
def Half (w0 : World) (r b7 : Nat) (lim : Int) (wx : World) (v : Value) (L l : List Int) (sa : Option Addr) (sc : Nat) : Prop :=
  Wr wx r lim v L ∧ Two wx b7 76 (.int .i64 lim) (.slice sa l.length sc) ∧ Sl .u8 wx sa l.length sc l ∧ (∀ p, sa = some p → ¬ Mine r v p.block ∧ p.block ≠ b7 ∧ p.block < wx.heap.size) ∧ (∀ k, v.ownBlock = some k → b7 < k) ∧ r < b7 ∧ w0.heap.size ≤ r ∧ Below w0.heap.size w0 wx

theorem Half.below {w0 : World} {r b7 : Nat} {lim : Int} {wx wy : World} {v : Value} {L l : List Int} {sa : Option Addr} {sc : Nat} (h : Half w0 r b7 lim wx v L l sa sc) (hb : Below wx.heap.size wx wy) : Half w0 r b7 lim wy v L l sa sc := by
  obtain ⟨h1, h2, h3, h4, h5, h6, h7, h8⟩ := h
  exact ⟨h1.below hb, h2.bl hb, h3.below hb, fun p hp => ⟨(h4 p hp).1, (h4 p hp).2.1, Nat.lt_of_lt_of_le (h4 p hp).2.2 hb.size⟩, h5, h6, h7, step_below h8 hb (Nat.le_refl _)⟩
theorem Inv.below {w0 : World} {r b7 : Nat} {lim : Int} {wx wy : World} {v : Value} {l : List Int} {sa : Option Addr} {sc : Nat} (h : Inv w0 r b7 lim wx v l sa sc) (hb : Below wx.heap.size wx wy) : Inv w0 r b7 lim wy v l sa sc := Half.below (L := l) h hb
/-- The reference's writer is stored as it was. -/
theorem Inv.stay {w0 : World} {r b7 : Nat} {lim : Int} {wx : World} {v : Value} {l : List Int} {sa : Option Addr} {sc : Nat} (h : Inv w0 r b7 lim wx v l sa sc) : Inv w0 r b7 lim ((wx.setCell ⟨b7, 0, none⟩ (.int .i64 lim)).setCell ⟨b7, 1, none⟩ (.slice sa l.length sc)) v l sa sc := by
  obtain ⟨h1, h2, h3, h4, h5, h6, h7, h8⟩ := h
  have hX : Bx (Only b7) wx ((wx.setCell ⟨b7, 0, none⟩ (.int .i64 lim)).setCell ⟨b7, 1, none⟩ (.slice sa l.length sc)) := ((Bx.refl _ _).setCell (p := ⟨b7, 0, none⟩) (Only.me b7) _).setCell (p := ⟨b7, 1, none⟩) (Only.me b7) _
  refine ⟨h1.bx hX (fun k hk hh => ?_), h2.set _ _, h3.bx hX (fun p hp => (h4 p hp).2.1), fun p hp => ⟨(h4 p hp).1, (h4 p hp).2.1, Nat.lt_of_lt_of_le (h4 p hp).2.2 hX.size⟩, h5, h6, h7, h8.trans (hX.below (fun k hk => by have : k = b7 := hk; omega) h8.size)⟩
  have : k = b7 := hh
  rcases hk with h | h
  · omega
  · have := h5 k h; omega
theorem Inv.bxg {w0 : World} {r b7 g : Nat} {lim : Int} {wx wy : World} {v : Value} {l : List Int} {sa : Option Addr} {sc : Nat} (h : Inv w0 r b7 lim wx v l sa sc) (hx : Bx (Only g) wx wy) (hm : ¬ Mine r v g) (hb : g ≠ b7) (hs : ∀ p, sa = some p → p.block ≠ g) (hg : w0.heap.size ≤ g) : Inv w0 r b7 lim wy v l sa sc := by
  obtain ⟨h1, h2, h3, h4, h5, h6, h7, h8⟩ := h
  exact ⟨h1.bx hx (fun k hk hh => by have : k = g := hh; subst this; exact hm hk), h2.bx hx (Only.ne (fun e => hb e.symm)), h3.bx hx (fun p hp => Only.ne (hs p hp)), fun p hp => ⟨(h4 p hp).1, (h4 p hp).2.1, Nat.lt_of_lt_of_le (h4 p hp).2.2 hx.size⟩, h5, h6, h7, h8.trans (hx.below (fun k hk => by have : k = g := hk; omega) h8.size)⟩
/-- The writer has written. -/
theorem Inv.wrote {w0 : World} {r b7 : Nat} {lim : Int} {wx wy : World} {v v' : Value} {l m : List Int} {sa : Option Addr} {sc : Nat} (h : Inv w0 r b7 lim wx v l sa sc) (hw : Wr wy r lim v' (l ++ m)) (hx : Bx (Mine r v) wx wy) (ho : ∀ k, v'.ownBlock = some k → v.ownBlock = some k ∨ wx.heap.size ≤ k) : Half w0 r b7 lim wy v' (l ++ m) l sa sc := by
  obtain ⟨h1, h2, h3, h4, h5, h6, h7, h8⟩ := h
  have hb7 : ¬ Mine r v b7 := by
    intro hh
    rcases hh with h | h
    · omega
    · have := h5 b7 h; omega
  refine ⟨hw, h2.bx hx hb7, h3.bx hx (fun p hp => (h4 p hp).1), fun p hp => ⟨fun hh => ?_, (h4 p hp).2.1, Nat.lt_of_lt_of_le (h4 p hp).2.2 hx.size⟩, fun k hk => ?_, h6, h7, h8.trans (hx.below (fun k hk => Nat.le_trans h7 (Mine.ge h1 hk)) h8.size)⟩
  · rcases hh with h | h
    · exact (h4 p hp).1 (.inl h)
    · rcases ho _ h with h9 | h9
      · exact (h4 p hp).1 (.inr h9)
      · have := (h4 p hp).2.2; omega
  · rcases ho k hk with h9 | h9
    · exact h5 k h9
    · have := h2.lt; omega
/-- The reference's writer is stored anew. -/
theorem Half.put {w0 : World} {r b7 B : Nat} {lim : Int} {wx wy : World} {v : Value} {L l : List Int} {sa a' : Option Addr} {sc c' : Nat} (h : Half w0 r b7 lim wx v L l sa sc) (hb : Below wx.heap.size wx wy) (ho : wy.ownsRow B 5 1 (.slice a' L.length c') L.length (L.map (Value.int .u8))) (hB : wx.heap.size ≤ B) : Inv w0 r b7 lim ((wy.setCell ⟨b7, 0, none⟩ (.int .i64 lim)).setCell ⟨b7, 1, none⟩ (.slice a' L.length c')) v L a' c' := by
  obtain ⟨h1, h2, h3, h4, h5, h6, h7, h8⟩ := h
  have hX : Bx (Only b7) wy ((wy.setCell ⟨b7, 0, none⟩ (.int .i64 lim)).setCell ⟨b7, 1, none⟩ (.slice a' L.length c')) := ((Bx.refl _ _).setCell (p := ⟨b7, 0, none⟩) (Only.me b7) _).setCell (p := ⟨b7, 1, none⟩) (Only.me b7) _
  have hbk := own_block ho
  have hb7 := h2.lt
  have h9 := step_below h8 hb (Nat.le_refl _)
  refine ⟨(h1.below hb).bx hX (fun k hk hh => ?_), (h2.bl hb).set _ _, (own_sl ho).bx hX (fun p hp hh => ?_), fun p hp => ⟨fun hh => ?_, ?_, ?_⟩, h5, h6, h7, h9.trans (hX.below (fun k hk => by have : k = b7 := hk; omega) h9.size)⟩
  · have : k = b7 := hh
    rcases hk with h | h
    · omega
    · have := h5 k h; omega
  · have : p.block = b7 := hh
    have := hbk p hp; omega
  · have := h1.ownlt hh; have := hbk p hp; omega
  · have := hbk p hp; omega
  · have := hbk p hp; exact Nat.lt_of_lt_of_le this.2 hX.size

set_option maxRecDepth 100000 in
set_option maxHeartbeats 4000000 in
theorem writes_go (w : World) (lim : Int) (aa : Option Addr) (an ac : Nat) (hA : Acts w aa an ac) (han : an ≤ 100) (hl0 : ¬ (lim < 0 ∨ 16777216 < lim)) :
    Calls Try.prog 13 #[.int .i64 lim, .slice aa an ac] w fun e w' => e = .returned (.bool true) ∧ Below w.heap.size w w' := by
  have hac := hA.1
  have hb : decide (lim < 0) = false := by simp; omega
  have hb2 : decide (16777216 < lim) = false := by simp; omega
  have hN := Lib.hid (newWriter_ok w lim hl0)
  go_enter Try.func13, Try.ntmps13
  go_wp2_with fail
  refine hN.out.mono ?_
  rintro e w1 ⟨rfl, hW1, hB1⟩
  have hT1 := Two.new w1 76 (.int .i64 lim) (.slice none 0 0)
  have hBa : Below w1.heap.size w1 (w1.alloc (.cells #[.int .i64 lim, .slice none 0 0] 76)) := (Below.refl _ _).alloc (Nat.le_refl _) _
  have hW2 := hW1.below hBa
  have hbel2 := step_below hB1 hBa (Nat.le_refl _)
  have hlt1 := hW1.lt
  obtain ⟨b7, hb7⟩ : ∃ b7, b7 = w1.heap.size := ⟨_, rfl⟩
  obtain ⟨r, hr⟩ : ∃ r, r = w.heap.size := ⟨_, rfl⟩
  rw [← hr] at hW2 hlt1
  rw [← hb7] at hT1 hlt1
  have HB7 := Lib.hid hb7
  have HR := Lib.hid hr
  rw [← hr]
  clear hW1 hB1 hBa hN hb7 hr
  go_wp2_with fail
  rw [← HB7.out]
  go_loopw [39] (fun i wr => ∃ (j : Nat) (l : List Int) (v : Value) (sa : Option Addr) (sc : Nat), i = .int .i64 j ∧ j ≤ an ∧ Inv w r b7 lim wr v l sa sc) (fun i _ => an - (intOf i).toNat)
  case atStart => exact ⟨0, [], .slice none 0 0, none, 0, rfl, by omega, hW2, hT1, Sl.nil _ _, (fun p hp => by cases hp), (fun k hk => by cases hk), hlt1, by rw [HR.out]; exact Nat.le_refl _, hbel2⟩
  case round =>
    obtain ⟨j, l, v, sa, sc, rfl, hj, hI⟩ := hrel
    have hbel : Below w.heap.size w wr := hI.2.2.2.2.2.2.2
    have hlim : lim ≤ 16777216 := hI.1.2.2.2
    have hllim : (l.length : Int) ≤ lim := hI.1.2.2.1
    have hb7r : b7 < wr.heap.size := hI.2.1.lt
    by_cases hlt : j < an
    · obtain ⟨bA, oA, rfl, hcells⟩ : ∃ bA oA, aa = some ⟨bA, oA, none⟩ ∧ ∀ i, i < an → ActAt w bA (oA + i * 5) := by
        rcases hA.2.2 with ⟨h, _⟩ | h
        · omega
        · exact h
      obtain ⟨kd, n, m, X, ba, bn, bc, bl, x0, x1, x2, x3, x4, y0, y1, y2, y3, hs0, y5⟩ := hcells j hlt
      have hbA : bA < w.heap.size := World.block_lt_of_cell? w _ x0
      have z0 := (hbel.cell (p := ⟨bA, oA + j * 5, none⟩) hbA).trans x0
      have z1 := (hbel.cell (p := ⟨bA, oA + j * 5 + 1, none⟩) hbA).trans x1
      have z2 := (hbel.cell (p := ⟨bA, oA + j * 5 + 2, none⟩) hbA).trans x2
      have z3 := (hbel.cell (p := ⟨bA, oA + j * 5 + 3, none⟩) hbA).trans x3
      have z4 := (hbel.cell (p := ⟨bA, oA + j * 5 + 4, none⟩) hbA).trans x4
      obtain ⟨hk0, hk1⟩ := bounds_u8 y0
      obtain ⟨hn0, hn1⟩ := bounds_i64 y1
      obtain ⟨hx0, hx1⟩ := bounds_u64 y3
      obtain rfl : bl.length = bn := hs0.1
      have y4 := hs0.below hbel
      clear hcells y0 y1 y2 y3 x0 x1 x2 x3 x4
      by_cases hbn : 100 < bl.length
      · go_wp2_with fail
        go_ret
        exact ⟨rfl, hbel.alloc hbel.size _⟩
      · have hbnb : decide (100 < bl.length) = false := by simp; omega
        obtain ⟨w9, hw9⟩ : ∃ w9, w9 = wr.alloc (.cells #[.int .u8 kd, .int .i64 n, .int .i64 m, .int .u64 X, .slice ba bl.length bc] 30) := ⟨_, rfl⟩
        have hBo : Below wr.heap.size wr w9 := by rw [hw9]; exact (Below.refl _ _).alloc (Nat.le_refl _) _
        have hF9 : Five w9 wr.heap.size 30 (.int .u8 kd) (.int .i64 n) (.int .i64 m) (.int .u64 X) (.slice ba bl.length bc) := by rw [hw9]; exact Five.new _ _ _ _ _ _ _
        have hI9 := hI.below hBo
        have hmb : ¬ Mine r v wr.heap.size := fun hh => by have := hI.1.ownlt hh; omega
        have hs9 := y4.below hBo
        have k0 : (wr.alloc (.cells #[.int .u8 kd, .int .i64 n, .int .i64 m, .int .u64 X, .slice ba bl.length bc] 30)).cell? ⟨wr.heap.size, 0, none⟩ = some (.int .u8 kd) := by rw [← hw9]; exact hF9.c0
        have HW9 := Lib.hid hw9
        have hl9 : wr.heap.size < w9.heap.size := hF9.lt
        have hF9' := Lib.hid hF9
        have k4 : (wr.alloc (.cells #[.int .u8 kd, .int .i64 n, .int .i64 m, .int .u64 X, .slice ba bl.length bc] 30)).cell? ⟨wr.heap.size, 4, none⟩ = some (.slice ba bl.length bc) := by rw [← hw9]; exact hF9.c4
        clear hw9 hBo hI y4
        go_upto_block 2 with fail
        rw [← HW9.out]
        clear z0 z1 z2 z3 z4 k4
        go_cut [10, 11, 12, 39] from 39 to 148 (fun s10 s11 s12 s39 wx => s39 = .int .i64 j ∧ ∃ q l2 v2 sa2 sc2, s10 = .int .i64 q ∧ s11 = .int .i64 q ∧ Inv w r b7 lim wx v2 l2 sa2 sc2)
        case first =>
          have hc : kd % 8 = 0 ∨ kd % 8 = 1 ∨ kd % 8 = 2 ∨ kd % 8 = 3 ∨ 4 ≤ kd % 8 := by omega
          rcases hc with hk | hk | hk | hk | hk
          · -- a byte
            have p3 := hF9.c3
            clear hF9
            go_wp2_with fail
            refine (wbyte_any w9 r lim v l (X % 256) hI9.1).mono ?_
            intro e w10 hM
            have hsl10 : ∀ W : World, Sl .u8 (W.alloc (.cells #[.int .u8 (X % 256)] 5)) (some ⟨W.heap.size, 0, none⟩) 1 1 [X % 256] := fun W => (Blk.new .u8 5 W [X % 256]).sl (by simp)
            have hBb : ∀ W : World, Below W.heap.size W (W.alloc (.cells #[.int .u8 (X % 256)] 5)) := fun W => (Below.refl _ _).alloc (Nat.le_refl _) _
            have hone : ([X % 256] : List Int).length = 1 := rfl
            have HONE := Lib.hid hone
            clear hone
            by_cases hf : lim < (l.length : Int) + ([X % 256] : List Int).length
            · obtain ⟨rfl, hB10⟩ := hM.full hf
              have hI10 := hI9.below hB10
              have hF10 := hF9'.out.below hB10
              have t0 := hI10.2.1.c0
              have t1 := hI10.2.1.c1
              have p3' := hF10.c3
              have HP := Lib.hid (rput_any _ sa _ l.length sc 1 1 lim l [X % 256] (hI10.2.2.1.below (hBb w10)) (hsl10 w10) (by omega) (by omega))
              have HF := Lib.hid hf
              clear hM p3 hB10 hF10 hf
              go_wp2_with fail
              refine HP.out.mono ?_
              rintro e w11 ⟨r1, r2, hB11⟩
              have hI11 := (hI10.below (hBb w10)).below hB11
              have t0 := hI11.2.1.c0
              have t1 := hI11.2.1.c1
              have t2 := hI11.2.1.f0
              have t3 := hI11.2.1.f1
              rw [r1 HF.out]
              clear r1 r2 hB11 HP hI10 p3'
              go_wp2_with fail
              go_meet
              exact ⟨rfl, 4, l, v, sa, sc, rfl, rfl, hI11.stay⟩
            · obtain ⟨rfl, v', hW10, hX10, ho⟩ := hM.fits hf
              have hH10 := hI9.wrote hW10 hX10 ho
              have hF10 := hF9'.out.bx hX10 hmb
              have t0 := hH10.2.1.c0
              have t1 := hH10.2.1.c1
              have p3' := hF10.c3
              have HP := Lib.hid (rput_any _ sa _ l.length sc 1 1 lim l [X % 256] (hH10.2.2.1.below (hBb w10)) (hsl10 w10) (by omega) (by omega))
              have HF := Lib.hid hf
              clear hM p3 hW10 hX10 ho hF10 hf
              go_wp2_with fail
              refine HP.out.mono ?_
              rintro e w11 ⟨r1, r2, hB11⟩
              have hH11 := (hH10.below (hBb w10)).below hB11
              have t0 := hH11.2.1.c0
              have t1 := hH11.2.1.c1
              have t2 := hH11.2.1.f0
              have t3 := hH11.2.1.f1
              obtain ⟨a', c', he, hown⟩ := r2 (Int.not_lt.2 HF.out)
              rw [← List.length_append] at he hown
              obtain ⟨M, hM⟩ : ∃ M, M = l ++ [X % 256] := ⟨_, rfl⟩
              rw [← hM] at he hown hH11 hH10
              clear hM
              rw [he]
              have hfin := (hH10.below (hBb w10)).put hB11 hown (Nat.le_refl _)
              clear r1 r2 hB11 HP hH10 p3' he hown
              go_wp2_with fail
              go_meet
              exact ⟨rfl, 0, M, v', a', c', rfl, rfl, hfin⟩
          · -- bytes
            have p4 := hF9.c4
            have hI9w := Lib.hid hI9
            clear hF9
            go_wp2_with fail
            refine (lentBytes_own w9 ba bl.length bc bl hs9 (by omega)).mono ?_
            rintro e w10 ⟨aL, cL, rfl, hownL, hBL⟩
            obtain ⟨g, cg, hgc, hg1, hg2⟩ := hownL.form (by omega)
            cases hgc
            have hI10 := hI9.below hBL
            have hs10 := hs9.below hBL
            have hF10 := hF9'.out.below hBL
            have hslL := (own_sl hownL).upto bl.length (by omega)
            rw [List.take_left] at hslL
            have hmg : ¬ Mine r v g := fun hh => by have := hI9w.out.1.ownlt hh; omega
            have hb7g : b7 < w9.heap.size := hI9w.out.2.1.lt
            clear p4 hBL hI9 hs9
            go_wp2_with fail
            refine (wbytes_any w10 r lim v l bl (some ⟨g, 0, none⟩) cL hI10.1 hslL (by omega)).mono ?_
            intro e w11 hM
            by_cases hf : lim < (l.length : Int) + bl.length
            · obtain ⟨rfl, hB11⟩ := hM.full hf
              have hI11 := hI10.below hB11
              have hF11 := hF10.below hB11
              have hs11 := hs10.below hB11
              have hown11 := ownsRow_below hownL hB11
              have t0 := hI11.2.1.c0
              have t1 := hI11.2.1.c1
              have p4 := hF11.c4
              have HP := Lib.hid (rput_any w11 sa ba l.length sc bl.length bc lim l bl hI11.2.2.1 hs11 (by omega) (by omega))
              have HF := Lib.hid hf
              clear hM hB11 hf hI10 hF10 hs10 hownL hslL
              go_wp2_with fail
              refine HP.out.mono ?_
              rintro e w12 ⟨r1, r2, hB12⟩
              have hI12 := hI11.below hB12
              have hown12 := ownsRow_below hown11 hB12
              have hF12 := hF11.below hB12
              have hs12 := hs11.below hB12
              have t0 := hI12.2.1.c0
              have t1 := hI12.2.1.c1
              have t2 := hI12.2.1.f0
              have t3 := hI12.2.1.f1
              rw [r1 HF.out]
              clear r1 r2 hB12 HP hI11 p4 hF11 hs11 hown11
              have hownS := own_set (own_set hown12 b7 0 (.int .i64 lim) hb7g) b7 1 (.slice sa l.length sc) hb7g
              have hXS : Bx (Only b7) w12 ((w12.setCell ⟨b7, 0, none⟩ (.int .i64 lim)).setCell ⟨b7, 1, none⟩ (.slice sa l.length sc)) := ((Bx.refl _ _).setCell (p := ⟨b7, 0, none⟩) (Only.me b7) _).setCell (p := ⟨b7, 1, none⟩) (Only.me b7) _
              have hIS := hI12.stay
              have hFS := hF12.bx hXS (Only.ne (by omega))
              have hBS : Below w.heap.size w ((w12.setCell ⟨b7, 0, none⟩ (.int .i64 lim)).setCell ⟨b7, 1, none⟩ (.slice sa l.length sc)) := hIS.2.2.2.2.2.2.2
              have hsS := hs0.below hBS
              have p5 := hFS.c4
              have HK := Lib.hid (keptBytes_any _ (some ⟨g, 0, none⟩) ba cL bl.length bc bl (own_sl hownS) hsS (by omega))
              clear hown12 hXS hI12 hF12 hs12 hFS hBS hsS
              go_wp2_with fail
              refine HK.out.mono ?_
              rintro e w13 ⟨rfl, hD13⟩
              have hI13 := hIS.below hD13.below
              have hown13 := ownsRow_below hownS hD13.below
              clear HK hownS hIS p5 hD13
              go_wp2_with fail
              refine (overBytes_bx w13 _ g bl.length cL _ hown13 (by omega)).mono ?_
              rintro e w14 ⟨rfl, hX14⟩
              have hI14 := hI13.bxg hX14 hmg (by omega) (fun p hp => by have := (hI9w.out.2.2.2.1 p hp).2.2; omega) (by have := hbel.size; omega)
              go_wp2_with fail
              go_meet
              exact ⟨rfl, 4, l, v, sa, sc, rfl, rfl, hI14⟩
            · obtain ⟨rfl, v', hW11, hX11, ho⟩ := hM.fits hf
              have hH11 := hI10.wrote hW11 hX11 ho
              have hF11 := hF10.bx hX11 hmb
              have hs11 := hs0.below hH11.2.2.2.2.2.2.2
              have hown11 := own_bx hownL hX11 (fun k hk => by simp [Value.ownBlock] at hk; subst hk; exact hmg)
              have hmg' : ¬ Mine r v' g := by
                intro hh
                rcases hh with h | h
                · exact hmg (.inl h)
                · rcases ho g h with h9 | h9
                  · exact hmg (.inr h9)
                  · omega
              have hg11 : g < w11.heap.size := Nat.lt_of_lt_of_le hg2 hX11.size
              have t0 := hH11.2.1.c0
              have t1 := hH11.2.1.c1
              have p4 := hF11.c4
              have HP := Lib.hid (rput_any w11 sa ba l.length sc bl.length bc lim l bl hH11.2.2.1 hs11 (by omega) (by omega))
              have HF := Lib.hid hf
              clear hM hW11 hX11 ho hf hI10 hF10 hs10 hownL hslL
              go_wp2_with fail
              refine HP.out.mono ?_
              rintro e w12 ⟨r1, r2, hB12⟩
              have hH12 := hH11.below hB12
              have hown12 := ownsRow_below hown11 hB12
              have hF12 := hF11.below hB12
              have t0 := hH12.2.1.c0
              have t1 := hH12.2.1.c1
              have t2 := hH12.2.1.f0
              have t3 := hH12.2.1.f1
              obtain ⟨a', c', he, hown⟩ := r2 (Int.not_lt.2 HF.out)
              rw [← List.length_append] at he hown
              obtain ⟨M, hM⟩ : ∃ M, M = l ++ bl := ⟨_, rfl⟩
              rw [← hM] at he hown hH11
              clear hM hH12
              rw [he]
              have hIS := hH11.put hB12 hown (Nat.le_refl _)
              have hga : ∀ p, a' = some p → p.block ≠ g := fun p hp => by have := own_block hown p hp; omega
              have hownS := own_set (own_set hown12 b7 0 (.int .i64 lim) hb7g) b7 1 (.slice a' M.length c') hb7g
              have hXS : Bx (Only b7) w12 ((w12.setCell ⟨b7, 0, none⟩ (.int .i64 lim)).setCell ⟨b7, 1, none⟩ (.slice a' M.length c')) := ((Bx.refl _ _).setCell (p := ⟨b7, 0, none⟩) (Only.me b7) _).setCell (p := ⟨b7, 1, none⟩) (Only.me b7) _
              have hFS := hF12.bx hXS (Only.ne (by omega))
              have hsS := hs0.below hIS.2.2.2.2.2.2.2
              have p5 := hFS.c4
              have HK := Lib.hid (keptBytes_any _ (some ⟨g, 0, none⟩) ba cL bl.length bc bl (own_sl hownS) hsS (by omega))
              clear r1 r2 hB12 HP p4 hF11 hs11 hown11 hown12 hXS hF12 hFS hsS he hown hH11
              go_wp2_with fail
              refine HK.out.mono ?_
              rintro e w13 ⟨rfl, hD13⟩
              have hI13 := hIS.below hD13.below
              have hown13 := ownsRow_below hownS hD13.below
              clear HK hownS hIS p5 hD13
              go_wp2_with fail
              refine (overBytes_bx w13 _ g bl.length cL _ hown13 (by omega)).mono ?_
              rintro e w14 ⟨rfl, hX14⟩
              have hI14 := hI13.bxg hX14 hmg' (by omega) hga (by have := hbel.size; omega)
              go_wp2_with fail
              go_meet
              exact ⟨rfl, 0, M, v', a', c', rfl, rfl, hI14⟩
          · -- a number of fixed bytes
            have p1 := hF9.c1
            have p3 := hF9.c3
            clear hF9
            by_cases hnn : n < 1 ∨ 8 < n
            · have HA := Lib.hid (wfixed_arg w9 r lim v l X n hI9.1 hnn)
              have t0 := hI9.2.1.c0
              have t1 := hI9.2.1.c1
              have HP := Lib.hid (rputFixed_arg w9 sa l.length sc lim X n hnn)
              clear hnn
              go_wp2_with fail
              refine HA.out.mono ?_
              rintro e w' ⟨rfl, rfl⟩
              go_wp2_with fail
              refine HP.out.mono ?_
              rintro e w11 ⟨rfl, hB11⟩
              have hI11 := hI9.below hB11
              have t0 := hI11.2.1.c0
              have t1 := hI11.2.1.c1
              have t2 := hI11.2.1.f0
              have t3 := hI11.2.1.f1
              clear HA HP hB11
              go_wp2_with fail
              go_meet
              exact ⟨rfl, 2, l, v, sa, sc, rfl, rfl, hI11.stay⟩
            · obtain ⟨N, rfl⟩ : ∃ N : Nat, n = N := ⟨n.toNat, by omega⟩
              have hN1 : 1 ≤ N := by omega
              have hN8 : N ≤ 8 := by omega
              have hlB := leB_length N X
              by_cases hov : 0 < X / 256 ^ N
              · have HA := Lib.hid (wfixed_over w9 r lim v l X N hI9.1 hN1 hN8 hov)
                have t0 := hI9.2.1.c0
                have t1 := hI9.2.1.c1
                have HP := Lib.hid (rputFixed_go w9 sa l.length sc l lim X N hI9.2.2.1 (by omega) hx0 hx1 hN1 hN8)
                have HV := Lib.hid hov
                clear hnn hov hlB
                go_wp2_with fail
                refine HA.out.mono ?_
                rintro e w' ⟨rfl, rfl⟩
                go_wp2_with fail
                refine HP.out.mono ?_
                intro e w11 hP
                unfold PfRes at hP
                rw [if_pos HV.out] at hP
                obtain ⟨rfl, hB11⟩ := hP
                have hI11 := hI9.below hB11
                have t0 := hI11.2.1.c0
                have t1 := hI11.2.1.c1
                have t2 := hI11.2.1.f0
                have t3 := hI11.2.1.f1
                clear HA HP hB11
                go_wp2_with fail
                go_meet
                exact ⟨rfl, 2, l, v, sa, sc, rfl, rfl, hI11.stay⟩
              · have HA := Lib.hid (wfixed_fit w9 r lim v l X N hI9.1 hN1 hN8 hx0 hov)
                have HV := Lib.hid hov
                clear hnn hov
                go_wp2_with fail
                refine HA.out.mono ?_
                intro e w10 hM
                by_cases hf : lim < (l.length : Int) + (leB N X).length
                · obtain ⟨rfl, hB10⟩ := hM.full hf
                  have hI10 := hI9.below hB10
                  have hF10 := hF9'.out.below hB10
                  have t0 := hI10.2.1.c0
                  have t1 := hI10.2.1.c1
                  have p1' := hF10.c1
                  have p3' := hF10.c3
                  have HP := Lib.hid (rputFixed_go w10 sa l.length sc l lim X N hI10.2.2.1 (by omega) hx0 hx1 hN1 hN8)
                  have HF := Lib.hid hf
                  clear hM p1 p3 hB10 hF10 hf HA
                  go_wp2_with fail
                  refine HP.out.mono ?_
                  intro e w11 hP
                  unfold PfRes at hP
                  rw [if_neg (Int.not_lt.2 HV.out)] at hP
                  obtain ⟨r1, r2, hB11⟩ := hP
                  have hI11 := hI10.below hB11
                  have t0 := hI11.2.1.c0
                  have t1 := hI11.2.1.c1
                  have t2 := hI11.2.1.f0
                  have t3 := hI11.2.1.f1
                  rw [r1 HF.out]
                  clear r1 r2 hB11 HP hI10 p1' p3'
                  go_wp2_with fail
                  go_meet
                  exact ⟨rfl, 4, l, v, sa, sc, rfl, rfl, hI11.stay⟩
                · obtain ⟨rfl, v', hW10, hX10, ho⟩ := hM.fits hf
                  have hH10 := hI9.wrote hW10 hX10 ho
                  have hF10 := hF9'.out.bx hX10 hmb
                  have t0 := hH10.2.1.c0
                  have t1 := hH10.2.1.c1
                  have p1' := hF10.c1
                  have p3' := hF10.c3
                  have HP := Lib.hid (rputFixed_go w10 sa l.length sc l lim X N hH10.2.2.1 (by omega) hx0 hx1 hN1 hN8)
                  have HF := Lib.hid hf
                  clear hM p1 p3 hW10 hX10 ho hF10 hf HA hlB
                  go_wp2_with fail
                  refine HP.out.mono ?_
                  intro e w11 hP
                  unfold PfRes at hP
                  rw [if_neg (Int.not_lt.2 HV.out)] at hP
                  obtain ⟨r1, r2, hB11⟩ := hP
                  have hH11 := hH10.below hB11
                  have t0 := hH11.2.1.c0
                  have t1 := hH11.2.1.c1
                  have t2 := hH11.2.1.f0
                  have t3 := hH11.2.1.f1
                  obtain ⟨a', c', he, hown⟩ := r2 (Int.not_lt.2 HF.out)
                  rw [← List.length_append] at he hown
                  obtain ⟨M, hM⟩ : ∃ M, M = l ++ leB N X := ⟨_, rfl⟩
                  rw [← hM] at he hown hH11 hH10
                  clear hM
                  rw [he]
                  have hfin := hH10.put hB11 hown (Nat.le_refl _)
                  clear r1 r2 hB11 HP hH10 p1' p3' he hown
                  go_wp2_with fail
                  go_meet
                  exact ⟨rfl, 0, M, v', a', c', rfl, rfl, hfin⟩
          · -- a number
            have p3 := hF9.c3
            clear hF9
            go_wp2_with fail
            refine (wnumber_any w9 r lim v l X hI9.1 hx0 hx1).mono ?_
            intro e w10 hM
            have h10 : (vform X).length ≤ 10 := vsize_10 hx1
            by_cases hf : lim < (l.length : Int) + (vform X).length
            · obtain ⟨rfl, hB10⟩ := hM.full hf
              have hI10 := hI9.below hB10
              have hF10 := hF9'.out.below hB10
              have t0 := hI10.2.1.c0
              have t1 := hI10.2.1.c1
              have p3' := hF10.c3
              have HF := Lib.hid hf
              clear hM p3 hB10 hF10 hf
              go_wp2_with fail
              go_region_with (first
                | (go_at_call 42; refine (rwrite_any X _ hx0 hx1).mono ?_; rintro e w11 ⟨a11, c11, rfl, hown11, hB11⟩; have hB11' := ((Below.refl w10.heap.size w10).drew).trans hB11; have hI11 := hI10.below hB11'; have t0 := hI11.2.1.c0; have t1 := hI11.2.1.c1)
                | (go_at_call 40; refine (rput_any _ sa a11 l.length sc (vform X).length c11 lim l (vform X) hI11.2.2.1 (own_sl hown11) (by omega) (by omega)).mono ?_; rintro e w12 ⟨r1, r2, hB12⟩; have hI12 := hI11.below hB12; have t0 := hI12.2.1.c0; have t1 := hI12.2.1.c1; have t2 := hI12.2.1.f0; have t3 := hI12.2.1.f1; rw [r1 HF.out]))
              all_goals (try go_wp2_with fail)
              all_goals go_meet
              all_goals exact ⟨rfl, 4, l, v, sa, sc, rfl, rfl, hI12.stay⟩
            · obtain ⟨rfl, v', hW10, hX10, ho⟩ := hM.fits hf
              have hH10 := hI9.wrote hW10 hX10 ho
              have hF10 := hF9'.out.bx hX10 hmb
              have t0 := hH10.2.1.c0
              have t1 := hH10.2.1.c1
              have p3' := hF10.c3
              have HF := Lib.hid hf
              obtain ⟨f, hfd⟩ : ∃ f, f = vform X := ⟨_, rfl⟩
              have HFD := Lib.hid hfd
              have hlm : (l ++ f).length = l.length + f.length := List.length_append
              obtain ⟨M, hMd⟩ : ∃ M, M = l ++ f := ⟨_, rfl⟩
              have HMD := Lib.hid hMd
              have hH10M := hH10
              rw [← hfd, ← hMd] at hH10M
              clear hM p3 hW10 hX10 ho hF10 hf hfd hMd hlm
              go_wp2_with fail
              go_region_with (first
                | (go_at_call 42; refine (rwrite_any X _ hx0 hx1).mono ?_; rintro e w11 ⟨a11, c11, rfl, hown11, hB11⟩; have hB11' := ((Below.refl w10.heap.size w10).drew).trans hB11; have hH11 := hH10M.below hB11'; have t0 := hH11.2.1.c0; have t1 := hH11.2.1.c1)
                | (go_at_call 40; refine (rput_any _ sa a11 l.length sc (vform X).length c11 lim l (vform X) hH11.2.2.1 (own_sl hown11) (by omega) (by omega)).mono ?_; rintro e w12 ⟨r1, r2, hB12⟩; have hH12 := hH11.below hB12; have t0 := hH12.2.1.c0; have t1 := hH12.2.1.c1; have t2 := hH12.2.1.f0; have t3 := hH12.2.1.f1; obtain ⟨a', c', he, hown⟩ := r2 (Int.not_lt.2 HF.out); rw [← HFD.out, ← List.length_append, ← HMD.out] at he hown; rw [he]; have hfin := hH11.put hB12 hown (Nat.le_refl _)))
              all_goals (try go_wp2_with fail)
              all_goals go_meet
              all_goals exact ⟨rfl, 0, M, v', a', c', rfl, rfl, hfin⟩
          · -- nothing
            have q0 : (kd % 8 == 0) = false := by simp; omega
            have q1 : (kd % 8 == 1) = false := by simp; omega
            have q2 : (kd % 8 == 2) = false := by simp; omega
            have q3 : (kd % 8 == 3) = false := by simp; omega
            go_wp2_with fail
            go_meet
            exact ⟨rfl, 0, l, v, sa, sc, rfl, rfl, hI9⟩
        case rest =>
          obtain ⟨rfl, q, l2, v2, sa2, sc2, rfl, rfl, hI2⟩ := hcut
          go_wp2_with fail
          refine (out_wr wc r lim v2 l2 hI2.1).mono ?_
          rintro e w20 ⟨a20, c20, rfl, hown20, hB20⟩
          have hI20 := hI2.below hB20
          have t1 := hI20.2.1.c1
          have hq : (q != q) = false := by simp
          have hq1 : ((l2.length : Int) != l2.length) = false := by simp
          have hDn : ∀ nq, Below w20.heap.size w20 (w20.drewN nq) := fun nq => below_drewN (Below.refl _ _) nq
          go_wp2_with fail
          go_quiet (first
            | (go_at_call 17; exact Calls.quiet_of_same ((len_wr _ r lim v2 l2 (hI20.1.below (hDn _))).mono fun _ _ h => ⟨h.1, h.2.symm⟩))
            | (go_at_call 33; exact Calls.quiet_of (sameBytes_yes _ _ _ _ _ _ _ _ _ ((own_sl hown20).below (hDn _)) (hI20.2.2.1.below (hDn _)) rfl)))
          go_wp2_with fail
          go_loopw [141] (fun i wx => ∃ (i2 : Nat) (ys : List Value), i = .int .i64 i2 ∧ i2 ≤ l2.length ∧ wx.ownsRow wc.heap.size 5 1 (.slice a20 l2.length c20) l2.length ys ∧ Below wc.heap.size wc wx) (fun i _ => l2.length - (intOf i).toNat)
          case atStart => exact ⟨0, _, rfl, by omega, ownsRow_below hown20 (hDn _), step_below hB20 (hDn _) (Nat.le_refl _)⟩
          case round =>
            obtain ⟨i2, ys, rfl, hi2, hownj, hbj⟩ := hrel
            have hyl := hownj.1
            have hl2 : (l2.length : Int) ≤ lim := hI2.1.2.2.1
            by_cases hlt2 : i2 < l2.length
            · obtain ⟨g, cg, hgc, hg1, hg2⟩ := hownj.form (by omega)
              cases hgc
              obtain ⟨y, hy⟩ : ∃ y, ys[i2]? = some y := ⟨ys[i2], List.getElem?_eq_getElem (by omega)⟩
              have e0 := hownj.cellAt i2 (by omega)
              rw [hy] at e0
              have e1 := hownj.frozenAt i2
              have hst := fun u => (hownj.stored i2 u).1
              have hxs := fun u => hbj.setCell (p := ⟨g, i2, none⟩) hg1 u
              clear hyl hownj hbj
              go_wp2_with fail
              go_roundw
              case rel => exact ⟨i2 + 1, _, by go_num, by omega, hst _, hxs _⟩
              case measure => simp [intOf]; omega
            · go_wp2_with fail
              go_roundw
              case rel => exact ⟨j + 1, l2, v2, sa2, sc2, by go_num, by omega, hI2.below hbj⟩
              case measure => simp [intOf]; omega
    · have hS0 : RSt1 wr b7 (.slice sa l.length sc) wr := ⟨Below.refl _ _, hI.2.1.c1⟩
      have t1 := hI.2.1.c1
      go_wp2_with fail
      go_region_held3 (fun w' => Below wr.heap.size wr w' ∧ w'.cell? ⟨b7, 1, none⟩ = some (.slice sa l.length sc)) (solve | (repeat (first | assumption | refine RSt1.drew ?_ | refine RSt1.step ?_ (by assumption) | refine RSt1.step ?_ (Draws.below (by assumption))))) (first
        | (go_at_call 18; refine (out_wr _ r lim v l (hI.1.below (Below.refl _ _).drew)).mono ?_; rintro e w20 ⟨a20, c20, rfl, hown20, hB20⟩; have hS1 := (hS0.drew).step hB20)
        | (go_at_call 33; refine (sameBytes_yes _ _ _ _ _ _ _ _ _ (own_sl hown20) (hI.2.2.1.below hS1.1) rfl).mono ?_; rintro e w21 ⟨rfl, hD21⟩; have hS2 := hS1.step hD21.below))
      go_wp2_with fail
      go_ret
      exact ⟨rfl, step_below hbel hS2.1 (Nat.le_refl _)⟩
end Go.Proofs.Ytakpockkagfphaa
