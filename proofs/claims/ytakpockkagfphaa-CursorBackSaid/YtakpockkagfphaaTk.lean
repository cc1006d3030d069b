/-
  The contract of the second reference's Take.
-/
import Derived.Test.YtakpockkagfphaaRrd
import Derived.Test.YtakpockkagfphaaApp
import Derived.Test.YtakpockkagfphaaStr
namespace Go.Proofs.Ytakpockkagfphaa
open Go.RowKit Go.Shelf

/-- The error of taking n bytes at a place. -/
def tkE (len ix : Nat) (n : Int) : Int := if n < 0 then 2 else if (len : Int) - ix < n then 20 else 0
/-- The bytes that are taken. -/
def tkL (l : List Int) (ix : Nat) (n : Int) : List Int := if tkE l.length ix n = 0 then (l.drop ix).take n.toNat else []

theorem tkE_neg {len ix : Nat} {n : Int} (h : n < 0) : tkE len ix n = 2 := by unfold tkE; rw [if_pos h]
theorem tkE_end {len ix : Nat} {n : Int} (h : ¬ n < 0) (h2 : (len : Int) - ix < n) : tkE len ix n = 20 := by unfold tkE; rw [if_neg h, if_pos h2]
theorem tkE_ok {len ix : Nat} {n : Int} (h : 0 ≤ n) (h2 : n ≤ (len : Int) - ix) : tkE len ix n = 0 := by unfold tkE; rw [if_neg (by omega), if_neg (by omega)]

/-- What Take returns. -/
def TkRes (l : List Int) (a : Option Addr) (len cap ix : Nat) (n : Int) (w : World) (e : Ending) (w' : World) : Prop :=
  ∃ a2 c2, e = .returned (.tuple #[.agg #[.slice a len cap, .int .i64 ((ix + (tkL l ix n).length : Nat) : Int)], .slice a2 (tkL l ix n).length c2, .int .i64 (tkE len ix n)]) ∧ Sl .u8 w' a2 (tkL l ix n).length c2 (tkL l ix n) ∧ Below w.heap.size w w'

set_option maxRecDepth 100000 in
set_option maxHeartbeats 1000000 in
theorem take_neg (w : World) (a : Option Addr) (len cap ix : Nat) (l : List Int) (n : Int) (hl : l.length = len) (hn : n < 0) :
    Calls Try.prog 57 #[.agg #[.slice a len cap, .int .i64 ix], .int .i64 n] w (TkRes l a len cap ix n w) := by
  have hb : decide (n < 0) = true := by simp; omega
  have he := Lib.hid (tkE_neg (len := len) (ix := ix) hn)
  go_enter Try.func57, Try.ntmps57
  go_wp2_with fail
  have hT := Two.new (w.alloc (.cells #[.slice a len cap, .int .i64 ix] 71)) 71 (.slice a len cap) (.int .i64 ix)
  rw [World.size_alloc] at hT
  refine bodyPost_cell3 rfl (w.heap.size + 1) rfl _ _ hT.range Try.underlying71 rfl (by kernel_rfl) rfl ?_
  subst hl
  unfold TkRes tkL
  rw [he.out]
  exact ⟨none, 0, rfl, Sl.nil _ _, ((Below.refl _ _).alloc (Nat.le_refl _) _).alloc (by simp) _⟩

set_option maxRecDepth 100000 in
set_option maxHeartbeats 1000000 in
theorem take_end (w : World) (a : Option Addr) (len cap ix : Nat) (l : List Int) (n : Int) (hl : l.length = len) (hi : ix ≤ len) (hc : len ≤ 9223372036854775807) (hn : 0 ≤ n) (h2 : (len : Int) - ix < n) :
    Calls Try.prog 57 #[.agg #[.slice a len cap, .int .i64 ix], .int .i64 n] w (TkRes l a len cap ix n w) := by
  have hb : decide (n < 0) = false := by simp; omega
  have hb2 : decide ((len : Int) - ix < n) = true := by simp; omega
  have he := Lib.hid (tkE_end (len := len) (ix := ix) (by omega) h2)
  go_enter Try.func57, Try.ntmps57
  go_wp2_with fail
  have hT := Two.new (w.alloc (.cells #[.slice a len cap, .int .i64 ix] 71)) 71 (.slice a len cap) (.int .i64 ix)
  rw [World.size_alloc] at hT
  refine bodyPost_cell3 rfl (w.heap.size + 1) rfl _ _ hT.range Try.underlying71 rfl (by kernel_rfl) rfl ?_
  subst hl
  unfold TkRes tkL
  rw [he.out]
  exact ⟨none, 0, rfl, Sl.nil _ _, ((Below.refl _ _).alloc (Nat.le_refl _) _).alloc (by simp) _⟩

theorem take_next {l : List Int} {ix j : Nat} (h : ix + j < l.length) : (l.drop ix).take (j + 1) = (l.drop ix).take j ++ [l[ix + j]?.getD 0] := by
  rw [List.take_succ_eq_append_getElem (by simp; omega)]
  simp [h]

set_option maxRecDepth 100000 in
set_option maxHeartbeats 2000000 in
theorem take_ok (w : World) (a : Option Addr) (len cap ix : Nat) (l : List Int) (n : Nat) (hs : Sl .u8 w a len cap l) (hi : ix ≤ len) (h2 : n ≤ len - ix) (hc : len ≤ 140737488355000) :
    Calls Try.prog 57 #[.agg #[.slice a len cap, .int .i64 ix], .int .i64 n] w (TkRes l a len cap ix n w) := by
  have hb : decide ((n : Int) < 0) = false := by simp
  have hb2 : decide ((len : Int) - ix < n) = false := by simp; omega
  have he := Lib.hid (tkE_ok (len := len) (ix := ix) (n := (n : Int)) (by omega) (by omega))
  obtain ⟨i0, hinf, hz0, hz1, hz2⟩ := info_parts infoU8
  have hl := hs.1
  have HL := Lib.hid hl
  clear hl
  have hB0 : Below w.heap.size w ((w.alloc (.cells #[.slice a len cap, .int .i64 ix] 71)).alloc (.cells #[.slice none 0 0, .int .i64 0] 71)) := ((Below.refl _ _).alloc (Nat.le_refl _) _).alloc (by simp) _
  have hT1 := (Two.new w 71 (.slice a len cap) (.int .i64 ix)).alloc (.cells #[.slice none 0 0, .int .i64 0] 71)
  have hT2 := Two.new (w.alloc (.cells #[.slice a len cap, .int .i64 ix] 71)) 71 (.slice none 0 0) (.int .i64 0)
  rw [World.size_alloc] at hT2
  have hs2 := hs.below hB0
  go_enter Try.func57, Try.ntmps57
  go_wp2_with fail
  go_loopw [7, 8] (fun v i wr => ∃ j : Nat, i = .int .i64 j ∧ j ≤ n ∧ wr.ownsRow (w.heap.size + 2) 5 1 v j (((l.drop ix).take j).map (Value.int .u8)) ∧ Below (w.heap.size + 2) ((w.alloc (.cells #[.slice a len cap, .int .i64 ix] 71)).alloc (.cells #[.slice none 0 0, .int .i64 0] 71)) wr) (fun _ i _ => n - (intOf i).toNat)
  case atStart => exact ⟨0, rfl, by omega, by have := World.ownsRow_nil ((w.alloc (.cells #[.slice a len cap, .int .i64 ix] 71)).alloc (.cells #[.slice none 0 0, .int .i64 0] 71)) (w.heap.size + 2) 5 1; simpa using this, Below.refl _ _⟩
  case round =>
    obtain ⟨j, rfl, hj, hown, hbel⟩ := hrel
    have hsz := hbel.size
    simp only [World.size_alloc] at hsz
    have hT1' := hT1.below hbel (by omega)
    have hT2' := hT2.below hbel (by omega)
    have hsr := hs2.below (hbel.mono (by simp))
    have e0 := hT1'.c0
    have e1 := hT1'.c1
    have e2 := hT2'.c0
    have e3 := hT2'.c1
    have e4 := hT2'.f0
    have e5 := hT2'.f1
    have hcl := hs.2.1
    by_cases hlt : j < n
    · obtain ⟨b, off, rfl, hcell⟩ := hsr.idx (i := ix + j) (by omega)
      obtain ⟨c, hcdef⟩ : ∃ c, c = l[ix + j]?.getD 0 := ⟨_, rfl⟩
      rw [← hcdef] at hcell
      have hnx := take_next (l := l) (ix := ix) (j := j) (by rw [HL.out]; omega)
      rw [← hcdef] at hnx
      clear hcdef
      have HN := Lib.hid hnx
      clear hnx
      go_wp2_with (at_builtin; refine wpList_append_own _ rfl (.tmp 26) (.tmp 35) 22 rfl (w.heap.size + 2) 5 i0 (.int .u8 0) 1 1 Try.underlying22 hinf hz0 hz1 hz2 rfl (by decide) _ _ _ rfl (hown.alloc _) ⟨wr.heap.size, 0, none⟩ 1 1 [.int .u8 c] rfl rfl ?d1 ?d2 ?d3 ?d4 ?d5 ?_)
      case d1 => exact one_cell _ _ _ _
      case d2 => first | rfl | exact one_one _ _
      case d3 => unfold maxLen; omega
      case d4 => omega
      case d5 => first | omega | (simp; omega)
      · intro v' w3 hown4 hgrow4 _
        have hB3 : Below (w.heap.size + 2) ((w.alloc (.cells #[.slice (some ⟨b, off, none⟩) len cap, .int .i64 ix] 71)).alloc (.cells #[.slice none 0 0, .int .i64 0] 71)) w3 := (hbel.alloc (by omega) _).grown hgrow4 (by simp; omega) (fun k hk => (hown.lt k hk).1)
        clear hgrow4 hown hbel
        go_wp2_with fail
        go_roundw
        case rel => exact ⟨j + 1, by go_num, by omega, by rw [HN.out]; simpa using hown4, hB3⟩
        case measure => simp [intOf]; omega
    · obtain rfl : j = n := by omega
      go_wp2_with fail
      refine bodyPost_cell3 rfl (w.heap.size + 1) rfl _ _ (hT2'.range_set _ _) Try.underlying71 rfl (by kernel_rfl) rfl ?_
      obtain ⟨a', cap', rfl⟩ := own_shape hown
      have hBf : Below w.heap.size w ((wr.setCell ⟨w.heap.size + 1, 0, none⟩ (.slice a len cap)).setCell ⟨w.heap.size + 1, 1, none⟩ (.int .i64 (ix + j))) := ((hB0.trans (hbel.mono (by omega))).setCell (p := ⟨w.heap.size + 1, 0, none⟩) (by simp) _).setCell (p := ⟨w.heap.size + 1, 1, none⟩) (by simp) _
      have hL : tkL l ix (j : Int) = (l.drop ix).take j := by unfold tkL; rw [HL.out, if_pos he.out]; rfl
      have hLl : ((l.drop ix).take j).length = j := by have := HL.out; simp; omega
      unfold TkRes
      rw [hL, hLl]
      refine ⟨a', cap', by rw [he.out]; simp, ?_, hBf⟩
      exact own_sl (own_set (own_set hown (w.heap.size + 1) 0 _ (by omega)) (w.heap.size + 1) 1 _ (by omega))
end Go.Proofs.Ytakpockkagfphaa
