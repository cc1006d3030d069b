/-
  The contracts of crc's Seal, Open, Damages; where the table of the halves lies as the program's text lays it.
-/
import Derived.Test.YtdaijbplbnkpeaaDoorCrb
import Derived.OwnWalk
namespace Go.Proofs.YtdaijbplbnkpeaaDoor
open Go.RowKit Go.Shelf

/-- What is made anew: a row of bytes of the call's own. -/
def Made (w : World) (l : List Int) (v : Value) (w' : World) : Prop :=
  w'.ownsRow w.heap.size 5 1 v l.length (l.map (Value.int .u8)) ∧ Below w.heap.size w w'

theorem Made.view {w w' : World} {l : List Int} {v : Value} (h : Made w l v w') (n : Nat) (hn : l.length = n) :
    ∃ a c, v = .slice a n c ∧ Sl .u8 w' a n c l ∧ w'.ownsRow w.heap.size 5 1 (.slice a n c) n (l.map (Value.int .u8)) ∧ Below w.heap.size w w' := by
  subst hn
  obtain ⟨hown, hB⟩ := h
  obtain ⟨a, c, rfl⟩ := own_shape hown
  exact ⟨a, c, rfl, own_sl hown, hown, hB⟩

theorem le4_at (s j : Nat) (hj : j < 4) : ((s / 2 ^ (8 * j) % 256 : Nat) : Int) = (le4 s)[j]?.getD 0 := by
  match j, hj with
  | 0, _ => simp [le4]
  | 1, _ => simp [le4]
  | 2, _ => simp [le4]
  | 3, _ => simp [le4]

set_option maxRecDepth 100000 in
set_option maxHeartbeats 1000000 in
theorem seal_any (a : Option Addr) (n cap : Nat) (l : List Int) (w : World) (hT : Tab w) (hS : Sl .u8 w a n cap l) (hB : Bys l) (hn' : n ≤ 16777216) :
    Calls Tryd.prog 24 #[.slice a n cap] w fun e w' => ∃ v, e = .returned (.tuple #[v, .int .i64 0]) ∧ Made w (l ++ le4 (upd 0 l)) v w' := by
  obtain ⟨i0, hi, hz0, hz1, hz2⟩ := info_parts infoU8
  obtain rfl : l.length = n := hS.1
  have hd : decide ((16777216 : Int) < (l.length : Int)) = false := by simp; omega
  have hul : upd 0 l < 4294967296 := upd_lt hB (by decide)
  have hsum := fun w hT hS => sum_any' a l.length cap l w hT hS hB
  obtain ⟨s, hs⟩ : ∃ s, s = upd 0 l := ⟨_, rfl⟩
  rw [← hs] at hul ⊢
  simp only [← hs] at hsum
  clear hs
  go_enter Tryd.func24, Tryd.ntmps24
  go_wp2_with (at_make; refine wpList_make_own _ rfl (.const (.int .i64 0)) (.tmp 12) 22 rfl w.heap.size 5 i0 (.int .u8 0) 1 Tryd.underlying22 hi hz0 hz1 .i64 .i64 _ (l.length + 4) rfl rfl (by omega) ?c1 ?c2 ?c3 ?_)
  case c1 => first | omega | (rw [hz2]; omega)
  case c2 => unfold maxLen; omega
  case c3 => exact Nat.le_refl _
  intro w1 hown hgrow
  have hB1 : Below w.heap.size w w1 := (Below.refl _ _).grown hgrow (Nat.le_refl _) (fun k hk => by cases hk)
  have hs1 := hS.below hB1
  have hsz := hB1.size
  have hown' : w1.ownsRow w.heap.size 5 1 (.slice (some ⟨w.heap.size, 0, none⟩) 0 (l.length + 4)) ([] : List Int).length (([] : List Int).map (Value.int .u8)) := hown
  clear hgrow hown
  go_wp2_with (at_builtin; refine wpList_append_onsl _ rfl (.tmp 14) (.tmp 15) 22 rfl .u8 w.heap.size 5 i0 1 Tryd.underlying22 hi hz0 hz1 hz2 _ [] a l.length cap l rfl rfl hown' hs1 (by unfold maxLen; simp; omega) (by simp; omega) hsz ?_)
  intro v2 w2 hown2 hgrow2
  have hB2 : Below w.heap.size w w2 := hB1.grown hgrow2 hsz (fun k hk => (hown'.lt k hk).1)
  have hown3 : w2.ownsRow w.heap.size 5 1 v2 (l ++ (le4 s).take 0).length ((l ++ (le4 s).take 0).map (Value.int .u8)) := by simpa using hown2
  have hs2 := hS.below hB2
  have hT2 := hT.step hB2
  clear hgrow2 hown2 hown' hs1 hB1
  go_wp2_with fail
  refine (hsum _ hT2 hs2).mono ?_
  rintro e w' ⟨rfl, rfl⟩
  go_wp2_with fail
  go_loopw [4, 19] (fun v i wr => ∃ j : Nat, i = .int .i64 j ∧ j ≤ 4 ∧ wr.ownsRow w.heap.size 5 1 v (l ++ (le4 s).take j).length ((l ++ (le4 s).take j).map (Value.int .u8)) ∧ Below w.heap.size w wr) (fun _ i _ => 4 - (intOf i).toNat)
  case atStart => exact ⟨0, rfl, by omega, hown3, hB2⟩
  case round =>
    obtain ⟨j, rfl, hj, hownj, hBj⟩ := hrel
    have hszj := hBj.size
    obtain ⟨m, hm⟩ : ∃ m, m = l ++ (le4 s).take j := ⟨_, rfl⟩
    rw [← hm] at hownj
    have hml : m.length = l.length + j := by rw [hm, List.length_append, List.length_take, le4_len]; omega
    have HM := Lib.hid hm
    have HML := Lib.hid hml
    have hmb : m.length ≤ 16777220 := by omega
    clear hm hml
    by_cases hlt : j < 4
    · obtain ⟨x, hx⟩ : ∃ x, x = (le4 s)[j]?.getD 0 := ⟨_, rfl⟩
      have hat : (s : Int) / 2 ^ (8 * j) % 256 = x := by rw [hx, ← le4_at s j hlt]; push_cast; rfl
      have hm2 : l ++ (le4 s).take (j + 1) = m ++ [x] := by
        rw [HM.out, hx, List.append_assoc, List.take_succ_eq_append_getElem (by rw [le4_len]; exact hlt), List.getElem?_eq_getElem (by rw [le4_len]; exact hlt)]; rfl
      have HM2 := Lib.hid hm2
      clear hm2 hx
      go_wp2_with (at_builtin; refine wpList_append_own _ rfl (.tmp 22) (.tmp 28) 22 rfl w.heap.size 5 i0 (.int .u8 0) 1 1 Tryd.underlying22 hi hz0 hz1 hz2 rfl (by decide) _ _ _ rfl (hownj.alloc _) ⟨wr.heap.size, 0, none⟩ 1 1 [.int .u8 x] rfl rfl ?d1 ?d2 ?d3 ?d4 ?d5 ?_)
      case d1 => exact one_cell _ _ _ _
      case d2 => first | rfl | exact one_one _ _
      case d3 => unfold maxLen; omega
      case d4 => omega
      case d5 => simp; omega
      intro v' w1 hown' hgrow _
      have hBn : Below w.heap.size w w1 := (hBj.alloc hszj _).grown hgrow (by simp; omega) (fun k hk => (hownj.lt k hk).1)
      have hown2 : w1.ownsRow w.heap.size 5 1 v' (l ++ (le4 s).take (j + 1)).length ((l ++ (le4 s).take (j + 1)).map (Value.int .u8)) := by
        rw [HM2.out]; simpa using hown'
      clear hown' hgrow hownj
      go_wp2_with fail
      go_roundw
      case rel => exact ⟨j + 1, by go_num, by omega, hown2, hBn⟩
      case measure => simp [intOf]; omega
    · obtain rfl : j = 4 := by omega
      have hfin : m = l ++ le4 s := by rw [HM.out, List.take_of_length_le (by rw [le4_len]; exact Nat.le_refl _)]
      rw [hfin] at hownj
      clear hfin
      go_wp2_with fail
      go_ret2
      exact ⟨_, rfl, hownj, hBj⟩

set_option maxHeartbeats 400000 in
theorem seal_long (a : Option Addr) (n cap : Nat) (w : World) (hn' : 16777216 < n) :
    Calls Tryd.prog 24 #[.slice a n cap] w fun e w' => e = .returned (.tuple #[.slice none 0 0, .int .i64 3]) ∧ w = w' := by
  have hd : decide ((16777216 : Int) < (n : Int)) = true := by simp; omega
  go_enter Tryd.func24, Tryd.ntmps24
  go_wp2_with fail
  go_ret2
  exact ⟨rfl, rfl⟩

set_option maxRecDepth 100000 in
set_option maxHeartbeats 1000000 in
theorem open_any (a : Option Addr) (n cap : Nat) (l : List Int) (w : World) (hT : Tab w) (hS : Sl .u8 w a n cap l) (hB : Bys l) (hs : Sea l) (hn' : n ≤ 16777220) :
    Calls Tryd.prog 36 #[.slice a n cap] w fun e w' => ∃ v, e = .returned (.tuple #[v, .int .i64 0]) ∧ Made w (l.take (n - 4)) v w' := by
  obtain ⟨i0, hi, hz0, hz1, hz2⟩ := info_parts infoU8
  have hl : l.length = n := hS.1
  have h4 : 4 ≤ n := by have := hs.1; omega
  have hf := sealed_any a n cap l w hT hS hB
  rw [seaB_yes hs] at hf
  have hcap := hS.2.1
  have hcap2 := hS.2.2.1
  have hSu := hS.upto (n - 4) (by omega)
  obtain ⟨m, hm⟩ : ∃ m, m = n - 4 := ⟨_, rfl⟩
  have hnm : n = m + 4 := by omega
  subst hnm
  rw [← hm] at hSu ⊢
  clear hs hm
  have hown0 : w.ownsRow w.heap.size 5 1 (.slice none 0 0) ([] : List Int).length (([] : List Int).map (Value.int .u8)) := World.ownsRow_nil _ _ _ _
  go_enter Tryd.func36, Tryd.ntmps36
  go_wp2_with fail
  refine hf.mono ?_
  rintro e w' ⟨rfl, rfl⟩
  go_wp2_with (at_builtin; refine wpList_append_onsl _ rfl (.const (.slice none 0 0)) (.tmp 11) 22 rfl .u8 w.heap.size 5 i0 1 Tryd.underlying22 hi hz0 hz1 hz2 _ [] a m cap (l.take m) rfl rfl hown0 hSu (by unfold maxLen; simp; omega) (by simp; omega) (Nat.le_refl _) ?_)
  intro v2 w2 hown2 hgrow2
  have hB2 : Below w.heap.size w w2 := (Below.refl _ _).grown hgrow2 (Nat.le_refl _) (fun k hk => by cases hk)
  have hlm : (l.take m).length = m := by rw [List.length_take]; omega
  have hown3 : w2.ownsRow w.heap.size 5 1 v2 (l.take m).length ((l.take m).map (Value.int .u8)) := by rw [hlm]; simpa using hown2
  clear hgrow2 hown2 hown0
  go_wp2_with fail
  go_ret2
  exact ⟨_, rfl, hown3, hB2⟩

set_option maxHeartbeats 400000 in
theorem open_no (a : Option Addr) (n cap : Nat) (l : List Int) (w : World) (hT : Tab w) (hS : Sl .u8 w a n cap l) (hB : Bys l) (hs : ¬ Sea l) :
    Calls Tryd.prog 36 #[.slice a n cap] w fun e w' => e = .returned (.tuple #[.slice none 0 0, .int .i64 2]) ∧ w = w' := by
  have hf := sealed_any a n cap l w hT hS hB
  rw [seaB_no hs] at hf
  go_enter Tryd.func36, Tryd.ntmps36
  go_wp2_with fail
  refine hf.mono ?_
  rintro e w' ⟨rfl, rfl⟩
  go_wp2_with fail
  go_ret2
  exact ⟨rfl, rfl⟩
end Go.Proofs.YtdaijbplbnkpeaaDoor
