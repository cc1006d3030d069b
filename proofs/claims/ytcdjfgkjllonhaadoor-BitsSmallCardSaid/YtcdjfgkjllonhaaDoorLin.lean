/-
  The contracts of LentNums, KeptNums, LentInts and KeptInts: what is lent is a copy with twelve marks behind it, in new memory of its own; what still reads so is kept; for at most 1000000 elements.
-/
import Derived.Test.YtcdjfgkjllonhaaDoorApp
import Derived.Test.YtcdjfgkjllonhaaDoorBts
import Derived.OwnWalk
namespace Go.Proofs.YtcdjfgkjllonhaaDoor
open Go.RowKit Go.Shelf

theorem Sl.idx2 {k : IntKind} {w : World} {a : Option Addr} {len cap : Nat} {l : List Int} (h : Sl k w a len cap l) {i : Nat} (hi : i < len) : ∃ b off, a = some ⟨b, off, none⟩ ∧ w.cell? ⟨b, off + i, none⟩ = some (.int k (l[i]?.getD 0)) := by
  obtain ⟨_, _, _, h4⟩ := h
  rcases h4 with ⟨h5, _⟩ | ⟨b, off, ha, _, hc⟩
  · omega
  · exact ⟨b, off, ha, hc i hi⟩
theorem infoUL : (Tryd.prog.info? 30).map (fun i => (i.zero, i.size, i.bytes)) = some (some (.int .u64 0), 1, 8) := by kernel_rfl
theorem infoIL : (Tryd.prog.info? 3).map (fun i => (i.zero, i.size, i.bytes)) = some (some (.int .i64 0), 1, 8) := by kernel_rfl
set_option maxHeartbeats 400000 in
theorem mark_any (i : Int) (w : World) (h0 : 0 ≤ i) (h1 : i ≤ 1000000) :
    Calls Tryd.prog 73 #[.int .i64 1, .int .i64 i] w fun e w' => e = .returned (.int .i64 (8000024 + i)) ∧ w = w' := by
  go_enter Tryd.func73, Tryd.ntmps73
  go_wp2
  go_ret
  exact ⟨rfl, rfl⟩

def markN (i : Int) : Int := IntKind.u64.wrap ((8000024 + i) * 11400714819323198485)
/-- A mark as an integer. -/
def markI (i : Int) : Int := 8000024 + i

set_option maxHeartbeats 400000 in
theorem markNum_any (i : Int) (w : World) (h0 : 0 ≤ i) (h1 : i ≤ 1000000) :
    Calls Tryd.prog 72 #[.int .i64 1, .int .i64 i] w fun e w' => e = .returned (.int .u64 (markN i)) ∧ w = w' := by
  go_enter Tryd.func72, Tryd.ntmps72
  go_wp2_with (go_at_call 73; refine (mark_any i _ h0 h1).mono ?_; rintro e w' ⟨rfl, rfl⟩)
  go_ret
  exact ⟨rfl, rfl⟩

theorem Draws.more {w w' : World} (h : Draws w w') (n : Nat) : Draws w (w'.drewN n) := by
  obtain ⟨m, rfl⟩ := h
  exact ⟨m + n, drewN_add w m n⟩

def marksF (f : Int → Int) : Nat → List Int
  | 0 => []
  | n + 1 => marksF f n ++ [f n]
theorem marksF_length (f : Int → Int) (n : Nat) : (marksF f n).length = n := by
  induction n with
  | zero => rfl
  | succ n ih => simp [marksF, ih]
theorem marksF_at (f : Int → Int) (n : Nat) : ∀ i, i < n → (marksF f n)[i]?.getD 0 = f i := by
  induction n with
  | zero => intro i hi; omega
  | succ n ih =>
    intro i hi
    by_cases h : i < n
    · rw [marksF, List.getElem?_append_left (by rw [marksF_length]; exact h)]; exact ih i h
    · obtain rfl : i = n := by omega
      rw [marksF, List.getElem?_append_right (by rw [marksF_length]; exact Nat.le_refl _), marksF_length]; simp

/-- What a Lent function ends in. -/
def Lent (k : IntKind) (f : Int → Int) (l : List Int) (w : World) (r : Ending) (w' : World) : Prop :=
  ∃ a cap, r = .returned (.slice a l.length cap) ∧ Sl k w' a (l.length + 12) cap (l ++ marksF f 12) ∧ Below w.heap.size w w'

theorem app_left {l m : List Int} {i : Nat} (h : i < l.length) : (l ++ m)[i]?.getD 0 = l[i]?.getD 0 := by rw [List.getElem?_append_left h]
theorem app_right {l m : List Int} {i : Nat} (h : l.length ≤ i) : (l ++ m)[i]?.getD 0 = m[i - l.length]?.getD 0 := by rw [List.getElem?_append_right h]

/-- What is lent, and that it is the call's own. -/
def LentO (k : IntKind) (e : TypeId) (f : Int → Int) (l : List Int) (w : World) (r : Ending) (w' : World) : Prop :=
  ∃ a cap, r = .returned (.slice a l.length cap) ∧ w'.ownsRow w.heap.size e 1 (.slice a (l.length + 12) cap) (l.length + 12) ((l ++ marksF f 12).map (Value.int k)) ∧ Below w.heap.size w w'

set_option maxRecDepth 100000 in
set_option maxHeartbeats 1000000 in
theorem lentNums_own (w : World) (a : Option Addr) (len cap : Nat) (l : List Int) (hs : Sl .u64 w a len cap l) (hlen : len ≤ 1000000) :
    Calls Tryd.prog 38 #[.slice a len cap] w (LentO .u64 30 markN l w) := by
  obtain ⟨i0, hi, hz0, hz1, hz2⟩ := info_parts infoUL
  obtain rfl : l.length = len := hs.1
  go_enter Tryd.func38, Tryd.ntmps38
  go_wp2_with (at_make; refine wpList_make_own _ rfl (.const (.int .i64 0)) (.tmp 7) 22 rfl w.heap.size 30 i0 (.int .u64 0) 1 Tryd.underlying22 hi hz0 hz1 .i64 .i64 _ (l.length + 12) rfl rfl (by omega) ?c1 ?c2 ?c3 ?_)
  case c1 => first | omega | (rw [hz2]; omega)
  case c2 => unfold maxLen; omega
  case c3 => exact Nat.le_refl _
  intro w1 hown hgrow
  have hB : Below w.heap.size w w1 := (Below.refl _ _).grown hgrow (Nat.le_refl _) (fun k hk => by cases hk)
  have hs1 := hs.below hB
  have hsz := hB.size
  have hown' : w1.ownsRow w.heap.size 30 1 (.slice (some ⟨w.heap.size, 0, none⟩) 0 (l.length + 12)) ([] : List Int).length (([] : List Int).map (Value.int .u64)) := hown
  clear hgrow hown
  go_wp2_with (at_builtin; refine wpList_append_onsl _ rfl (.tmp 9) (.tmp 10) 22 rfl .u64 w.heap.size 30 i0 8 Tryd.underlying22 hi hz0 hz1 hz2 _ [] a l.length cap l rfl rfl hown' hs1 (by unfold maxLen; simp; omega) (by simp; omega) hsz ?_)
  intro v2 w2 hown2 hgrow2
  have hB2 : Below w.heap.size w w2 := hB.grown hgrow2 hsz (fun k hk => (hown'.lt k hk).1)
  have hown3 : w2.ownsRow w.heap.size 30 1 v2 (l ++ marksF markN 0).length ((l ++ marksF markN 0).map (Value.int .u64)) := by simpa [marksF] using hown2
  clear hgrow2 hown2 hown' hs1 hB
  go_wp2_with fail
  go_loopw [3, 4] (fun v i wr => ∃ j : Nat, i = .int .i64 j ∧ j ≤ 12 ∧ wr.ownsRow w.heap.size 30 1 v (l ++ marksF markN j).length ((l ++ marksF markN j).map (Value.int .u64)) ∧ Below w.heap.size w wr) (fun _ i _ => 12 - (intOf i).toNat)
  case atStart => exact ⟨0, rfl, by omega, hown3, hB2⟩
  case round =>
    obtain ⟨j, rfl, hj, hownj, hBj⟩ := hrel
    have hszj := hBj.size
    obtain ⟨m, hm⟩ : ∃ m, m = l ++ marksF markN j := ⟨_, rfl⟩
    rw [← hm] at hownj
    have hml : m.length = l.length + j := by rw [hm, List.length_append, marksF_length]
    have hm2 : l ++ marksF markN (j + 1) = m ++ [markN j] := by rw [hm, List.append_assoc]; rfl
    have HM := Lib.hid hm
    have HM2 := Lib.hid hm2
    have HML := Lib.hid hml
    have hmb : m.length ≤ 1000012 := by omega
    clear hm hm2 hml
    by_cases hlt : j < 12
    · go_wp2_with (first | (go_at_call 72; refine (markNum_any (j : Int) _ (by omega) (by omega)).mono ?_; rintro e w' ⟨rfl, rfl⟩) | (at_builtin; refine wpList_append_own _ rfl (.tmp 16) (.tmp 19) 22 rfl w.heap.size 30 i0 (.int .u64 0) 1 8 Tryd.underlying22 hi hz0 hz1 hz2 rfl (by decide) _ _ _ rfl (hownj.alloc _) ⟨wr.heap.size, 0, none⟩ 1 1 [.int .u64 (markN j)] rfl rfl ?d1 ?d2 ?d3 ?d4 ?d5 ?_))
      case d1 => exact one_cell _ _ _ _
      case d2 => first | rfl | exact one_one _ _
      case d3 => unfold maxLen; omega
      case d4 => omega
      case d5 => first | omega | (simp; omega)
      · intro v' w3 hown4 hgrow4 _
        have hB3 : Below w.heap.size w w3 := (hBj.alloc hszj _).grown hgrow4 (by simp; omega) (fun k hk => (hownj.lt k hk).1)
        clear hgrow4 hownj hBj
        go_wp2_with fail
        go_roundw
        case rel => exact ⟨j + 1, by go_num, by omega, by rw [HM2.out]; simpa using hown4, hB3⟩
        case measure => simp [intOf]; omega
    · obtain rfl : j = 12 := by omega
      obtain ⟨a', cap', rfl⟩ := own_shape hownj
      have hsl := own_sl hownj
      have hc := hsl.2.1
      have hlc : (l.length : Int) ≤ (cap' : Int) := by have := HML.out; omega
      go_wp2_with fail
      go_ret
      refine ⟨a', cap', rfl, ?_, hBj⟩
      have := HML.out
      rw [← HM.out, ← this]
      exact hownj

theorem lentNums_any (w : World) (a : Option Addr) (len cap : Nat) (l : List Int) (hs : Sl .u64 w a len cap l) (hlen : len ≤ 1000000) :
    Calls Tryd.prog 38 #[.slice a len cap] w (Lent .u64 markN l w) :=
  (lentNums_own w a len cap l hs hlen).mono fun _ _ ⟨a', c', he, ho, hB⟩ => ⟨a', c', he, own_sl ho, hB⟩

set_option maxRecDepth 100000 in
set_option maxHeartbeats 1000000 in
theorem lentInts_own (w : World) (a : Option Addr) (len cap : Nat) (l : List Int) (hs : Sl .i64 w a len cap l) (hlen : len ≤ 1000000) :
    Calls Tryd.prog 50 #[.slice a len cap] w (LentO .i64 3 markI l w) := by
  obtain ⟨i0, hi, hz0, hz1, hz2⟩ := info_parts infoIL
  obtain rfl : l.length = len := hs.1
  go_enter Tryd.func50, Tryd.ntmps50
  go_wp2_with (at_make; refine wpList_make_own _ rfl (.const (.int .i64 0)) (.tmp 7) 27 rfl w.heap.size 3 i0 (.int .i64 0) 1 Tryd.underlying27 hi hz0 hz1 .i64 .i64 _ (l.length + 12) rfl rfl (by omega) ?c1 ?c2 ?c3 ?_)
  case c1 => first | omega | (rw [hz2]; omega)
  case c2 => unfold maxLen; omega
  case c3 => exact Nat.le_refl _
  intro w1 hown hgrow
  have hB : Below w.heap.size w w1 := (Below.refl _ _).grown hgrow (Nat.le_refl _) (fun k hk => by cases hk)
  have hs1 := hs.below hB
  have hsz := hB.size
  have hown' : w1.ownsRow w.heap.size 3 1 (.slice (some ⟨w.heap.size, 0, none⟩) 0 (l.length + 12)) ([] : List Int).length (([] : List Int).map (Value.int .i64)) := hown
  clear hgrow hown
  go_wp2_with (at_builtin; refine wpList_append_onsl _ rfl (.tmp 9) (.tmp 10) 27 rfl .i64 w.heap.size 3 i0 8 Tryd.underlying27 hi hz0 hz1 hz2 _ [] a l.length cap l rfl rfl hown' hs1 (by unfold maxLen; simp; omega) (by simp; omega) hsz ?_)
  intro v2 w2 hown2 hgrow2
  have hB2 : Below w.heap.size w w2 := hB.grown hgrow2 hsz (fun k hk => (hown'.lt k hk).1)
  have hown3 : w2.ownsRow w.heap.size 3 1 v2 (l ++ marksF markI 0).length ((l ++ marksF markI 0).map (Value.int .i64)) := by simpa [marksF] using hown2
  clear hgrow2 hown2 hown' hs1 hB
  go_wp2_with fail
  go_loopw [3, 4] (fun v i wr => ∃ j : Nat, i = .int .i64 j ∧ j ≤ 12 ∧ wr.ownsRow w.heap.size 3 1 v (l ++ marksF markI j).length ((l ++ marksF markI j).map (Value.int .i64)) ∧ Below w.heap.size w wr) (fun _ i _ => 12 - (intOf i).toNat)
  case atStart => exact ⟨0, rfl, by omega, hown3, hB2⟩
  case round =>
    obtain ⟨j, rfl, hj, hownj, hBj⟩ := hrel
    have hszj := hBj.size
    obtain ⟨m, hm⟩ : ∃ m, m = l ++ marksF markI j := ⟨_, rfl⟩
    rw [← hm] at hownj
    have hml : m.length = l.length + j := by rw [hm, List.length_append, marksF_length]
    have hm2 : l ++ marksF markI (j + 1) = m ++ [markI j] := by rw [hm, List.append_assoc]; rfl
    have HM := Lib.hid hm
    have HM2 := Lib.hid hm2
    have HML := Lib.hid hml
    have hmb : m.length ≤ 1000012 := by omega
    clear hm hm2 hml
    by_cases hlt : j < 12
    · go_wp2_with (first | (go_at_call 73; refine (mark_any (j : Int) _ (by omega) (by omega)).mono ?_; rintro e w' ⟨rfl, rfl⟩) | (at_builtin; refine wpList_append_own _ rfl (.tmp 16) (.tmp 19) 27 rfl w.heap.size 3 i0 (.int .i64 0) 1 8 Tryd.underlying27 hi hz0 hz1 hz2 rfl (by decide) _ _ _ rfl (hownj.alloc _) ⟨wr.heap.size, 0, none⟩ 1 1 [.int .i64 (markI j)] rfl rfl ?d1 ?d2 ?d3 ?d4 ?d5 ?_))
      case d1 => exact one_cell _ _ _ _
      case d2 => first | rfl | exact one_one _ _
      case d3 => unfold maxLen; omega
      case d4 => omega
      case d5 => first | omega | (simp; omega)
      · intro v' w3 hown4 hgrow4 _
        have hB3 : Below w.heap.size w w3 := (hBj.alloc hszj _).grown hgrow4 (by simp; omega) (fun k hk => (hownj.lt k hk).1)
        clear hgrow4 hownj hBj
        go_wp2_with fail
        go_roundw
        case rel => exact ⟨j + 1, by go_num, by omega, by rw [HM2.out]; simpa using hown4, hB3⟩
        case measure => simp [intOf]; omega
    · obtain rfl : j = 12 := by omega
      obtain ⟨a', cap', rfl⟩ := own_shape hownj
      have hsl := own_sl hownj
      have hc := hsl.2.1
      have hlc : (l.length : Int) ≤ (cap' : Int) := by have := HML.out; omega
      go_wp2_with fail
      go_ret
      refine ⟨a', cap', rfl, ?_, hBj⟩
      have := HML.out
      rw [← HM.out, ← this]
      exact hownj

theorem lentInts_any (w : World) (a : Option Addr) (len cap : Nat) (l : List Int) (hs : Sl .i64 w a len cap l) (hlen : len ≤ 1000000) :
    Calls Tryd.prog 50 #[.slice a len cap] w (Lent .i64 markI l w) :=
  (lentInts_own w a len cap l hs hlen).mono fun _ _ ⟨a', c', he, ho, hB⟩ => ⟨a', c', he, own_sl ho, hB⟩

set_option maxHeartbeats 1000000 in
theorem keptNums_any (w : World) (a a2 : Option Addr) (cap len cap2 : Nat) (l : List Int) (hs : Sl .u64 w a (l.length + 12) cap (l ++ marksF markN 12)) (hs2 : Sl .u64 w a2 len cap2 l) (hlen : l.length ≤ 1000000) :
    Calls Tryd.prog 49 #[.slice a l.length cap, .slice a2 len cap2] w fun e w' => e = .returned (.bool true) ∧ Draws w w' := by
  obtain rfl : l.length = len := hs2.1
  have hne : ((l.length : Int) != (l.length : Int)) = false := by simp
  have hc1 := hs.2.1
  have hc3 := hs.2.2.1
  have hcI : (l.length : Int) + 12 ≤ (cap : Int) := by omega
  have htn : ((l.length : Int) + 12).toNat = l.length + 12 := by omega
  go_enter Tryd.func49, Tryd.ntmps49
  go_wp2_with fail
  go_loopw [6] (fun i wr => ∃ j : Nat, i = .int .i64 j ∧ j ≤ l.length + 12 ∧ Draws w wr) (fun i _ => (l.length + 12) - (intOf i).toNat)
  case atStart => exact ⟨0, rfl, by omega, 0, rfl⟩
  case round =>
    obtain ⟨j, rfl, hj, hD⟩ := hrel
    have hsr := hs.below hD.below
    have hsr2 := hs2.below hD.below
    by_cases hlt : j < l.length + 12
    · obtain ⟨b, off, rfl, hcell⟩ := hsr.idx2 hlt
      have hjI : (j : Int) < (l.length : Int) + 12 := by omega
      by_cases hjl : j < l.length
      · obtain ⟨b2, off2, rfl, hcell2⟩ := hsr2.idx2 hjl
        rw [app_left hjl] at hcell
        obtain ⟨p, hp⟩ : ∃ p, p = l[j]?.getD 0 := ⟨_, rfl⟩
        rw [← hp] at hcell hcell2
        clear hp
        have hd1 : decide (j < l.length) = true := by simp; exact hjl
        have hd2 : decide (l.length ≤ j) = false := by simp; omega
        go_wp2_with fail
        go_quiet (fail)
        go_wp2_with fail
        go_roundw
        case rel => exact ⟨j + 1, by go_num, by omega, hD.more nq⟩
        case measure => simp [intOf]; omega
      · rw [app_right (by omega), marksF_at _ _ _ (by omega)] at hcell
        have hd1 : decide (j < l.length) = false := by simp; omega
        have hd2 : decide (l.length ≤ j) = true := by simp; omega
        have hsub : (j : Int) - (l.length : Int) = ((j - l.length : Nat) : Int) := by omega
        have hm := fun w => (markNum_any ((j - l.length : Nat) : Int) w (by omega) (by omega)).mono (R' := fun e w' => e = .returned (.int .u64 (markN ((j - l.length : Nat) : Int))) ∧ w' = w) (fun _ _ h => ⟨h.1, h.2.symm⟩)
        go_wp2_with fail
        go_quiet ((go_at_call 72; exact Calls.quiet_of_same (hm _)))
        go_wp2_with fail
        go_roundw
        case rel => exact ⟨j + 1, by go_num, by omega, hD.more nq⟩
        case measure => simp [intOf]; omega
    · obtain rfl : j = l.length + 12 := by omega
      have hjI : ¬ ((l.length + 12 : Nat) : Int) < (l.length : Int) + 12 := by omega
      go_wp2_with fail
      go_ret
      exact ⟨rfl, hD⟩

set_option maxHeartbeats 1000000 in
theorem keptInts_any (w : World) (a a2 : Option Addr) (cap len cap2 : Nat) (l : List Int) (hs : Sl .i64 w a (l.length + 12) cap (l ++ marksF markI 12)) (hs2 : Sl .i64 w a2 len cap2 l) (hlen : l.length ≤ 1000000) :
    Calls Tryd.prog 52 #[.slice a l.length cap, .slice a2 len cap2] w fun e w' => e = .returned (.bool true) ∧ Draws w w' := by
  obtain rfl : l.length = len := hs2.1
  have hne : ((l.length : Int) != (l.length : Int)) = false := by simp
  have hc1 := hs.2.1
  have hc3 := hs.2.2.1
  have hcI : (l.length : Int) + 12 ≤ (cap : Int) := by omega
  have htn : ((l.length : Int) + 12).toNat = l.length + 12 := by omega
  go_enter Tryd.func52, Tryd.ntmps52
  go_wp2_with fail
  go_loopw [6] (fun i wr => ∃ j : Nat, i = .int .i64 j ∧ j ≤ l.length + 12 ∧ Draws w wr) (fun i _ => (l.length + 12) - (intOf i).toNat)
  case atStart => exact ⟨0, rfl, by omega, 0, rfl⟩
  case round =>
    obtain ⟨j, rfl, hj, hD⟩ := hrel
    have hsr := hs.below hD.below
    have hsr2 := hs2.below hD.below
    by_cases hlt : j < l.length + 12
    · obtain ⟨b, off, rfl, hcell⟩ := hsr.idx2 hlt
      have hjI : (j : Int) < (l.length : Int) + 12 := by omega
      by_cases hjl : j < l.length
      · obtain ⟨b2, off2, rfl, hcell2⟩ := hsr2.idx2 hjl
        rw [app_left hjl] at hcell
        obtain ⟨p, hp⟩ : ∃ p, p = l[j]?.getD 0 := ⟨_, rfl⟩
        rw [← hp] at hcell hcell2
        clear hp
        have hd1 : decide (j < l.length) = true := by simp; exact hjl
        have hd2 : decide (l.length ≤ j) = false := by simp; omega
        go_wp2_with fail
        go_quiet (fail)
        go_wp2_with fail
        go_roundw
        case rel => exact ⟨j + 1, by go_num, by omega, hD.more nq⟩
        case measure => simp [intOf]; omega
      · rw [app_right (by omega), marksF_at _ _ _ (by omega)] at hcell
        have hd1 : decide (j < l.length) = false := by simp; omega
        have hd2 : decide (l.length ≤ j) = true := by simp; omega
        have hsub : (j : Int) - (l.length : Int) = ((j - l.length : Nat) : Int) := by omega
        have hm := fun w => (mark_any ((j - l.length : Nat) : Int) w (by omega) (by omega)).mono (R' := fun e w' => e = .returned (.int .i64 (markI ((j - l.length : Nat) : Int))) ∧ w' = w) (fun _ _ h => ⟨h.1, h.2.symm⟩)
        go_wp2_with fail
        go_quiet ((go_at_call 73; exact Calls.quiet_of_same (hm _)))
        go_wp2_with fail
        go_roundw
        case rel => exact ⟨j + 1, by go_num, by omega, hD.more nq⟩
        case measure => simp [intOf]; omega
    · obtain rfl : j = l.length + 12 := by omega
      have hjI : ¬ ((l.length + 12 : Nat) : Int) < (l.length : Int) + 12 := by omega
      go_wp2_with fail
      go_ret
      exact ⟨rfl, hD⟩

end Go.Proofs.YtcdjfgkjllonhaaDoor
