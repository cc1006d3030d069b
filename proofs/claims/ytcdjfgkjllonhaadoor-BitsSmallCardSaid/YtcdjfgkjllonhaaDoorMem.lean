/-
  What it is for a slice of integers to read as a list, and the contracts of SameBytes and SameNums: they tell whether two slices read alike, for any two slices; the world stays as it is, but for draws.
-/
import Derived.Test.YtcdjfgkjllonhaaDoorRows
import Derived.Test.YtcdjfgkjllonhaaDoorNum
import Derived.WalkKit
import Derived.WalkSpells
import Derived.WalkLawsBesides
import Derived.Lib.Hide
import Derived.Deep.QuietTactic
import Derived.BigQuiet
namespace Go.Proofs.YtcdjfgkjllonhaaDoor
open Go.RowKit

/-- A slice of integers that reads as the list l. -/
def Sl (k : IntKind) (w : World) (a : Option Addr) (len cap : Nat) (l : List Int) : Prop :=
  l.length = len ∧ len ≤ cap ∧ cap ≤ 9223372036854775807 ∧
  ((len = 0 ∧ cap = 0) ∨ ∃ b off, a = some ⟨b, off, none⟩ ∧ b < w.heap.size ∧ ∀ i, i < len → w.cell? ⟨b, off + i, none⟩ = some (.int k (l[i]?.getD 0)))

theorem Sl.below {k : IntKind} {w w' : World} {a : Option Addr} {len cap : Nat} {l : List Int} (h : Sl k w a len cap l) (hb : Below w.heap.size w w') : Sl k w' a len cap l := by
  obtain ⟨h1, h2, h3, h4⟩ := h
  refine ⟨h1, h2, h3, ?_⟩
  rcases h4 with h4 | ⟨b, off, ha, hlt, hc⟩
  · exact .inl h4
  · exact .inr ⟨b, off, ha, Nat.lt_of_lt_of_le hlt hb.size, fun i hi => (hb.cell (p := ⟨b, off + i, none⟩) hlt).trans (hc i hi)⟩

/-- Whether two lists are one; it is not unfolded. -/
def eqB (l m : List Int) : Bool := decide (l = m)
theorem eqB_yes {l m : List Int} (h : l = m) : eqB l m = true := by unfold eqB; simp [h]
theorem eqB_no {l m : List Int} (h : l ≠ m) : eqB l m = false := by unfold eqB; simp [h]
attribute [irreducible] eqB

/-- An ending with a bool. -/
theorem ret_bool {a b : Bool} (h : a = b) : Ending.returned (.bool a) = .returned (.bool b) := by rw [h]

/-- Draws alone. -/
def Draws (w w' : World) : Prop := ∃ n, w' = w.drewN n

theorem Draws.below {w w' : World} (h : Draws w w') : Below w.heap.size w w' := by
  obtain ⟨n, rfl⟩ := h
  exact below_drewN (Below.refl _ _) n

theorem drewN_add (w : World) (n m : Nat) : (w.drewN n).drewN m = w.drewN (n + m) := by
  simp [World.drewN, Nat.add_assoc]

theorem take_eq_of {l m : List Int} {j : Nat} (h : l.take j = m.take j) (hl : j < l.length) (hm : j < m.length) (he : l[j]?.getD 0 = m[j]?.getD 0) : l.take (j + 1) = m.take (j + 1) := by
  rw [List.take_succ_eq_append_getElem hl, List.take_succ_eq_append_getElem hm, h]
  simp [hl, hm] at he
  rw [he]

theorem take_ne_of {l m : List Int} {j : Nat} (he : l[j]?.getD 0 ≠ m[j]?.getD 0) : l ≠ m := fun h => he (by rw [h])

theorem eq_of_take {l m : List Int} {n : Nat} (hl : l.length = n) (hm : m.length = n) (h : l.take n = m.take n) : l = m := by
  rw [List.take_of_length_le (by omega), List.take_of_length_le (by omega)] at h
  exact h

set_option maxHeartbeats 1000000 in
theorem sameBytes_any (w : World) (a1 a2 : Option Addr) (n1 c1 n2 c2 : Nat) (l1 l2 : List Int) (h1 : Sl .u8 w a1 n1 c1 l1) (h2 : Sl .u8 w a2 n2 c2 l2) :
    Calls Tryd.prog 94 #[.slice a1 n1 c1, .slice a2 n2 c2] w fun e w' => e = .returned (.bool (eqB l1 l2)) ∧ Draws w w' := by
  obtain ⟨hl1, hc1, hm1, hr1⟩ := h1
  obtain ⟨hl2, hc2, hm2, hr2⟩ := h2
  by_cases hn : n1 = n2
  · subst hn
    have hb : ((n1 : Int) != (n1 : Int)) = false := by simp
    have HL1 := Lib.hid hl1
    have HL2 := Lib.hid hl2
    have HR1 := Lib.hid hr1
    have HR2 := Lib.hid hr2
    clear hl1 hl2 hr1 hr2
    go_enter Tryd.func94, Tryd.ntmps94
    go_wp2
    go_loopw [5] (fun i wr => ∃ (j n : Nat), i = .int .i64 j ∧ j ≤ n1 ∧ wr = w.drewN n ∧ l1.take j = l2.take j) (fun i _ => n1 - (intOf i).toNat)
    case atStart => exact ⟨0, 0, rfl, Nat.zero_le _, rfl, by simp⟩
    case round =>
      obtain ⟨j, n, rfl, hj, rfl, ht⟩ := hrel
      have HT := Lib.hid ht
      clear ht
      by_cases hlt : j < n1
      · have hx1 : ∃ b1 o1, a1 = some ⟨b1, o1, none⟩ ∧ w.cell? ⟨b1, o1 + j, none⟩ = some (.int .u8 (l1[j]?.getD 0)) := by
          rcases HR1.out with ⟨h0, _⟩ | ⟨b, o, h, _, hc⟩
          · omega
          · exact ⟨b, o, h, hc j hlt⟩
        have hx2 : ∃ b2 o2, a2 = some ⟨b2, o2, none⟩ ∧ w.cell? ⟨b2, o2 + j, none⟩ = some (.int .u8 (l2[j]?.getD 0)) := by
          rcases HR2.out with ⟨h0, _⟩ | ⟨b, o, h, _, hc⟩
          · omega
          · exact ⟨b, o, h, hc j hlt⟩
        obtain ⟨b1, o1, rfl, e1⟩ := hx1
        obtain ⟨b2, o2, rfl, e2⟩ := hx2
        by_cases hv : l1[j]?.getD 0 = l2[j]?.getD 0
        · have hvb : (l1[j]?.getD 0 != l2[j]?.getD 0) = false := by rw [hv]; simp
          have HV := Lib.hid hv
          clear hv
          go_wp2
          go_quiet (fail)
          go_wp2
          go_roundw
          case rel => exact ⟨j + 1, n + nq, by go_num, by omega, rfl, take_eq_of HT.out (by rw [HL1.out]; exact hlt) (by rw [HL2.out]; exact hlt) HV.out⟩
          case measure => simp [intOf]; omega
        · have hvb : (l1[j]?.getD 0 != l2[j]?.getD 0) = true := bne_iff_ne.2 hv
          have hres : eqB l1 l2 = false := eqB_no (take_ne_of hv)
          have HR := Lib.hid hres
          clear hres hv
          go_wp2
          go_quiet (fail)
          go_wp2
          go_ret
          exact ⟨ret_bool HR.out.symm, _, drewN_add w n nq⟩
      · obtain rfl : j = n1 := by omega
        have hres : eqB l1 l2 = true := eqB_yes (eq_of_take HL1.out HL2.out HT.out)
        have HR := Lib.hid hres
        clear hres
        go_wp2
        go_ret
        exact ⟨ret_bool HR.out.symm, _, rfl⟩
  · have hb : ((n1 : Int) != (n2 : Int)) = true := by simp; omega
    have hres : eqB l1 l2 = false := eqB_no (fun h => hn (by rw [← hl1, ← hl2, h]))
    have HR := Lib.hid hres
    clear hres hl1 hl2 hr1 hr2
    go_enter Tryd.func94, Tryd.ntmps94
    go_wp2
    go_ret
    exact ⟨ret_bool HR.out.symm, 0, rfl⟩

set_option maxHeartbeats 1000000 in
theorem sameNums_any (w : World) (a1 a2 : Option Addr) (n1 c1 n2 c2 : Nat) (l1 l2 : List Int) (h1 : Sl .u64 w a1 n1 c1 l1) (h2 : Sl .u64 w a2 n2 c2 l2) :
    Calls Tryd.prog 33 #[.slice a1 n1 c1, .slice a2 n2 c2] w fun e w' => e = .returned (.bool (eqB l1 l2)) ∧ Draws w w' := by
  obtain ⟨hl1, hc1, hm1, hr1⟩ := h1
  obtain ⟨hl2, hc2, hm2, hr2⟩ := h2
  by_cases hn : n1 = n2
  · subst hn
    have hb : ((n1 : Int) != (n1 : Int)) = false := by simp
    have HL1 := Lib.hid hl1
    have HL2 := Lib.hid hl2
    have HR1 := Lib.hid hr1
    have HR2 := Lib.hid hr2
    clear hl1 hl2 hr1 hr2
    go_enter Tryd.func33, Tryd.ntmps33
    go_wp2
    go_loopw [5] (fun i wr => ∃ (j n : Nat), i = .int .i64 j ∧ j ≤ n1 ∧ wr = w.drewN n ∧ l1.take j = l2.take j) (fun i _ => n1 - (intOf i).toNat)
    case atStart => exact ⟨0, 0, rfl, Nat.zero_le _, rfl, by simp⟩
    case round =>
      obtain ⟨j, n, rfl, hj, rfl, ht⟩ := hrel
      have HT := Lib.hid ht
      clear ht
      by_cases hlt : j < n1
      · have hx1 : ∃ b1 o1, a1 = some ⟨b1, o1, none⟩ ∧ w.cell? ⟨b1, o1 + j, none⟩ = some (.int .u64 (l1[j]?.getD 0)) := by
          rcases HR1.out with ⟨h0, _⟩ | ⟨b, o, h, _, hc⟩
          · omega
          · exact ⟨b, o, h, hc j hlt⟩
        have hx2 : ∃ b2 o2, a2 = some ⟨b2, o2, none⟩ ∧ w.cell? ⟨b2, o2 + j, none⟩ = some (.int .u64 (l2[j]?.getD 0)) := by
          rcases HR2.out with ⟨h0, _⟩ | ⟨b, o, h, _, hc⟩
          · omega
          · exact ⟨b, o, h, hc j hlt⟩
        obtain ⟨b1, o1, rfl, e1⟩ := hx1
        obtain ⟨b2, o2, rfl, e2⟩ := hx2
        by_cases hv : l1[j]?.getD 0 = l2[j]?.getD 0
        · have hvb : (l1[j]?.getD 0 != l2[j]?.getD 0) = false := by rw [hv]; simp
          have HV := Lib.hid hv
          clear hv
          go_wp2
          go_quiet (fail)
          go_wp2
          go_roundw
          case rel => exact ⟨j + 1, n + nq, by go_num, by omega, rfl, take_eq_of HT.out (by rw [HL1.out]; exact hlt) (by rw [HL2.out]; exact hlt) HV.out⟩
          case measure => simp [intOf]; omega
        · have hvb : (l1[j]?.getD 0 != l2[j]?.getD 0) = true := bne_iff_ne.2 hv
          have hres : eqB l1 l2 = false := eqB_no (take_ne_of hv)
          have HR := Lib.hid hres
          clear hres hv
          go_wp2
          go_quiet (fail)
          go_wp2
          go_ret
          exact ⟨ret_bool HR.out.symm, _, drewN_add w n nq⟩
      · obtain rfl : j = n1 := by omega
        have hres : eqB l1 l2 = true := eqB_yes (eq_of_take HL1.out HL2.out HT.out)
        have HR := Lib.hid hres
        clear hres
        go_wp2
        go_ret
        exact ⟨ret_bool HR.out.symm, _, rfl⟩
  · have hb : ((n1 : Int) != (n2 : Int)) = true := by simp; omega
    have hres : eqB l1 l2 = false := eqB_no (fun h => hn (by rw [← hl1, ← hl2, h]))
    have HR := Lib.hid hres
    clear hres hl1 hl2 hr1 hr2
    go_enter Tryd.func33, Tryd.ntmps33
    go_wp2
    go_ret
    exact ⟨ret_bool HR.out.symm, 0, rfl⟩
end Go.Proofs.YtcdjfgkjllonhaaDoor
