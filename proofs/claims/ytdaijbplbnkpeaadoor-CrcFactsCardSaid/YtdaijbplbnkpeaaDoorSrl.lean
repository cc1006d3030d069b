/-
  The library's BinarySearch at uint32: what it says that it found is in the row.
-/
import Derived.Test.YtdaijbplbnkpeaaDoorSrk
namespace Go.Proofs.YtdaijbplbnkpeaaDoor
open Go.RowKit Go.Shelf

set_option maxHeartbeats 400000 in
theorem nan2_any (x : Int) (w : World) : Calls Tryd.prog 54 #[.int .u32 x] w fun e w' => e = .returned (.bool false) ∧ w = w' := by
  have h : (x != x) = false := by simp
  go_enter Tryd.func54, Tryd.ntmps54
  go_wp2_with fail
  go_ret
  exact ⟨rfl, rfl⟩

/-- What is found is there. -/
def BinOk (t : Int) (M : List Int) (w : World) (e : Ending) (w' : World) : Prop := ∃ (i : Nat) (f : Bool), e = .returned (.tuple #[.int .i64 (i : Int), .bool f]) ∧ (f = true → t ∈ M) ∧ w = w'

set_option maxRecDepth 100000 in
set_option maxHeartbeats 2000000 in
theorem bin_any (base g n c : Nat) (t : Int) (M : List Int) (w : World) (hR : Rw base g n c w M) (hn' : n ≤ 4294967296) :
    Calls Tryd.prog 30 #[.slice (some ⟨g, 0, none⟩) n c, .int .u32 t] w (BinOk t M w) := by
  have hl := hR.len
  have HR := Lib.hid hR
  clear hR
  go_enter Tryd.func30, Tryd.ntmps30
  go_wp2_with fail
  go_loop [7, 8] (fun I J => ∃ i j : Nat, i ≤ j ∧ j ≤ n ∧ I = .int .i64 (i : Int) ∧ J = .int .i64 (j : Int)) (fun I J => (intOf J).toNat - (intOf I).toNat)
  case atStart => exact ⟨0, n, by omega, by omega, rfl, rfl⟩
  case round =>
    obtain ⟨i, j, hij, hjn, rfl, rfl⟩ := hrel
    by_cases hlt : i < j
    · have hd : decide ((i : Int) < (j : Int)) = true := by simp; omega
      have hdn : decide (i < j) = true := by simp; omega
      obtain ⟨h, hh⟩ : ∃ h : Nat, (i + j) / 2 = h := ⟨_, rfl⟩
      have eh : ((i : Int) + (j : Int)) / 2 = (h : Int) := by omega
      have hw1 : IntKind.u64.wrap ((i : Int) + (j : Int)) = (i : Int) + (j : Int) := by rw [IntKind.wrap_u64]; omega
      have hhb : i ≤ h ∧ h < j := by omega
      have ih : (h : Int) < (n : Int) := by omega
      have cX := HR.out.at (j := h) (by omega)
      obtain ⟨V, hV⟩ : ∃ v, v = M[h]?.getD 0 := ⟨_, rfl⟩
      rw [← hV] at cX
      have ql := fun w => less_any V t w
      obtain ⟨bb, hbb⟩ : ∃ bb, bb = decide (V < t) := ⟨_, rfl⟩
      simp only [← hbb] at ql
      clear hV hbb hh
      go_wp2_with fail
      refine (ql _).mono ?_
      rintro e w' ⟨rfl, rfl⟩
      clear ql
      cases bb with
      | true =>
        go_wp2_with fail
        go_round
        case rel => exact ⟨h + 1, j, by omega, by omega, by go_num, rfl⟩
        case measure => simp [intOf]; omega
      | false =>
        go_wp2_with fail
        go_round
        case rel => exact ⟨i, h, by omega, by omega, rfl, rfl⟩
        case measure => simp [intOf]; omega
    · have hd : decide ((i : Int) < (j : Int)) = false := by simp; omega
      have hdn : decide (i < j) = false := by simp; omega
      by_cases hin : i < n
      · have hd2 : decide ((i : Int) < (n : Int)) = true := by simp; omega
        have i1 : (i : Int) < (n : Int) := by omega
        have cX := HR.out.at (j := i) hin
        by_cases he : M[i]?.getD 0 = t
        · rw [he] at cX
          have hmem : t ∈ M := by rw [List.getElem?_eq_getElem (by omega : i < M.length)] at he; rw [← he]; exact List.getElem_mem _
          have hbe : (t == t) = true := by simp
          have HM := Lib.hid hmem
          clear hmem he
          go_wp2_with fail
          go_ret2
          exact ⟨i, true, rfl, fun _ => HM.out, rfl⟩
        · obtain ⟨V, hV⟩ : ∃ v, v = M[i]?.getD 0 := ⟨_, rfl⟩
          rw [← hV] at cX he
          have hbe : (V == t) = false := by simpa using he
          clear hV he
          go_wp2_with fail
          refine (nan2_any V _).mono ?_
          rintro e w' ⟨rfl, rfl⟩
          go_wp2_with fail
          go_ret2
          exact ⟨i, false, rfl, (fun h => by cases h), rfl⟩
      · have hd2 : decide ((i : Int) < (n : Int)) = false := by simp; omega
        go_wp2_with fail
        go_ret2
        exact ⟨i, false, rfl, (fun h => by cases h), rfl⟩
end Go.Proofs.YtdaijbplbnkpeaaDoor
