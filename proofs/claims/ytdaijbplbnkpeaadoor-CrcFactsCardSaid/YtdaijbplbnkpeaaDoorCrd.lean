/-
  The contract of crc's Damages: for every list of bits.
-/
import Derived.Test.YtdaijbplbnkpeaaDoorCrc
namespace Go.Proofs.YtdaijbplbnkpeaaDoor
open Go.RowKit Go.Shelf

/-- All bits are there. -/
def inB (n : Nat) (l : List Int) : Bool := l.all fun k => decide (0 ≤ k ∧ k < 8 * (n : Int))
theorem inB_iff {n : Nat} {l : List Int} : inB n l = true ↔ ∀ k ∈ l, 0 ≤ k ∧ k < 8 * (n : Int) := by simp [inB]
theorem inB_no {n : Nat} {l : List Int} {k : Int} (hk : k ∈ l) (h : ¬ (0 ≤ k ∧ k < 8 * (n : Int))) : inB n l = false := by
  cases hh : inB n l with
  | false => rfl
  | true => exact absurd (inB_iff.1 hh k hk) h
/-- What Damages tells. -/
def dmR (n : Nat) (l : List Int) : Bool × Int :=
  if inB n l then (if 4096 < l.length then (false, 5) else (dmg n (l.map Int.toNat) != 0, 0)) else (false, 2)
theorem dmg_snoc (n : Nat) {l : List Int} {j : Nat} (hj : j < l.length) : dmg n ((l.take (j + 1)).map Int.toNat) = dmg n ((l.take j).map Int.toNat) ^^^ prt n (l[j]?.getD 0).toNat := by
  rw [List.take_succ_eq_append_getElem hj, List.map_append, dmg_append, List.getElem?_eq_getElem hj]
  simp [dmg]
theorem retB {a b : Bool} {c d : Int} (h : a = b) (h2 : c = d) : Ending.returned (.tuple #[.bool a, .int .i64 c]) = .returned (.tuple #[.bool b, .int .i64 d]) := by rw [h, h2]
theorem Sl.at {k : IntKind} {w : World} {a : Option Addr} {n cap : Nat} {l : List Int} (h : Sl k w a n cap l) {j : Nat} (hj : j < n) :
    ∃ (b o : Nat), a = some ⟨b, o, none⟩ ∧ b < w.heap.size ∧ w.cell? ⟨b, o + j, none⟩ = some (.int k (l[j]?.getD 0)) := by
  obtain ⟨_, _, _, h4⟩ := h
  rcases h4 with ⟨h0, _⟩ | ⟨b, o, ha, hb, hc⟩
  · omega
  · exact ⟨b, o, ha, hb, hc j hj⟩

set_option maxRecDepth 100000 in
set_option maxHeartbeats 1000000 in
theorem damages_any (n : Nat) (a : Option Addr) (m cap : Nat) (l : List Int) (w : World) (h4 : 4 ≤ n) (hn' : n ≤ 16777216) (hS : Sl .i64 w a m cap l) :
    Calls Tryd.prog 25 #[.int .i64 (n : Int), .slice a m cap] w fun e w' => e = .returned (.tuple #[.bool (dmR n l).1, .int .i64 (dmR n l).2]) ∧ Below w.heap.size w w' := by
  have hl := hS.1
  have hcap : m ≤ 9223372036854775807 := by have := hS.2.1; have := hS.2.2.1; omega
  have HS := Lib.hid hS
  have HL := Lib.hid hl
  obtain ⟨R, hR⟩ : ∃ R, R = dmR n l := ⟨_, rfl⟩
  rw [← hR]
  have HR := Lib.hid hR
  clear hS hl hR
  have hd0 : decide ((n : Int) < 4) = false := by simp; omega
  have hd1 : decide ((16777216 : Int) < (n : Int)) = false := by simp; omega
  go_enter Tryd.func25, Tryd.ntmps25
  go_wp2_with fail
  go_loop [19] (fun I => ∃ j : Nat, j ≤ m ∧ I = .int .i64 (j : Int) ∧ inB n (l.take j) = true) (fun I => m - (intOf I).toNat)
  case atStart => exact ⟨0, Nat.zero_le _, rfl, rfl⟩
  case round =>
    obtain ⟨j, hj, rfl, hin⟩ := hrel
    have HI := Lib.hid hin
    clear hin
    by_cases hlt : j < m
    · obtain ⟨b, o, rfl, hb, hcell⟩ := HS.out.at hlt
      obtain ⟨x, hx⟩ : ∃ x, x = l[j]?.getD 0 := ⟨_, rfl⟩
      rw [← hx] at hcell
      have HX := Lib.hid hx
      clear hx
      have hmem : x ∈ l := by rw [HX.out, List.getElem?_eq_getElem (by rw [HL.out]; exact hlt)]; exact List.getElem_mem _
      by_cases hok : 0 ≤ x ∧ x < 8 * (n : Int)
      · have hw : decide (0 ≤ x ∧ x < 8 * (n : Int)) = true := by simpa using hok
        have hwi := fun w => within_any x n w hn'
        rw [hw] at hwi
        have HO := Lib.hid hok
        clear hok hw hmem
        go_wp2_with fail
        refine (hwi _).mono ?_
        rintro e w' ⟨rfl, rfl⟩
        go_wp2_with fail
        go_round
        case rel =>
          refine ⟨j + 1, by omega, by go_num, ?_⟩
          rw [List.take_succ_eq_append_getElem (by rw [HL.out]; exact hlt)]
          have h1 := HI.out
          have h2 := HO.out
          rw [HX.out, List.getElem?_eq_getElem (by rw [HL.out]; exact hlt)] at h2
          unfold inB at h1 ⊢
          rw [List.all_append, h1]
          simpa using h2
        case measure => simp [intOf]; omega
      · have hw : decide (0 ≤ x ∧ x < 8 * (n : Int)) = false := by simpa using hok
        have hres : R = (false, 2) := by rw [HR.out]; unfold dmR; rw [inB_no hmem hok]; rfl
        have HRes := Lib.hid hres
        have hwi := fun w => within_any x n w hn'
        rw [hw] at hwi
        clear hok hw hmem hres
        go_wp2_with fail
        refine (hwi _).mono ?_
        rintro e w' ⟨rfl, rfl⟩
        go_wp2_with fail
        go_ret2
        exact ⟨retB (by rw [HRes.out]) (by rw [HRes.out]), Below.refl _ _⟩
    · obtain rfl : j = m := by omega
      have hall : inB n l = true := by have := HI.out; rwa [List.take_of_length_le (by rw [HL.out]; exact Nat.le_refl _)] at this
      have hall2 := inB_iff.1 hall
      by_cases hm : 4096 < j
      · have hres : R = (false, 5) := by rw [HR.out]; unfold dmR; rw [hall, HL.out]; simp [hm]
        have HRes := Lib.hid hres
        have hd2 : decide ((4096 : Int) < (j : Int)) = true := by simp; omega
        clear hres hall hall2
        go_wp2_with fail
        go_ret2
        exact ⟨retB (by rw [HRes.out]) (by rw [HRes.out]), Below.refl _ _⟩
      · have hres : R = (dmg n (l.map Int.toNat) != 0, 0) := by rw [HR.out]; unfold dmR; rw [hall, HL.out]; simp [hm]
        have HRes := Lib.hid hres
        have hd2 : decide ((4096 : Int) < (j : Int)) = false := by simp; omega
        have HA := Lib.hid hall2
        clear hres hall hall2
        go_wp2_with fail
        go_loopw [8, 33] (fun D I wr => ∃ d i : Nat, i ≤ j ∧ I = .int .i64 (i : Int) ∧ D = .int .u32 (d : Int) ∧ d = dmg n ((l.take i).map Int.toNat) ∧ Below w.heap.size w wr) (fun _ I _ => j - (intOf I).toNat)
        case atStart => exact ⟨0, 0, Nat.zero_le _, rfl, rfl, by simp [dmg], Below.refl _ _⟩
        case round =>
          obtain ⟨d, i, hi, rfl, rfl, hd, hB⟩ := hrel
          have hdl : d < 4294967296 := by rw [hd]; exact dmg_lt _ _
          have HD := Lib.hid hd
          clear hd
          by_cases hlt2 : i < j
          · obtain ⟨b, o, rfl, hb, hcell⟩ := HS.out.at hlt2
            have hmem : l[i]?.getD 0 ∈ l := by rw [List.getElem?_eq_getElem (by rw [HL.out]; exact hlt2)]; exact List.getElem_mem _
            have hrg := HA.out _ hmem
            obtain ⟨x, hx⟩ : ∃ x : Nat, (x : Int) = l[i]?.getD 0 := ⟨(l[i]?.getD 0).toNat, by omega⟩
            rw [← hx] at hcell hrg
            have hcell2 := (hB.cell (p := ⟨b, o + i, none⟩) hb).trans hcell
            have HX := Lib.hid hx
            have hxl : x < 8 * n := by omega
            clear hx hmem hrg hcell
            go_wp2_with fail
            refine (part_any n x wr hn' hxl).mono ?_
            rintro e w' ⟨rfl, hb2⟩
            have e1 := bits32_xor d (prt n x) hdl (prt_lt n x) _ _ rfl rfl
            go_wp2_with fail
            go_roundw
            case rel =>
              refine ⟨d ^^^ prt n x, i + 1, by omega, by go_num, rfl, ?_, below_step hB hb2⟩
              rw [dmg_snoc n (by rw [HL.out]; exact hlt2), ← HX.out, ← HD.out, Int.toNat_natCast]
            case measure => simp [intOf]; omega
          · obtain rfl : i = j := by omega
            have hdd : d = dmg n (l.map Int.toNat) := by rw [HD.out, List.take_of_length_le (by rw [HL.out]; exact Nat.le_refl _)]
            have hbb : ((d : Int) != 0) = R.1 := by
              rw [HRes.out, ← hdd]
              cases hq : d with
              | zero => rfl
              | succ d => simp; omega
            have hr2 : R.2 = 0 := by rw [HRes.out]
            have HDD := Lib.hid hdd
            clear hdd
            obtain ⟨R1, R2⟩ := R
            simp only at hbb hr2
            subst hr2
            have hcR := Lib.hid hbb
            clear hbb
            go_wp2_with fail
            go_ret2
            exact ⟨retB hcR.out rfl, hB⟩

set_option maxHeartbeats 400000 in
theorem damages_no (n : Int) (a : Option Addr) (m cap : Nat) (w : World) (h : n < 4 ∨ 16777216 < n) :
    Calls Tryd.prog 25 #[.int .i64 n, .slice a m cap] w fun e w' => e = .returned (.tuple #[.bool false, .int .i64 2]) ∧ w = w' := by
  by_cases h0 : n < 4
  · have hd0 : decide (n < 4) = true := by simpa using h0
    clear h
    go_enter Tryd.func25, Tryd.ntmps25
    go_wp2_with fail
    go_ret2
    exact ⟨rfl, rfl⟩
  · have h1 : 16777216 < n := by omega
    have hd0 : decide (n < 4) = false := by simpa using h0
    have hd1 : decide (16777216 < n) = true := by simpa using h1
    clear h
    go_enter Tryd.func25, Tryd.ntmps25
    go_wp2_with fail
    go_ret2
    exact ⟨rfl, rfl⟩
end Go.Proofs.YtdaijbplbnkpeaaDoor
