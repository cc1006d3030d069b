/-
  The contract of the laws' own function long: bytes of some length, newly laid. No condition but those in each statement.
-/
import Derived.Test.YtdaijbplbnkpeaaDoorQw2
namespace Go.Proofs.YtdaijbplbnkpeaaDoor
open Go.RowKit Go.Shelf

set_option maxRecDepth 100000 in
set_option maxHeartbeats 2000000 in
theorem long_any (a : Option Addr) (m cap n : Nat) (l : List Int) (w : World) (hS : Sl .u8 w a m cap l) (hB : Bys l) (hm : 0 < m) (hn' : n ≤ 1000000) :
    Calls Tryd.prog 26 #[.slice a m cap, .int .i64 (n : Int)] w fun e w' => ∃ v L, e = .returned v ∧ Bys L ∧ L.length = n ∧ Made w L v w' := by
  obtain ⟨i0, hinf, hz0, hz1, hz2⟩ := info_parts infoU8
  have hlc := hS.2.1
  have hcm := hS.2.2.1
  have h0 : ((m : Int) == 0) = false := by simp; omega
  have hne : ¬ (m : Int) = 0 := by omega
  go_enter Tryd.func26, Tryd.ntmps26
  go_wp2_with (at_make; refine wpList_make_full _ rfl _ _ 22 rfl w.heap.size 5 i0 (.int .u8 0) 1 Tryd.underlying22 hinf hz0 hz1 .i64 .i64 _ _ n rfl rfl rfl rfl (by rw [hz2]; omega) (by unfold maxLen; omega) (Nat.le_refl _) ?_)
  intro w0 hown0 hgrow0
  have hB0 : Below w.heap.size w w0 := (Below.refl _ _).grown hgrow0 (Nat.le_refl _) (fun _ hk => by cases hk)
  rw [made_zeros] at hown0
  clear hgrow0
  have hbz : Bys (List.replicate n 0) := fun x hx => by rw [List.eq_of_mem_replicate hx]; omega
  go_wp2_with fail
  go_loopw [15] (fun I wr => ∃ (j : Nat) (L : List Int), j ≤ n ∧ I = .int .i64 (j : Int) ∧ wr.ownsRow w.heap.size 5 1 (.slice (some ⟨w.heap.size, 0, none⟩) n n) n (L.map (Value.int .u8)) ∧ Bys L ∧ Below w.heap.size w wr) (fun I _ => n - (intOf I).toNat)
  case atStart => exact ⟨0, List.replicate n 0, by omega, rfl, hown0, hbz, hB0⟩
  case round =>
    obtain ⟨j, L, hj, rfl, hown, hbL, hBw⟩ := hrel
    clear hown0 hB0 hbz
    by_cases hlt : j < n
    · obtain ⟨r, hr, hrm⟩ : ∃ r : Nat, (j : Int) % (m : Int) = (r : Int) ∧ r < m := ⟨j % m, by omega, Nat.mod_lt _ hm⟩
      obtain ⟨d, hd⟩ : ∃ d : Nat, (j : Int) / (m : Int) = (d : Int) := ⟨j / m, by rw [Int.natCast_ediv]⟩
      have hr2 : (j : Int).tmod (m : Int) = (r : Int) := by rw [Int.tmod_eq_emod_of_nonneg (by omega), hr]
      have hd2 : (j : Int).tdiv (m : Int) = (d : Int) := by rw [Int.tdiv_eq_ediv_of_nonneg (by omega), hd]
      have hdj : d ≤ j := by have := Nat.div_le_self j m; have e : ((j / m : Nat) : Int) = (d : Int) := by rw [Int.natCast_ediv]; exact hd
                             omega
      obtain ⟨b1, o1, x, rfl, hx, hx2, c1⟩ := (hS.below hBw).byte hB hrm
      have hyl := hown.1
      obtain ⟨y0, hy0⟩ : ∃ y0, (L.map (Value.int .u8))[j]? = some y0 := ⟨_, List.getElem?_eq_getElem (by omega)⟩
      have e0 := hown.cellAt j (by omega)
      rw [hy0] at e0
      have e1 := hown.frozenAt j
      have hst := fun u => (hown.stored j u).1
      have hbl := fun u => hBw.setCell (p := ⟨w.heap.size, j, none⟩) (Nat.le_refl _) u
      have HST := Lib.hid hst
      have HBL := Lib.hid hbl
      clear hyl hown hst hbl hx hy0
      go_wp2_with fail
      go_region
      all_goals
        go_wp2_with fail
        go_roundw
        case rel =>
          refine ⟨j + 1, L.set j (((x : Int) + (d : Int)) % 256), by omega, by go_num, ?_, hbL.set j (by omega), (HBL.out _).drew⟩
          rw [List.map_set]; exact (HST.out _).drew
        case measure => simp [intOf]; omega
    · obtain rfl : j = n := by omega
      have hll : L.length = j := by have := hown.1; simpa using this
      go_wp2_with fail
      go_ret
      exact ⟨_, L, rfl, hbL, hll, by rw [hll]; exact hown, hBw⟩
set_option maxRecDepth 100000 in
set_option maxHeartbeats 2000000 in
theorem long_none (a : Option Addr) (cap n : Nat) (w : World) (hn' : n ≤ 1000000) :
    Calls Tryd.prog 26 #[.slice a 0 cap, .int .i64 (n : Int)] w fun e w' => ∃ v L, e = .returned v ∧ Bys L ∧ L.length = n ∧ Made w L v w' := by
  obtain ⟨i0, hinf, hz0, hz1, hz2⟩ := info_parts infoU8
  have hnw := one_sl w .u8 0 5
  have hbw : Below w.heap.size w (w.alloc (.cells #[.int .u8 0] 5)) := (Below.refl _ _).alloc (Nat.le_refl _) _
  have hbo : Bys [0] := bys_of (by decide)
  have hm : 0 < 1 := by omega
  go_enter Tryd.func26, Tryd.ntmps26
  go_wp2_with (at_make; refine wpList_make_full _ rfl _ _ 22 rfl w.heap.size 5 i0 (.int .u8 0) 1 Tryd.underlying22 hinf hz0 hz1 .i64 .i64 _ _ n rfl rfl rfl rfl (by rw [hz2]; omega) (by unfold maxLen; omega) (by simp) ?_)
  intro w0 hown0 hgrow0
  have hB0 : Below w.heap.size w w0 := hbw.grown hgrow0 (by simp) (fun _ hk => by cases hk)
  have hS0 : Sl .u8 w0 (some ⟨w.heap.size, 0, none⟩) 1 1 [0] := hnw.below ((Below.refl _ _).grown hgrow0 (Nat.le_refl _) (fun _ hk => by cases hk))
  have hc0 : w0.cell? ⟨w.heap.size, 0, none⟩ = some (.int .u8 0) := by
    obtain ⟨b, o, he, _, hc⟩ := hS0.at (j := 0) (by omega)
    cases he; exact hc
  have hsz0 : w.heap.size + 1 ≤ w0.heap.size := by have := hgrow0.size; simpa using this
  rw [made_zeros] at hown0
  clear hgrow0
  have hbz : Bys (List.replicate n 0) := fun x hx => by rw [List.eq_of_mem_replicate hx]; omega
  go_wp2_with fail
  go_loopw [15] (fun I wr => ∃ (j : Nat) (L : List Int), j ≤ n ∧ I = .int .i64 (j : Int) ∧ wr.ownsRow w.heap.size 5 1 (.slice (some ⟨w.heap.size + 1, 0, none⟩) n n) n (L.map (Value.int .u8)) ∧ Bys L ∧ Below w.heap.size w wr ∧ Below (w.heap.size + 1) w0 wr) (fun I _ => n - (intOf I).toNat)
  case atStart => exact ⟨0, List.replicate n 0, by omega, rfl, hown0, hbz, hB0, Below.refl _ _⟩
  case round =>
    obtain ⟨j, L, hj, rfl, hown, hbL, hBw, hBd⟩ := hrel
    clear hown0 hB0 hbz
    by_cases hlt : j < n
    · obtain ⟨r, hr, hrm⟩ : ∃ r : Nat, (j : Int) % 1 = (r : Int) ∧ r < 1 := ⟨j % 1, by omega, Nat.mod_lt _ hm⟩
      obtain ⟨d, hd⟩ : ∃ d : Nat, (j : Int) / 1 = (d : Int) := ⟨j, by omega⟩
      have hr2 : (j : Int).tmod 1 = (r : Int) := by rw [Int.tmod_eq_emod_of_nonneg (by omega), hr]
      have hd2 : (j : Int).tdiv 1 = (d : Int) := by rw [Int.tdiv_eq_ediv_of_nonneg (by omega), hd]
      have hdj : d ≤ j := by omega
      obtain rfl : r = 0 := by omega
      obtain ⟨x, hx⟩ : ∃ x : Nat, x = 0 := ⟨_, rfl⟩
      have hx2 : x < 256 := by omega
      have c1 : wr.cell? ⟨w.heap.size, 0, none⟩ = some (.int .u8 (x : Int)) := by rw [hx]; exact (hBd.cell (p := ⟨w.heap.size, 0, none⟩) (Nat.lt_succ_self _)).trans hc0
      have hyl := hown.1
      obtain ⟨y0, hy0⟩ : ∃ y0, (L.map (Value.int .u8))[j]? = some y0 := ⟨_, List.getElem?_eq_getElem (by omega)⟩
      have e0 := hown.cellAt j (by omega)
      rw [hy0] at e0
      have e1 := hown.frozenAt j
      have hst := fun u => (hown.stored j u).1
      have hbd := fun u => hBd.setCell (p := ⟨w.heap.size + 1, j, none⟩) (Nat.le_refl _) u
      have HBD := Lib.hid hbd
      have hbl := fun u => hBw.setCell (p := ⟨w.heap.size + 1, j, none⟩) (by simp) u
      have HST := Lib.hid hst
      have HBL := Lib.hid hbl
      clear hyl hown hst hbl hbd hx hy0
      go_wp2_with fail
      go_region
      all_goals
        go_wp2_with fail
        go_roundw
        case rel =>
          refine ⟨j + 1, L.set j (((x : Int) + (d : Int)) % 256), by omega, by go_num, ?_, hbL.set j (by omega), (HBL.out _).drew, (HBD.out _).drew⟩
          rw [List.map_set]; exact (HST.out _).drew
        case measure => simp [intOf]; omega
    · obtain rfl : j = n := by omega
      have hll : L.length = j := by have := hown.1; simpa using this
      go_wp2_with fail
      go_ret
      exact ⟨_, L, rfl, hbL, hll, by rw [hll]; exact hown, hBw⟩
end Go.Proofs.YtdaijbplbnkpeaaDoor
