/-
  The contracts of the reference's Bit and Damages. No condition but those in each statement.
-/
import Derived.Test.YtdaijbplbnkpeaaDoorRgc
import Derived.Test.YtdaijbplbnkpeaaDoorCrd
namespace Go.Proofs.YtdaijbplbnkpeaaDoor
open Go.RowKit Go.Shelf

theorem flp_zero (n k : Nat) (hk : k < 8 * n) : flp (List.replicate n 0) k = (List.replicate n (0 : Int)).set (k / 8) ((2 : Int) ^ (k % 8)) := by
  unfold flp
  rw [List.getElem?_replicate, if_pos (by omega)]
  congr 1
  rw [Option.getD_some, show (0 : Int).toNat = 0 from rfl, Nat.zero_xor]; push_cast; rfl
theorem prt_zero (n k : Nat) (hk : k < 8 * n) : fol 0 (flp (List.replicate n 0) k) = prt n k := by
  have h := fol_flp 0 (l := List.replicate n 0) k (by rw [List.length_replicate]; exact hk)
  rw [h, fol_rep, hn_zero, Nat.zero_xor, List.length_replicate]
theorem bys_zeros (n : Nat) : Bys (List.replicate n 0) := fun x hx => by rw [List.eq_of_mem_replicate hx]; omega

set_option maxRecDepth 100000 in
set_option maxHeartbeats 1000000 in
theorem rbit_any (n k : Nat) (w : World) (hn' : n ≤ 1000) (hk : k < 8 * n) :
    Calls Tryd.prog 42 #[.int .i64 (n : Int), .int .i64 (k : Int)] w fun e w' => e = .returned (.tuple #[.int .u32 ((prt n k : Nat) : Int), .int .i64 0]) ∧ Below w.heap.size w w' := by
  obtain ⟨i0, hinf, hz0, hz1, hz2⟩ := info_parts infoU8
  have hd0 : decide ((n : Int) < 1) = false := by simp; omega
  have hd1 : decide ((16777216 : Int) < (n : Int)) = false := by simp; omega
  have hd2 : decide ((k : Int) < 0) = false := by simp
  have hd3 : decide (8 * (n : Int) ≤ (k : Int)) = false := by simp; omega
  have hpz := prt_zero n k hk
  have hfz := flp_zero n k hk
  go_enter Tryd.func42, Tryd.ntmps42
  go_wp2_with (at_make; refine wpList_make_full _ rfl _ _ 22 rfl w.heap.size 5 i0 (.int .u8 0) 1 Tryd.underlying22 hinf hz0 hz1 .i64 .i64 _ _ n rfl rfl rfl rfl (by rw [hz2]; omega) (by unfold maxLen; omega) (Nat.le_refl _) ?_)
  intro w0 hown0 hgrow0
  have hB0 : Below w.heap.size w w0 := (Below.refl _ _).grown hgrow0 (Nat.le_refl _) (fun _ hk => by cases hk)
  rw [made_zeros] at hown0
  obtain ⟨y, z, hy, e0, e1, e75, _, _, _, _⟩ := flip_facts hown0 (bys_zeros n) hk
  have hst := (hown0.stored (k / 8) (.int .u8 ((2 : Int) ^ (k % 8)))).1
  rw [← List.map_set, ← hfz] at hst
  have hB1 := hB0.setCell (p := ⟨w.heap.size, k / 8, none⟩) (Nat.le_refl _) (.int .u8 ((2 : Int) ^ (k % 8)))
  have hs1 := own_sl hst
  have q := rlinear_any _ _ _ _ _ hs1 (flp_bys (bys_zeros n) k) (by omega)
  rw [hpz] at q
  have i1 : (k : Int) / 8 < (n : Int) := by omega
  have i4 : ((k : Int) / 8).toNat = k / 8 := by omega
  have i5 : ((k : Int) % 8).toNat = k % 8 := by omega
  clear hgrow0 hown0 hst hpz hfz hs1
  go_wp2_with fail
  refine q.mono ?_
  rintro e w2 ⟨rfl, hb⟩
  go_wp2_with fail
  go_ret2
  exact ⟨rfl, below_step hB1 hb⟩
set_option maxHeartbeats 400000 in
theorem rbit_no (n k : Int) (w : World) (h : n < 1 ∨ 16777216 < n ∨ k < 0 ∨ 8 * n ≤ k) :
    Calls Tryd.prog 42 #[.int .i64 n, .int .i64 k] w fun e w' => e = .returned (.tuple #[.int .u32 0, .int .i64 2]) ∧ w = w' := by
  by_cases h0 : n < 1
  · have hd0 : decide (n < 1) = true := by simpa using h0
    clear h
    go_enter Tryd.func42, Tryd.ntmps42
    go_wp2_with fail
    go_ret2
    exact ⟨rfl, rfl⟩
  · have hd0 : decide (n < 1) = false := by simpa using h0
    by_cases h1 : 16777216 < n
    · have hd1 : decide (16777216 < n) = true := by simpa using h1
      clear h
      go_enter Tryd.func42, Tryd.ntmps42
      go_wp2_with fail
      go_ret2
      exact ⟨rfl, rfl⟩
    · have hd1 : decide (16777216 < n) = false := by simpa using h1
      by_cases h2 : k < 0
      · have hd2 : decide (k < 0) = true := by simpa using h2
        clear h
        go_enter Tryd.func42, Tryd.ntmps42
        go_wp2_with fail
        go_ret2
        exact ⟨rfl, rfl⟩
      · have hd2 : decide (k < 0) = false := by simpa using h2
        have h3 : 8 * n ≤ k := by omega
        have hd3 : decide (8 * n ≤ k) = true := by simpa using h3
        clear h
        go_enter Tryd.func42, Tryd.ntmps42
        go_wp2_with fail
        go_ret2
        exact ⟨rfl, rfl⟩
set_option maxHeartbeats 400000 in
theorem rdamages_no (n : Int) (a : Option Addr) (m cap : Nat) (w : World) (h : n < 4 ∨ 16777216 < n) :
    Calls Tryd.prog 43 #[.int .i64 n, .slice a m cap] w fun e w' => e = .returned (.tuple #[.bool false, .int .i64 2]) ∧ w = w' := by
  by_cases h0 : n < 4
  · have hd0 : decide (n < 4) = true := by simpa using h0
    clear h
    go_enter Tryd.func43, Tryd.ntmps43
    go_wp2_with fail
    go_ret2
    exact ⟨rfl, rfl⟩
  · have h1 : 16777216 < n := by omega
    have hd0 : decide (n < 4) = false := by simpa using h0
    have hd1 : decide (16777216 < n) = true := by simpa using h1
    clear h
    go_enter Tryd.func43, Tryd.ntmps43
    go_wp2_with fail
    go_ret2
    exact ⟨rfl, rfl⟩

set_option maxRecDepth 100000 in
set_option maxHeartbeats 2000000 in
theorem rdamages_any (n : Nat) (a : Option Addr) (m cap : Nat) (l : List Int) (w : World) (h4 : 4 ≤ n) (hn' : n ≤ 1000) (hS : Sl .i64 w a m cap l) :
    Calls Tryd.prog 43 #[.int .i64 (n : Int), .slice a m cap] w fun e w' => e = .returned (.tuple #[.bool (dmR n l).1, .int .i64 (dmR n l).2]) ∧ Below w.heap.size w w' := by
  obtain ⟨i0, hinf, hz0, hz1, hz2⟩ := info_parts infoU8
  have hl := hS.1
  have hcap : m ≤ 9223372036854775807 := by have := hS.2.1; have := hS.2.2.1; omega
  have HS := Lib.hid hS
  have HL := Lib.hid hl
  obtain ⟨R, hR⟩ : ∃ R, R = dmR n l := ⟨_, rfl⟩
  rw [← hR]
  have HR := Lib.hid hR
  clear hS hl hR
  have hd0 : decide ((n : Int) < 4) = false := by simp; omega
  have hd1 : decide ((16777216 : Int) < (n : Int)) = false := by simp; omega
  go_enter Tryd.func43, Tryd.ntmps43
  go_wp2_with fail
  go_loop [6] (fun I => ∃ j : Nat, j ≤ m ∧ I = .int .i64 (j : Int) ∧ inB n (l.take j) = true) (fun I => m - (intOf I).toNat)
  case atStart => exact ⟨0, Nat.zero_le _, rfl, rfl⟩
  case round =>
    obtain ⟨j, hj, rfl, hin⟩ := hrel
    have HI := Lib.hid hin
    clear hin
    by_cases hlt : j < m
    · obtain ⟨b, o, rfl, hb, hcell⟩ := HS.out.at hlt
      obtain ⟨x, hx⟩ : ∃ x, x = l[j]?.getD 0 := ⟨_, rfl⟩
      rw [← hx] at hcell
      have HX := Lib.hid hx
      clear hx
      have hmem : x ∈ l := by rw [HX.out, List.getElem?_eq_getElem (by rw [HL.out]; exact hlt)]; exact List.getElem_mem _
      by_cases hok : 0 ≤ x ∧ x < 8 * (n : Int)
      · have hc0 : decide (x < 0) = false := by simp; omega
        have hc1 : decide (8 * (n : Int) ≤ x) = false := by simp; omega
        have HO := Lib.hid hok
        clear hok hmem
        go_wp2_with fail
        go_round
        case rel =>
          refine ⟨j + 1, by omega, by go_num, ?_⟩
          rw [List.take_succ_eq_append_getElem (by rw [HL.out]; exact hlt)]
          have h1 := HI.out
          have h2 := HO.out
          rw [HX.out, List.getElem?_eq_getElem (by rw [HL.out]; exact hlt)] at h2
          unfold inB at h1 ⊢
          rw [List.all_append, h1]
          simpa using h2
        case measure => simp [intOf]; omega
      · have hres : R = (false, 2) := by rw [HR.out]; unfold dmR; rw [inB_no hmem hok]; rfl
        have HRes := Lib.hid hres
        by_cases hx0 : x < 0
        · have hc0 : decide (x < 0) = true := by simpa using hx0
          clear hok hmem hres
          go_wp2_with fail
          go_ret2
          exact ⟨retB (by rw [HRes.out]) (by rw [HRes.out]), Below.refl _ _⟩
        · have hc0 : decide (x < 0) = false := by simpa using hx0
          have hc1 : decide (8 * (n : Int) ≤ x) = true := by simp; omega
          clear hok hmem hres
          go_wp2_with fail
          go_ret2
          exact ⟨retB (by rw [HRes.out]) (by rw [HRes.out]), Below.refl _ _⟩
    · obtain rfl : j = m := by omega
      have hall : inB n l = true := by have := HI.out; rwa [List.take_of_length_le (by rw [HL.out]; exact Nat.le_refl _)] at this
      have hall2 := inB_iff.1 hall
      by_cases hm : 4096 < j
      · have hres : R = (false, 5) := by rw [HR.out]; unfold dmR; rw [hall, HL.out]; simp [hm]
        have HRes := Lib.hid hres
        have hd2 : decide ((4096 : Int) < (j : Int)) = true := by simp; omega
        clear hres hall hall2
        go_wp2_with fail
        go_ret2
        exact ⟨retB (by rw [HRes.out]) (by rw [HRes.out]), Below.refl _ _⟩
      · have hres : R = (dmg n (l.map Int.toNat) != 0, 0) := by rw [HR.out]; unfold dmR; rw [hall, HL.out]; simp [hm]
        have HRes := Lib.hid hres
        have hd2 : decide ((4096 : Int) < (j : Int)) = false := by simp; omega
        have HA := Lib.hid hall2
        obtain ⟨t, ht⟩ : ∃ t, t = n - 4 := ⟨_, rfl⟩
        have hti : (n : Int) - 4 = (t : Int) := by omega
        have htn : t + 4 = n := by omega
        clear hres hall hall2 ht
        go_wp2_with (at_make; refine wpList_make_full _ rfl _ _ 22 rfl w.heap.size 5 i0 (.int .u8 0) 1 Tryd.underlying22 hinf hz0 hz1 .i64 .i64 _ _ t rfl rfl rfl rfl (by rw [hz2]; omega) (by unfold maxLen; omega) (Nat.le_refl _) ?_)
        intro w0 hown0 hgrow0
        have hB0 : Below w.heap.size w w0 := (Below.refl _ _).grown hgrow0 (Nat.le_refl _) (fun _ hk => by cases hk)
        rw [made_zeros] at hown0
        have hs0 := own_sl hown0
        have q := rseal_any _ _ _ _ w0 hs0 (bys_zeros t) (by omega)
        have hsea := sealed_of (bys_zeros t)
        have hbS := (bys_zeros t).append (le4_bys (upd 0 (List.replicate t 0)))
        have hlS : (List.replicate t (0 : Int) ++ le4 (upd 0 (List.replicate t 0))).length = n := by rw [List.length_append, le4_len, List.length_replicate]; exact htn
        obtain ⟨S, hSe⟩ : ∃ S, S = List.replicate t (0 : Int) ++ le4 (upd 0 (List.replicate t 0)) := ⟨_, rfl⟩
        rw [← hSe] at q hsea hbS hlS
        have HLS := Lib.hid hlS
        clear hgrow0 hown0 hs0 hSe hlS htn
        go_wp2_with fail
        refine q.mono ?_
        rintro e w1 ⟨v1, rfl, hm1⟩
        obtain ⟨a1, c1, rfl, _, hown1, hb1⟩ := hm1.view n HLS.out
        have hB1 := below_step hB0 hb1
        obtain ⟨g, c1', hge⟩ := ownsRow_form' hown1 (by omega)
        cases hge
        have hW0 := hB0.size
        clear q hm1 hb1 hB0
        go_wp2_with fail
        go_loopw [8] (fun I wr => ∃ i : Nat, i ≤ j ∧ I = .int .i64 (i : Int) ∧ wr.ownsRow w0.heap.size 5 1 (.slice (some ⟨g, 0, none⟩) n c1) n (((((l.take i).map Int.toNat)).foldl flp S).map (Value.int .u8)) ∧ Below w.heap.size w wr) (fun I _ => j - (intOf I).toNat)
        case atStart => exact ⟨0, by omega, rfl, hown1, hB1⟩
        case round =>
          obtain ⟨i, hi, rfl, hA, hB⟩ := hrel
          clear hown1 hB1
          by_cases hlt2 : i < j
          · obtain ⟨b, o, rfl, hb, hcell⟩ := HS.out.at hlt2
            have hmem : l[i]?.getD 0 ∈ l := by rw [List.getElem?_eq_getElem (by rw [HL.out]; exact hlt2)]; exact List.getElem_mem _
            have hrg := HA.out _ hmem
            obtain ⟨x, hx⟩ : ∃ x : Nat, (x : Int) = l[i]?.getD 0 := ⟨(l[i]?.getD 0).toNat, by omega⟩
            rw [← hx] at hcell hrg
            have hcell2 := (hB.cell (p := ⟨b, o + i, none⟩) hb).trans hcell
            have hxl : x < 8 * n := by omega
            have hbM := flps_bys hbS ((l.take i).map Int.toNat)
            obtain ⟨M, hM⟩ : ∃ M, M = ((l.take i).map Int.toNat).foldl flp S := ⟨_, rfl⟩
            have hM2 : ((l.take (i + 1)).map Int.toNat).foldl flp S = flp M x := by
              rw [hM, List.take_succ_eq_append_getElem (by rw [HL.out]; exact hlt2), List.map_append, List.foldl_append, List.map_cons, List.map_nil, List.foldl_cons, List.foldl_nil]
              congr 1
              rw [List.getElem?_eq_getElem (by rw [HL.out]; exact hlt2), Option.getD_some] at hx
              omega
            rw [← hM] at hA hbM
            obtain ⟨y, z, hy, e0, e1, e75, e76, hA2, hg2, hgB⟩ := flip_facts hA hbM hxl
            rw [← hM2] at hA2
            have hB2 := (hB.setCell (p := ⟨g, x / 8, none⟩) (Nat.le_trans hW0 hgB) (.int .u8 (z : Int)))
            have HA2 := Lib.hid hA2
            have i1 : (x : Int) / 8 < (n : Int) := by omega
            have i2 : (0 : Int) ≤ (x : Int) / 8 := by omega
            have i3 : (0 : Int) ≤ (x : Int) % 8 := by omega
            have i4 : ((x : Int) / 8).toNat = x / 8 := by omega
            have i5 : ((x : Int) % 8).toNat = x % 8 := by omega
            clear hx hmem hrg hcell hA hM hM2 hbM hg2 hA2 hB
            go_wp2_with fail
            go_region
            all_goals
              go_wp2_with fail
              go_roundw
              case rel => exact ⟨i + 1, by omega, by go_num, HA2.out.drew, hB2.drew⟩
              case measure => simp [intOf]; omega
          · obtain rfl : i = j := by omega
            have htk : l.take i = l := List.take_of_length_le (by rw [HL.out]; exact Nat.le_refl _)
            rw [htk] at hA
            obtain ⟨ks, hks⟩ : ∃ ks, ks = l.map Int.toNat := ⟨_, rfl⟩
            have hkl : ∀ k ∈ ks, k < 8 * S.length := by
              intro k hk
              rw [hks] at hk
              obtain ⟨x, hx, rfl⟩ := List.mem_map.1 hk
              have := HA.out x hx
              rw [HLS.out]; omega
            have hchg := chg_flps ks hkl
            rw [hsea.2, Nat.zero_xor, HLS.out] at hchg
            have hRes := HRes.out
            rw [← hks] at hA hRes
            have hsA := own_sl hA
            have q := rsealed_any _ _ _ _ wr hsA (flps_bys hbS ks) (by omega)
            have hsb : (!(seaB (ks.foldl flp S))) = (dmg n ks != 0) := by
              by_cases h0 : dmg n ks = 0
              · rw [seaB_yes ⟨by rw [hsA.1]; omega, by rw [hchg, h0]⟩, h0]; rfl
              · rw [seaB_no (fun h => h0 (by rw [← hchg]; exact h.2))]; simp [h0]
            obtain ⟨sb, hsbe⟩ : ∃ sb, sb = seaB (ks.foldl flp S) := ⟨_, rfl⟩
            rw [← hsbe] at q hsb
            have HSB := Lib.hid hsb
            have HRR := Lib.hid hRes
            clear hchg hsb hRes hsbe hkl hks hA htk
            go_wp2_with fail
            refine q.mono ?_
            rintro e w5 ⟨rfl, hb5⟩
            go_wp2_with fail
            go_ret2
            exact ⟨retB (by rw [HRR.out, ← HSB.out]) (by rw [HRR.out]), below_step hB hb5⟩
end Go.Proofs.YtdaijbplbnkpeaaDoor
