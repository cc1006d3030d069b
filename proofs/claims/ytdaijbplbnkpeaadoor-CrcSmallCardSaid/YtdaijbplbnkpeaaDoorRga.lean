/-
  The contract of the reference's bits: the polynomial of bytes, times x^32, as coefficients; for at most 1000 bytes. No condition but those in each statement.
-/
import Derived.Test.YtdaijbplbnkpeaaDoorRfc
import Derived.Test.YtdaijbplbnkpeaaDoorHpl
import Derived.Test.YtdaijbplbnkpeaaDoorQw4
namespace Go.Proofs.YtdaijbplbnkpeaaDoor
open Go.RowKit Go.Shelf

/-- The coefficients, as far as they are set. -/
def hal (P M j : Nat) : List Int := (List.range (M + 32)).map fun i => if M + 32 - j ≤ i then cf P i else 0
theorem hal_len (P M j : Nat) : (hal P M j).length = M + 32 := by simp [hal]
theorem hal_zero (P M : Nat) : hal P M 0 = List.replicate (M + 32) 0 := by
  refine List.ext_getElem? fun i => ?_
  unfold hal
  rw [List.getElem?_map, List.getElem?_replicate]
  by_cases h : i < M + 32
  · rw [List.getElem?_range h, if_pos h, Option.map_some, if_neg (by omega)]
  · rw [List.getElem?_eq_none (by simp; omega), if_neg h]; rfl
theorem hal_step {P M j : Nat} (h : j < M) : (hal P M j).set (M + 32 - 1 - j) (cf P (M + 32 - 1 - j)) = hal P M (j + 1) := by
  refine List.ext_getElem? fun i => ?_
  rw [List.getElem?_set, hal_len]
  unfold hal
  rw [List.getElem?_map, List.getElem?_map]
  by_cases hi : i < M + 32
  · rw [List.getElem?_range hi, Option.map_some, Option.map_some]
    by_cases he : M + 32 - 1 - j = i
    · rw [if_pos he, if_pos (by omega), if_pos (by omega), he]
    · rw [if_neg he]
      congr 1
      by_cases hh : M + 32 - j ≤ i
      · rw [if_pos hh, if_pos (by omega)]
      · rw [if_neg hh, if_neg (by omega)]
  · rw [List.getElem?_eq_none (by simp; omega), if_neg (by omega)]; rfl
theorem hal_end {P M : Nat} (h : ∀ i, i < 32 → P.testBit i = false) : hal P M M = (List.range (M + 32)).map fun i => cf P i := by
  unfold hal
  refine List.map_congr_left fun i _ => ?_
  by_cases hh : M + 32 - M ≤ i
  · rw [if_pos hh]
  · rw [if_neg hh]; unfold cf; rw [h i (by omega)]; rfl
theorem made_zeros64 (n : Nat) : (madeCells #[Value.int .i64 0] n).toList = (List.replicate n (0 : Int)).map (Value.int .i64) := by
  unfold madeCells
  simp [Nat.mod_one, List.map_const']

set_option maxRecDepth 100000 in
set_option maxHeartbeats 2000000 in
theorem bits_any (a : Option Addr) (m cap : Nat) (l : List Int) (w : World) (hS : Sl .u8 w a m cap l) (hB : Bys l) (hm : m ≤ 1000) :
    Calls Tryd.prog 58 #[.slice a m cap] w (GivesP w (bp 0 l * 2 ^ 32)) := by
  obtain ⟨j0, jinf, jz0, jz1, jz2⟩ := info_parts infoInt
  have hlc := hS.2.1
  have hcm := hS.2.2.1
  have hl := hS.1
  have hPb : bl (bp 0 l * 2 ^ 32) ≤ 8 * m + 32 := bl_le.2 (by rw [Nat.pow_add]; exact Nat.mul_lt_mul_of_pos_right (by rw [← hl]; exact bp_bl hB) (Nat.two_pow_pos _))
  have hcf := fun k hk => bp_cf hB (k := k) hk
  have hlow : ∀ i, i < 32 → (bp 0 l * 2 ^ 32).testBit i = false := fun i hi => by
    have : ¬ 32 ≤ i := by omega
    rw [Nat.testBit_mul_two_pow]; simp [this]
  rw [hl] at hcf
  obtain ⟨P, hP⟩ : ∃ P, P = bp 0 l * 2 ^ 32 := ⟨_, rfl⟩
  rw [← hP] at hPb hcf hlow ⊢
  have HCF := Lib.hid hcf
  have HLOW := Lib.hid hlow
  have HPB := Lib.hid hPb
  clear hP hPb hcf hlow hl
  go_enter Tryd.func58, Tryd.ntmps58
  go_wp2_with (at_make; refine wpList_make_full _ rfl _ _ 82 rfl w.heap.size 3 j0 (.int .i64 0) 1 Tryd.underlying82 jinf jz0 jz1 .i64 .i64 _ _ (8 * m + 32) rfl rfl (by omega) (by omega) (by rw [jz2]; omega) (by unfold maxLen; omega) (Nat.le_refl _) ?_)
  intro w0 hown0 hgrow0
  have hB0 : Below w.heap.size w w0 := (Below.refl _ _).grown hgrow0 (Nat.le_refl _) (fun _ hk => by cases hk)
  rw [made_zeros64, ← hal_zero P (8 * m)] at hown0
  clear hgrow0
  go_wp2_with fail
  go_loopw [5] (fun I wr => ∃ j : Nat, j ≤ 8 * m ∧ I = .int .i64 (j : Int) ∧ wr.ownsRow w.heap.size 3 1 (.slice (some ⟨w.heap.size, 0, none⟩) (8 * m + 32) (8 * m + 32)) (8 * m + 32) ((hal P (8 * m) j).map (Value.int .i64)) ∧ Below w.heap.size w wr) (fun I _ => 8 * m - (intOf I).toNat)
  case atStart => exact ⟨0, by omega, rfl, hown0, hB0⟩
  case round =>
    obtain ⟨j, hj, rfl, hown, hBw⟩ := hrel
    clear hown0 hB0
    by_cases hlt : j < 8 * m
    · have hq8 : j / 8 < m := by omega
      obtain ⟨b1, o1, x, rfl, hx, hx2, c1⟩ := (hS.below hBw).byte hB hq8
      have hyl := hown.1
      obtain ⟨y0, hy0⟩ : ∃ y0, ((hal P (8 * m) j).map (Value.int .i64))[8 * m + 32 - 1 - j]? = some y0 := ⟨_, List.getElem?_eq_getElem (by omega)⟩
      have e0 := hown.cellAt (8 * m + 32 - 1 - j) (by omega)
      rw [hy0] at e0
      have e1 := hown.frozenAt (8 * m + 32 - 1 - j)
      have hst := fun u => (hown.stored (8 * m + 32 - 1 - j) u).1
      have hbl := fun u => hBw.setCell (p := ⟨w.heap.size, 8 * m + 32 - 1 - j, none⟩) (Nat.le_refl _) u
      have hv : ((x / 2 ^ (j % 8) % 2 : Nat) : Int) = cf P (8 * m + 32 - 1 - j) := by
        have h1 := HCF.out j hlt
        rw [show 32 + 8 * m - 1 - j = 8 * m + 32 - 1 - j from by omega, hx, Int.toNat_natCast] at h1
        rw [byte_bit]; unfold cf; rw [h1]
      have hst2 := hal_step (P := P) (M := 8 * m) (j := j) hlt
      obtain ⟨Z, hZ⟩ : ∃ Z, Z = cf P (8 * m + 32 - 1 - j) := ⟨_, rfl⟩
      have hZr := cf_range P (8 * m + 32 - 1 - j)
      have hmo : ((x : Int) / 2 ^ (j % 8)).tmod 2 = Z := by
        rw [hZ, ← hv, Int.tmod_eq_emod_of_nonneg (Int.ediv_nonneg (by omega) (Int.pow_nonneg (by omega)))]; push_cast; rfl
      rw [← hZ] at hst2 hZr
      have HST := Lib.hid hst
      have HBL := Lib.hid hbl
      have HST2 := Lib.hid hst2
      obtain ⟨d, hd⟩ : ∃ d, d = 8 * m + 32 - 1 - j := ⟨_, rfl⟩
      have hdi : 32 + 8 * (m : Int) - 1 - (j : Int) = (d : Int) := by omega
      have hdl : (d : Int) < 8 * (m : Int) + 32 := by omega
      have i1 : (j : Int) / 8 < (m : Int) := by omega
      have i4 : ((j : Int) / 8).toNat = j / 8 := by omega
      have i5 : ((j : Int) % 8).toNat = j % 8 := by omega
      rw [← hd] at e0 e1 HST HBL HST2
      clear hyl hown hst hbl hx hy0 hv hst2 hd hZ
      go_wp2_with fail
      go_roundw
      case rel => exact ⟨j + 1, by omega, by go_num, by rw [← HST2.out, List.map_set]; exact HST.out _, HBL.out _⟩
      case measure => simp [intOf]; omega
    · obtain rfl : j = 8 * m := by omega
      rw [hal_end HLOW.out] at hown
      have hown' : wr.ownsRow w.heap.size 3 1 (.slice (some ⟨w.heap.size, 0, none⟩) (8 * m + 32) (8 * m + 32)) (8 * m + 32) (cfV P (8 * m + 32)) := by
        unfold cfV; rw [List.map_map] at hown; exact hown
      obtain ⟨a', cap', he, hC⟩ := own_cfs hown' HPB.out
      obtain ⟨rfl, _, rfl⟩ := Value.slice.inj he
      clear hown hown' he
      go_wp2_with fail
      go_loop [4] (fun s => ∃ n : Nat, s = .slice (some ⟨w.heap.size, 0, none⟩) n (8 * m + 32) ∧ Cfs wr (some ⟨w.heap.size, 0, none⟩) n (8 * m + 32) P) (fun s => match s with | .slice _ n _ => n | _ => 0)
      case atStart => exact ⟨8 * m + 32, rfl, hC⟩
      case round =>
        clear hC
        obtain ⟨n, rfl, h⟩ := hrel
        have hb := h.1
        have hnc := h.2.1
        by_cases h0 : n = 0
        · subst h0
          have hp0 : bl P = 0 := by omega
          rw [← hp0] at h
          have HH := Lib.hid h
          have HP := Lib.hid hp0
          clear h hp0 hb
          go_wp2_with fail
          go_ret
          exact ⟨_, _, by rw [HP.out]; rfl, HH.out, hBw⟩
        · obtain ⟨t, rfl⟩ : ∃ t, n = t + 1 := ⟨n - 1, by omega⟩
          obtain ⟨b, off, hae, hlt2, hcell⟩ := h.view (by omega)
          cases hae
          have hc := hcell t (by omega)
          rw [Nat.zero_add] at hc
          by_cases hz : cf P t = 0
          · have hcut := h.cut hz
            rw [hz] at hc
            have HH := Lib.hid hcut
            clear h hcell hz hcut hb h0
            go_wp2_with fail
            exact ⟨⟨t, rfl, HH.out⟩, Nat.lt_succ_self t⟩
          · have hz1 : cf P t = 1 := by have := cf_range P t; omega
            have hbl : bl P = t + 1 := by
              by_cases hh : bl P ≤ t
              · exact absurd (cf_high hh) hz
              · omega
            rw [hz1] at hc
            rw [← hbl] at h
            have HH := Lib.hid h
            have HP := Lib.hid hbl
            clear h hcell hz hz1 hbl hb h0
            go_wp2_with fail
            go_ret
            exact ⟨_, _, by rw [HP.out]; rfl, HH.out, hBw⟩
end Go.Proofs.YtdaijbplbnkpeaaDoor
