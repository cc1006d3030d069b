/-
  The walk of the law CrcThree. Where the table of the halves lies as the program's text lays it.
-/
import Derived.Test.YtdaijbplbnkpeaaDoorRgc
import Derived.Test.YtdaijbplbnkpeaaDoorHs3
namespace Go.Proofs.YtdaijbplbnkpeaaDoor
open Go.RowKit Go.Shelf

theorem contains_any (w : World) (a : Option Addr) (n c : Nat) (l : List Int) (x : Int) (hS : Sl .i64 w a n c l) :
    Calls Tryd.prog 28 #[.slice a n c, .int .i64 x] w fun e w' => e = .returned (.bool (l.contains x)) ∧ w' = w := by
  obtain ⟨h1, h2, h3, h4⟩ := hS
  by_cases h0 : n = 0
  · subst h0
    obtain rfl : l = [] := List.eq_nil_of_length_eq_zero h1
    exact Tryd.slices_Contains_int_empty a c x w
  · rcases h4 with ⟨h5, _⟩ | ⟨b, o, rfl, _, hc⟩
    · omega
    · have := Tryd.slices_Contains_int b o n c l x w (by omega) (by omega) (fun j hj => by rw [hc j (by omega), List.getD_eq_getElem?_getD])
      rwa [List.take_of_length_le (by omega)] at this
theorem cast_contains (B : List Nat) (x : Nat) : (B.map (fun k : Nat => (k : Int))).contains (x : Int) = B.contains x := by
  induction B with
  | nil => rfl
  | cons y B ih =>
    rw [List.map_cons, List.contains_cons, List.contains_cons, ih]
    congr 1
    by_cases h : x = y
    · subst h; simp
    · have h2 : ¬ (x : Int) = (y : Int) := by omega
      rw [beq_eq_false_iff_ne.2 h, beq_eq_false_iff_ne.2 h2]

set_option maxRecDepth 100000 in
set_option maxHeartbeats 4000000 in
theorem three_walk (W : World) (hT : Tab W) (a : Option Addr) (len cap : Nat) (l : List Int) (n x y z : Int) (hs : Sl .u8 W a len cap l) (hf : Fits .u8 l) (wn : (Lit.int .u16 n).wf = true) (wx : (Lit.int .u16 x).wf = true) (wy : (Lit.int .u16 y).wf = true) (wz : (Lit.int .u16 z).wf = true) :
    Calls Tryd.prog 9 #[.slice a len cap, .int .u16 n, .int .u16 x, .int .u16 y, .int .u16 z] W fun e w' => e = .returned (.bool true) ∧ Below W.heap.size W w' := by
  have hby := bys_fits hf
  have hn := bounds_u16 wn
  have hx := bounds_u16 wx
  have hy := bounds_u16 wy
  have hz := bounds_u16 wz
  obtain ⟨i0, hinf, hz0, hz1, hz2⟩ := info_parts infoU8
  obtain ⟨j0, jinf, jz0, jz1, jz2⟩ := info_parts infoInt
  obtain ⟨k, hk⟩ : ∃ k : Nat, (k : Int) = n % 4093 := ⟨(n % 4093).toNat, by omega⟩
  have hkl : k ≤ 4092 := by omega
  have hkn : n.tmod 4093 = (k : Int) := by rw [hk, Int.tmod_eq_emod_of_nonneg hn.1]
  clear wn wx wy wz hf hk
  go_enter Tryd.func9, Tryd.ntmps9
  go_wp2_with fail
  refine (long_all a len cap k l W hs hby (by omega)).mono ?_
  rintro e w1 ⟨v1, L, rfl, hbL, hlL, hm1⟩
  obtain ⟨a1, c1, rfl, hs1, _, hB1⟩ := hm1.view k hlL
  clear hm1
  go_wp2_with fail
  refine (seal_any a1 k c1 L w1 (hT.step hB1) hs1 hbL (by omega)).mono ?_
  rintro e w2 ⟨v2, rfl, hm2⟩
  obtain ⟨N, hN⟩ : ∃ N, N = k + 4 := ⟨_, rfl⟩
  obtain ⟨a2, c2, rfl, hs2, hown2, hB2⟩ := hm2.view N (by rw [List.length_append, le4_len, hlL]; omega)
  have hsea := sealed_of hbL
  have hbS := hbL.append (le4_bys (upd 0 L))
  obtain ⟨S, hS⟩ : ∃ S, S = L ++ le4 (upd 0 L) := ⟨_, rfl⟩
  rw [← hS] at hs2 hown2 hsea hbS
  have hB := below_step hB1 hB2
  have hN4 : decide ((N : Int) < 4) = false := by simp; omega
  have hNl : N ≤ 4096 := by omega
  have hN4n : 4 ≤ N := by omega
  have hnz : ¬ (8 * (N : Int)) = 0 := by omega
  have mods : ∀ v : Int, 0 ≤ v → ∃ b : Nat, b < 8 * N ∧ v.tmod (8 * (N : Int)) = (b : Int) := by
    intro v hv
    have h1 := Int.emod_nonneg v (show 8 * (N : Int) ≠ 0 by omega)
    have h2 := Int.emod_lt_of_pos v (show 0 < 8 * (N : Int) by omega)
    exact ⟨(v % (8 * (N : Int))).toNat, by omega, by rw [Int.tmod_eq_emod_of_nonneg hv]; omega⟩
  obtain ⟨bx, hbx, ex⟩ := mods x hx.1
  obtain ⟨by', hby', ey⟩ := mods y hy.1
  obtain ⟨bz, hbz, ez⟩ := mods z hz.1
  have h3ok := three_ok hNl hbx hby' hbz
  clear hm2 hs1 hB1 hB2 hkn hS hN hkl hlL hown2 hbL mods
  go_wp2_with fail
  obtain ⟨w3, hw3⟩ : ∃ w3, w2.alloc (.cells #[.int .u16 x, .int .u16 y, .int .u16 z] 31) = w3 := ⟨_, rfl⟩
  have hD3 : Below w2.heap.size w2 w3 := by rw [← hw3]; exact (Below.refl _ _).alloc (Nat.le_refl _) _
  have hcs : w3.cell? ⟨w2.heap.size, 0, none⟩ = some (.int .u16 x) ∧ w3.cell? ⟨w2.heap.size, 1, none⟩ = some (.int .u16 y) ∧ w3.cell? ⟨w2.heap.size, 2, none⟩ = some (.int .u16 z) := by
    rw [← hw3]
    refine ⟨?_, ?_, ?_⟩ <;> rw [World.cell?_alloc_mark] <;> rfl
  have hlt3 : w2.heap.size < w3.heap.size := by rw [← hw3]; simp
  rw [hw3]
  clear hw3
  obtain ⟨B, hBB⟩ : ∃ B, B = [bx, by', bz] := ⟨_, rfl⟩
  go_loopw [13, 44] (fun v I wr => ∃ j : Nat, j ≤ 3 ∧ I = .int .i64 (j : Int) ∧ wr.ownsRow w3.heap.size 3 1 v j (((B.take j).map (fun k : Nat => (k : Int))).map (Value.int .i64)) ∧ Below w3.heap.size w3 wr) (fun v I _ => 3 - (intOf I).toNat)
  case atStart => exact ⟨0, by omega, rfl, World.ownsRow_nil _ _ _ _, Below.refl _ _⟩
  case round =>
    obtain ⟨j, hj, rfl, hV, hE⟩ := hrel
    have HB := Lib.hid hBB
    clear hBB
    by_cases hlt : j < 3
    · obtain ⟨X, b, hc, hmod, hBj, hX⟩ : ∃ (X : Int) (b : Nat), wr.cell? ⟨w2.heap.size, j, none⟩ = some (.int .u16 X) ∧ X.tmod (8 * (N : Int)) = (b : Int) ∧ B.take (j + 1) = B.take j ++ [b] ∧ 0 ≤ X ∧ X ≤ 65535 := by
        match j, hlt with
        | 0, _ => exact ⟨x, bx, (hE.cell (p := ⟨w2.heap.size, 0, none⟩) hlt3).trans hcs.1, ex, by rw [HB.out]; rfl, hx⟩
        | 1, _ => exact ⟨y, by', (hE.cell (p := ⟨w2.heap.size, 1, none⟩) hlt3).trans hcs.2.1, ey, by rw [HB.out]; rfl, hy⟩
        | 2, _ => exact ⟨z, bz, (hE.cell (p := ⟨w2.heap.size, 2, none⟩) hlt3).trans hcs.2.2, ez, by rw [HB.out]; rfl, hz⟩
      have HBJ := Lib.hid hBj
      have hszE := hE.size
      clear hBj ex ey ez hcs h3ok
      go_wp2_with (at_builtin; refine wpList_append_own _ rfl (.tmp 48) (.tmp 55) 27 rfl w3.heap.size 3 j0 (.int .i64 0) 1 8 Tryd.underlying27 jinf jz0 jz1 jz2 rfl (by decide) _ _ _ rfl (hV.alloc _) ⟨wr.heap.size, 0, none⟩ 1 1 [.int .i64 (b : Int)] rfl rfl (one_cellI _ _) (one_oneI _) (by unfold maxLen; omega) (by omega) (by simp; omega) ?_)
      intro v' w7 hown' hgrow _
      have hV7 : w7.ownsRow w3.heap.size 3 1 v' (j + 1) (((B.take (j + 1)).map (fun k : Nat => (k : Int))).map (Value.int .i64)) := by
        rw [HBJ.out]; simpa using hown'
      have hE7 : Below w3.heap.size w3 w7 := (hE.alloc hszE _).grown hgrow (by simp; omega) (fun kk hk => (hV.lt kk hk).1)
      clear hown' hgrow hV hE
      go_wp2_with fail
      go_roundw
      case rel => exact ⟨j + 1, by omega, by go_num, hV7, hE7⟩
      case measure => simp [intOf]; omega
    · obtain rfl : j = 3 := by omega
      obtain ⟨wq, hwq⟩ : ∃ wq, wq = wr := ⟨_, rfl⟩
      subst hwq
      have hBl : B.take 3 = B := by rw [HB.out]; rfl
      have hB3 : B.length = 3 := by rw [HB.out]; rfl
      rw [hBl] at hV
      obtain ⟨a13, c13, rfl⟩ := own_shape hV
      have hsV := own_sl hV
      have hBr := below_step (below_step hB hD3) hE
      have hsS := hs2.below (below_step hD3 hE)
      have hBin : ∀ i, i < 3 → B[i]?.getD 0 < 8 * N := by
        intro i hi
        rw [HB.out]
        match i, hi with
        | 0, _ => exact hbx
        | 1, _ => exact hby'
        | 2, _ => exact hbz
      have hVcap := hsV.2.1
      have hVmax := hsV.2.2.1
      clear hV hE hBl hD3 hs2 hB hlt3 hcs ex ey ez
      have HOK := Lib.hid h3ok
      clear h3ok
      go_wp2_with fail
      have h33 : ((3 : Nat) : Int) = 3 := rfl
      simp only [h33]
      go_loopw [58] (fun I wr => ∃ t : Nat, t ≤ 4 ∧ I = .int .i64 (t : Int) ∧ Below wq.heap.size wq wr) (fun I _ => 4 - (intOf I).toNat)
      case atStart => exact ⟨0, by omega, rfl, Below.refl _ _⟩
      case round =>
        obtain ⟨t, ht, rfl, hO⟩ := hrel
        obtain ⟨wo, hwo⟩ : ∃ wo, wo = wr := ⟨_, rfl⟩
        subst hwo
        by_cases hlt4 : t < 4
        · have hown5 : (wo.alloc (.cells #[] 5)).ownsRow wo.heap.size 5 1 (.slice (some ⟨wo.heap.size, 0, none⟩) 0 0) ([] : List Int).length (([] : List Int).map (Value.int .u8)) := World.ownsRow_lit wo #[] 0 (Nat.le_refl _) (by unfold maxLen; omega) rfl
          have hD5 : Below wo.heap.size wo (wo.alloc (.cells #[] 5)) := (Below.refl _ _).alloc (Nat.le_refl _) _
          have hsO := hsS.below hO
          have hs5 := hsO.below hD5
          have hsz5 := hD5.size
          go_wp2_with (at_builtin; refine wpList_append_onsl _ rfl (.tmp 61) (.tmp 62) 22 rfl .u8 wo.heap.size 5 i0 1 Tryd.underlying22 hinf hz0 hz1 hz2 _ [] a2 N c2 S rfl rfl hown5 hs5 (by unfold maxLen; simp; omega) (by simp; omega) hsz5 ?_)
          intro v6 w6 hown6 hgrow6
          have hD6 : Below wo.heap.size wo w6 := hD5.grown hgrow6 hsz5 (fun kk hk => by cases hk; exact Nat.le_refl _)
          have hown6' : w6.ownsRow wo.heap.size 5 1 v6 N (S.map (Value.int .u8)) := by
            have h1 : S.length = N := hs5.1
            rw [← h1]
            simpa using hown6
          obtain ⟨g, c6, rfl⟩ := ownsRow_form' hown6' (by omega)
          have htc : (t : Int) ≤ (c13 : Int) := by omega
          have htc2 : t ≤ c13 := by omega
          have hsVO := hsV.below hO
          clear hown6 hgrow6 hown5 hs5 hD5 hsz5 hsO
          go_wp2_with fail
          go_loopw [18, 68] (fun Lf I wr => ∃ i : Nat, i ≤ t ∧ I = .int .i64 (i : Int) ∧ Lf = .int .i64 (lv B i) ∧ wr.ownsRow wo.heap.size 5 1 (.slice (some ⟨g, 0, none⟩) N c6) N (((B.take i).foldl flp S).map (Value.int .u8)) ∧ Below wo.heap.size wo wr) (fun Lf I _ => t - (intOf I).toNat)
          case atStart => exact ⟨0, by omega, rfl, rfl, hown6', hD6⟩
          case round =>
            obtain ⟨i, hi, rfl, rfl, hA, hD⟩ := hrel
            obtain ⟨wi, hwi⟩ : ∃ wi, wi = wr := ⟨_, rfl⟩
            subst hwi
            clear hown6' hD6
            have hlr := lv_range B i
            by_cases hlti : i < t
            · have hi3 : i < 3 := by omega
              obtain ⟨q, hq⟩ : ∃ q, q = B[i]?.getD 0 := ⟨_, rfl⟩
              have hql : q < 8 * N := by rw [hq]; exact hBin i hi3
              have hsVi := (hsV.below hO).below hD
              obtain ⟨vb, vo, rfl, _, hcv⟩ := hsVi.at hi3
              have hcq : (B.map (fun k : Nat => (k : Int)))[i]?.getD 0 = (q : Int) := by
                rw [hq, List.getElem?_map, List.getElem?_eq_getElem (by omega : i < B.length)]; rfl
              rw [hcq] at hcv
              have hbM := flps_bys hbS (B.take i)
              have hM2 : (B.take (i + 1)).foldl flp S = flp ((B.take i).foldl flp S) q := by
                rw [List.take_succ_eq_append_getElem (by omega : i < B.length), List.foldl_append, List.foldl_cons, List.foldl_nil, hq, List.getElem?_eq_getElem (by omega : i < B.length)]; rfl
              obtain ⟨M, hM⟩ : ∃ M, M = (B.take i).foldl flp S := ⟨_, rfl⟩
              rw [← hM] at hA hbM hM2
              obtain ⟨yy, zz, hyy, e0, e1, e75, e76, hA2, hg2, hgB⟩ := flip_facts hA hbM hql
              rw [← hM2] at hA2
              have hD2 := (hD.setCell (p := ⟨g, q / 8, none⟩) hgB (.int .u8 (zz : Int))).drew
              have hA3 := hA2.drew
              obtain ⟨W3, hW3⟩ : ∃ W3, W3 = (wi.setCell ⟨g, q / 8, none⟩ (.int .u8 (zz : Int))).drew := ⟨_, rfl⟩
              rw [← hW3] at hA3 hD2
              have hsV3 := ((hsV.below hO).below hD2).upto i (by omega)
              have hct := contains_any W3 (some ⟨vb, vo, none⟩) i c13 _ (q : Int) hsV3
              rw [← List.map_take, cast_contains] at hct
              have hlvs : lv B (i + 1) = lv B i + (if (B.take i).contains q then -1 else 1) := by rw [hq]; rfl
              obtain ⟨bb, hbb⟩ : ∃ bb, bb = (B.take i).contains q := ⟨_, rfl⟩
              rw [← hbb] at hct hlvs
              have HLV := Lib.hid hlvs
              have HW3 := Lib.hid hW3
              have HA3 := Lib.hid hA3
              have i1 : (q : Int) / 8 < (N : Int) := by omega
              have i2 : (0 : Int) ≤ (q : Int) / 8 := by omega
              have i3 : (0 : Int) ≤ (q : Int) % 8 := by omega
              have i4 : ((q : Int) / 8).toNat = q / 8 := by omega
              have i5 : ((q : Int) % 8).toNat = q % 8 := by omega
              have i6 : (i : Int) ≤ (c13 : Int) := by omega
              have i7 : i ≤ c13 := by omega
              clear hA hD hA2 hg2 hM hM2 hbM hq hcq hsVi hsV3 hlvs hbb hW3 hA3
              go_wp2_with fail
              go_region
              all_goals
                rw [← HW3.out]
                go_wp2_with fail
                refine hct.mono ?_
                rintro e w' ⟨rfl, rfl⟩
                cases bb with
                | true =>
                  go_wp2_with fail
                  go_roundw
                  case rel => exact ⟨i + 1, by omega, by go_num, by rw [HLV.out]; rfl, HA3.out, hD2⟩
                  case measure => simp [intOf]; omega
                | false =>
                  go_wp2_with fail
                  go_roundw
                  case rel => exact ⟨i + 1, by omega, by go_num, by rw [HLV.out]; rfl, HA3.out, hD2⟩
                  case measure => simp [intOf]; omega
            · obtain rfl : i = t := by omega
              have hbM := flps_bys hbS (B.take i)
              have hkl : ∀ k ∈ B.take i, k < 8 * S.length := by
                intro k hk
                obtain ⟨j, hj, rfl⟩ := List.mem_iff_getElem.1 (List.mem_of_mem_take hk)
                have := hBin j (by omega)
                rw [List.getElem?_eq_getElem hj] at this
                rw [hsS.1]; exact this
              have hchg := chg_flps (B.take i) hkl
              rw [hsea.2, Nat.zero_xor, hsS.1] at hchg
              have hdm : dmR N ((B.take i).map (fun k : Nat => (k : Int))) = (dmg N (B.take i) != 0, 0) := by
                unfold dmR
                have h1 : inB N ((B.take i).map (fun k : Nat => (k : Int))) = true := inB_iff.2 (fun k hk => by
                  obtain ⟨j, hj, rfl⟩ := List.mem_map.1 hk
                  have := hkl j hj
                  rw [hsS.1] at this
                  omega)
                have h2 : ((B.take i).map (fun k : Nat => (k : Int))).map Int.toNat = B.take i := by simp [List.map_map, Function.comp_def]
                have h4 : ((B.take i).map (fun k : Nat => (k : Int))).length ≤ 3 := by rw [List.length_map, List.length_take]; omega
                rw [h1, h2]
                have h3 : ¬ 4096 < ((B.take i).map (fun k : Nat => (k : Int))).length := by omega
                rw [if_pos rfl, if_neg h3]
              have hok := HOK.out i (by omega)
              rw [← HB.out] at hok
              have hsA := own_sl hA
              have hsVi := (hsV.below hO).below hD
              have qd := fun q => damages_any N a13 i c13 _ (wi.drewN q) (by omega) (by omega) ((hsVi.below (below_drewN (Below.refl _ _) q)).upto i (by omega))
              simp only [← List.map_take] at qd
              rw [hdm] at qd
              obtain ⟨fd, hfd⟩ : ∃ fd, fd = (dmg N (B.take i) != 0) := ⟨_, rfl⟩
              rw [← hfd] at qd hok
              have hse : seaB ((B.take i).foldl flp S) = !fd := by
                by_cases h0 : dmg N (B.take i) = 0
                · rw [seaB_yes ⟨by rw [hsA.1]; omega, by rw [hchg, h0]⟩, hfd, h0]; rfl
                · rw [seaB_no (fun h => h0 (by rw [← hchg]; exact h.2)), hfd]; simp [h0]
              have hTi := hT.step (below_step hBr (below_step hO hD))
              have hBi := below_step hBr (below_step hO hD)
              have qs := fun w' (hb : Below wi.heap.size wi w') => sealed_any _ N c6 _ w' (hTi.step hb) (hsA.below hb) hbM
              rw [hse] at qs
              have hOD := below_step hO hD
              obtain ⟨bv, bo, hae, _, _⟩ := hsVi.at (j := 0) (by omega)
              have vc : ∀ j : Nat, j < 3 → wi.cell? ⟨bv, bo + j, none⟩ = some (.int .i64 ((B[j]?.getD 0 : Nat) : Int)) := by
                intro j hj
                obtain ⟨b', o', he, _, hc⟩ := hsVi.at hj
                rw [hae] at he
                cases he
                rw [hc, List.getElem?_map, List.getElem?_eq_getElem (by omega : j < B.length)]; rfl
              have vc0 := vc 0 (by omega)
              have vc1 := vc 1 (by omega)
              have vc2 := vc 2 (by omega)
              have q0 : B[0]?.getD 0 = bx := by rw [HB.out]; rfl
              have q1 : B[1]?.getD 0 = by' := by rw [HB.out]; rfl
              have q2 : B[2]?.getD 0 = bz := by rw [HB.out]; rfl
              rw [q0, Nat.add_zero] at vc0
              rw [q1] at vc1
              rw [q2] at vc2
              subst hae
              have HCH := Lib.hid hchg
              have HFD := Lib.hid hfd
              have htc' : (i : Int) ≤ (c13 : Int) := by omega
              have htc2' : i ≤ c13 := by omega
              clear hA hD hchg hdm hkl hfd hse hsVi vc q0 q1 q2 hO hlr
              by_cases h3 : i = 3
              · have g0 : ((i : Int) == 3) = true := by simp [h3]
                by_cases hxy : bx = by'
                · have g1 : ((bx : Int) == (by' : Int)) = true := by simp [hxy]
                  by_cases hyz : by' = bz
                  · have g2 : ((by' : Int) == (bz : Int)) = true := by simp [hyz]
                    have hl : lf bx by' bz i = 1 := by unfold lf; rw [if_pos ⟨h3, hxy, hyz⟩]
                    rw [hl] at hok
                    have hok2 : decide ((0 : Int) < 1) = fd := hok.symm
                    clear hok hl hxy hyz h3
                    go_wp2_with fail
                    go_quiet (fail)
                    go_wp2_with fail
                    refine (qd _).mono ?_
                    rintro e w8 ⟨rfl, hb8⟩
                    have hb9 := below_step (below_drewN (Below.refl wi.heap.size wi) nq) hb8
                    cases fd with
                    | true =>
                      go_wp2_with fail
                      refine (qs _ hb9).mono ?_
                      rintro e w' ⟨rfl, rfl⟩
                      go_wp2_with fail
                      go_roundw
                      case rel => exact ⟨i + 1, by omega, by go_num, below_step hOD hb9⟩
                      case measure => simp [intOf]; omega
                    | false => exact absurd hok2 (by decide)
                  · have g2 : ((by' : Int) == (bz : Int)) = false := by simp; omega
                    have hl : lf bx by' bz i = lv B i := by unfold lf; rw [if_neg (fun h => hyz h.2.2), HB.out]
                    rw [hl] at hok
                    have hok2 := hok.symm
                    clear hok hl hxy hyz h3
                    go_wp2_with fail
                    go_quiet (fail)
                    go_wp2_with fail
                    refine (qd _).mono ?_
                    rintro e w8 ⟨rfl, hb8⟩
                    have hb9 := below_step (below_drewN (Below.refl wi.heap.size wi) nq) hb8
                    cases fd with
                    | true =>
                      go_wp2_with fail
                      refine (qs _ hb9).mono ?_
                      rintro e w' ⟨rfl, rfl⟩
                      go_wp2_with fail
                      go_roundw
                      case rel => exact ⟨i + 1, by omega, by go_num, below_step hOD hb9⟩
                      case measure => simp [intOf]; omega
                    | false =>
                      go_wp2_with fail
                      refine (qs _ hb9).mono ?_
                      rintro e w' ⟨rfl, rfl⟩
                      go_wp2_with fail
                      go_roundw
                      case rel => exact ⟨i + 1, by omega, by go_num, below_step hOD hb9⟩
                      case measure => simp [intOf]; omega
                · have g1 : ((bx : Int) == (by' : Int)) = false := by simp; omega
                  have hl : lf bx by' bz i = lv B i := by unfold lf; rw [if_neg (fun h => hxy h.2.1), HB.out]
                  rw [hl] at hok
                  have hok2 := hok.symm
                  clear hok hl hxy h3
                  go_wp2_with fail
                  go_quiet (fail)
                  go_wp2_with fail
                  refine (qd _).mono ?_
                  rintro e w8 ⟨rfl, hb8⟩
                  have hb9 := below_step (below_drewN (Below.refl wi.heap.size wi) nq) hb8
                  cases fd with
                  | true =>
                    go_wp2_with fail
                    refine (qs _ hb9).mono ?_
                    rintro e w' ⟨rfl, rfl⟩
                    go_wp2_with fail
                    go_roundw
                    case rel => exact ⟨i + 1, by omega, by go_num, below_step hOD hb9⟩
                    case measure => simp [intOf]; omega
                  | false =>
                    go_wp2_with fail
                    refine (qs _ hb9).mono ?_
                    rintro e w' ⟨rfl, rfl⟩
                    go_wp2_with fail
                    go_roundw
                    case rel => exact ⟨i + 1, by omega, by go_num, below_step hOD hb9⟩
                    case measure => simp [intOf]; omega
              · have g0 : ((i : Int) == 3) = false := by simp; omega
                have hl : lf bx by' bz i = lv B i := by unfold lf; rw [if_neg (fun h => h3 h.1), HB.out]
                rw [hl] at hok
                have hok2 := hok.symm
                clear hok hl h3
                go_wp2_with fail
                go_quiet (fail)
                go_wp2_with fail
                refine (qd _).mono ?_
                rintro e w8 ⟨rfl, hb8⟩
                have hb9 := below_step (below_drewN (Below.refl wi.heap.size wi) nq) hb8
                cases fd with
                | true =>
                  go_wp2_with fail
                  refine (qs _ hb9).mono ?_
                  rintro e w' ⟨rfl, rfl⟩
                  go_wp2_with fail
                  go_roundw
                  case rel => exact ⟨i + 1, by omega, by go_num, below_step hOD hb9⟩
                  case measure => simp [intOf]; omega
                | false =>
                  go_wp2_with fail
                  refine (qs _ hb9).mono ?_
                  rintro e w' ⟨rfl, rfl⟩
                  go_wp2_with fail
                  go_roundw
                  case rel => exact ⟨i + 1, by omega, by go_num, below_step hOD hb9⟩
                  case measure => simp [intOf]; omega
        · obtain rfl : t = 4 := by omega
          have hBo := below_step hBr hO
          go_wp2_with fail
          refine (awake_any _ (hT.step hBo)).mono ?_
          rintro e w' ⟨rfl, hb3⟩
          go_wp2_with fail
          go_ret
          exact ⟨rfl, below_step hBo hb3⟩
end Go.Proofs.YtdaijbplbnkpeaaDoor
