/-
  The walk of CrcSmall.
-/
import Derived.Test.YtdaijbplbnkpeaaDoorQw7
import Derived.Test.YtdaijbplbnkpeaaDoorQw6
import Derived.Test.YtdaijbplbnkpeaaDoorQw5
import Derived.Test.YtdaijbplbnkpeaaDoorQw1
import Derived.Test.YtdaijbplbnkpeaaDoorFnf
namespace Go.Proofs.YtdaijbplbnkpeaaDoor
open Go.RowKit Go.Shelf

theorem tells_int (W : World) (hT : Tab W) (c : Int) (a : Option Addr) (m cap : Nat) (l : List Int) (hc : 0 ≤ c ∧ c < 4294967296) (hS : Sl .u8 W a m cap l) (hB : Bys l) (hm : m ≤ 1000) :
    Calls Tryd.prog 16 #[.slice a m cap, .int .u32 c] W fun e w' => e = .returned (.bool true) ∧ Below W.heap.size W w' := by
  obtain ⟨C, rfl⟩ : ∃ C : Nat, c = (C : Int) := ⟨c.toNat, by omega⟩
  exact tells_law W hT C a m cap l (by omega) hS hB hm
theorem shifts_int (c d n : Int) (w : World) (hc : 0 ≤ c ∧ c < 4294967296) (hd : 0 ≤ d ∧ d < 4294967296) (hn' : 0 ≤ n ∧ n ≤ 16777216) :
    Calls Tryd.prog 17 #[.int .u32 c, .int .u32 d, .int .i64 n] w fun e w' => e = .returned (.bool true) ∧ Below w.heap.size w w' := by
  obtain ⟨C, rfl⟩ : ∃ C : Nat, c = (C : Int) := ⟨c.toNat, by omega⟩
  obtain ⟨D, rfl⟩ : ∃ D : Nat, d = (D : Int) := ⟨d.toNat, by omega⟩
  obtain ⟨N, rfl⟩ : ∃ N : Nat, n = (N : Int) := ⟨n.toNat, by omega⟩
  exact shifts_ok C D N w (by omega) (by omega) (by omega)
theorem bys2 {x y : Int} (hx : 0 ≤ x ∧ x < 256) (hy : 0 ≤ y ∧ y < 256) : Bys [x, y] := Bys.cons hx (Bys.cons hy Bys.nil)
theorem u8_in (x : Int) : 0 ≤ IntKind.u8.wrap x ∧ IntKind.u8.wrap x < 256 := by rw [IntKind.wrap_u8']; omega
theorem u32_in (x : Int) : 0 ≤ IntKind.u32.wrap x ∧ IntKind.u32.wrap x < 4294967296 := by rw [IntKind.wrap_u32']; omega

theorem bits_in32 (x y : Int) : 0 ≤ bits .or .u32 x y ∧ bits .or .u32 x y < 4294967296 := u32_in _
theorem two_sl (w : World) (x y : Int) : Sl .u8 (w.alloc (.cells #[.int .u8 x, .int .u8 y] 5)) (some ⟨w.heap.size, 0, none⟩) 2 2 [x, y] := new_sl w [x, y] (0, 0) (by simp)
/-- The sealed text of the law. -/
def tx : List Int := [49, 50, 51, 52, 53, 54, 55, 56, 57, 38, 57, 244, 203]
theorem tx_bys : Bys tx := bys_of (by decide)
def x4 : List Int := [0, 1, 128, 255]
theorem x4_at (j : Nat) (h : j < 4) : ∃ X : Int, 0 ≤ X ∧ X < 256 ∧ x4[j]?.getD 0 = X := by
  match j, h with
  | 0, _ => exact ⟨_, by decide, by decide, rfl⟩
  | 1, _ => exact ⟨_, by decide, by decide, rfl⟩
  | 2, _ => exact ⟨_, by decide, by decide, rfl⟩
  | 3, _ => exact ⟨_, by decide, by decide, rfl⟩
def n4 : List Int := [-9223372036854775808, -1, 16777217, 9223372036854775807]
theorem n4_at (j : Nat) (h : j < 4) : ∃ X : Int, (X < 0 ∨ 16777216 < X) ∧ n4[j]?.getD 0 = X := by
  match j, h with
  | 0, _ => exact ⟨_, .inl (by decide), rfl⟩
  | 1, _ => exact ⟨_, .inl (by decide), rfl⟩
  | 2, _ => exact ⟨_, .inr (by decide), rfl⟩
  | 3, _ => exact ⟨_, .inr (by decide), rfl⟩
theorem new_slk (w : World) (k : IntKind) (l : List Int) (t : TypeId) (hl : l.length ≤ 9223372036854775807) : Sl k (w.alloc (.cells (l.map (Value.int k)).toArray t)) (some ⟨w.heap.size, 0, none⟩) l.length l.length l := by
  refine ⟨rfl, Nat.le_refl _, hl, .inr ⟨w.heap.size, 0, rfl, by simp, fun i hi => ?_⟩⟩
  rw [Nat.zero_add, World.cell?_alloc_mark]
  simp [List.getElem?_map, List.getElem?_eq_getElem hi]
theorem dm_many : dmR 100 (List.replicate 4097 (0 : Int)) = (false, 5) := by
  unfold dmR
  rw [if_pos (inB_iff.2 (fun k hk => by rw [List.eq_of_mem_replicate hk]; omega)), if_pos (by rw [List.length_replicate]; omega)]
theorem xor8_in (x y : Int) : 0 ≤ bits .xor .u8 x y ∧ bits .xor .u8 x y < 256 := u8_in _

set_option maxRecDepth 100000 in
set_option maxHeartbeats 4000000 in
theorem small_walk (W : World) (hT : Tab W) :
    Calls Tryd.prog 7 #[] W fun e w' => e = .returned (.bool true) ∧ Below W.heap.size W w' := by
  obtain ⟨i0, hinf, hz0, hz1, hz2⟩ := info_parts infoU8
  obtain ⟨j0, jinf, jz0, jz1, jz2⟩ := info_parts infoInt
  go_enter Tryd.func7, Tryd.ntmps7
  go_wp2_with fail
  go_loopw [23] (fun I wr => ∃ i : Nat, i ≤ 256 ∧ I = .int .i64 (i : Int) ∧ Below W.heap.size W wr) (fun I _ => 256 - (intOf I).toNat)
  case atStart => exact ⟨0, by omega, rfl, Below.refl _ _⟩
  case round =>
    obtain ⟨i, hi, rfl, hE⟩ := hrel
    obtain ⟨w1, hw1⟩ : ∃ w1, w1 = wr := ⟨_, rfl⟩
    subst hw1
    by_cases hlt : i < 256
    · go_wp2_with fail
      have hE1 := hE.alloc hE.size (.cells #[.int .u8 (i : Int)] 5)
      refine (tells_int _ (hT.step hE1) _ _ 1 1 _ (by omega) (one_sl _ _ _ _) (Bys.cons (by omega) Bys.nil) (by omega)).mono ?_
      rintro e w2 ⟨rfl, hb⟩
      have hE2 := below_step hE1 hb
      clear hE hE1 hb
      go_wp2_with fail
      have hE3 := hE2.alloc hE2.size (.cells #[.int .u8 (i : Int), .int .u8 (IntKind.u8.wrap ((i : Int) * 7))] 5)
      refine (tells_int _ (hT.step hE3) _ _ 2 2 _ (by omega) (two_sl _ _ _) (bys2 (by omega) (u8_in _)) (by omega)).mono ?_
      rintro e w3 ⟨rfl, hb⟩
      have hE4 := below_step hE3 hb
      clear hE2 hE3 hb
      go_wp2_with fail
      refine (shifts_int _ _ _ _ (bits_in32 _ _) (by omega) (by omega)).mono ?_
      rintro e w4 ⟨rfl, hb⟩
      have hE5 := below_step hE4 hb
      clear hE4 hb
      go_wp2_with fail
      go_roundw
      case rel => exact ⟨i + 1, by omega, by go_num, hE5⟩
      case measure => simp [intOf]; omega
    · obtain rfl : i = 256 := by omega
      have kc := Lib.run_convert_bytes_const (P := Tryd.prog) w1 22 5 #[.int .u8 49, .int .u8 50, .int .u8 51, .int .u8 52, .int .u8 53, .int .u8 54, .int .u8 55, .int .u8 56, .int .u8 57, .int .u8 38, .int .u8 57, .int .u8 244, .int .u8 203] 13 13 Tryd.underlying22 Tryd.underlying5
      go_wp2_with fail
      have hst := new_sl w1 tx (13, 14) (by decide)
      have hE1 := hE.alloc hE.size (.cells (tx.map (Value.int .u8)).toArray 5 (13, 14))
      obtain ⟨w2, hw2⟩ : ∃ w2, w1.alloc (.cells (tx.map (Value.int .u8)).toArray 5 (13, 14)) = w2 := ⟨_, rfl⟩
      rw [hw2] at hst hE1
      have hw2' : w1.alloc (.cells #[.int .u8 49, .int .u8 50, .int .u8 51, .int .u8 52, .int .u8 53, .int .u8 54, .int .u8 55, .int .u8 56, .int .u8 57, .int .u8 38, .int .u8 57, .int .u8 244, .int .u8 203] 5 (13, 14)) = w2 := hw2
      rw [hw2']
      clear hw2 hw2' hE kc
      have h256 : ((256 : Nat) : Int) = 256 := rfl
      simp only [h256]
      go_loopw [65] (fun I wr => ∃ i : Nat, i ≤ 13 ∧ I = .int .i64 (i : Int) ∧ Below w2.heap.size w2 wr) (fun I _ => 13 - (intOf I).toNat)
      case atStart => exact ⟨0, by omega, rfl, Below.refl _ _⟩
      case round =>
        obtain ⟨i, hi, rfl, hE⟩ := hrel
        obtain ⟨w3, hw3⟩ : ∃ w3, w3 = wr := ⟨_, rfl⟩
        subst hw3
        by_cases hlt : i < 13
        · have hdi : decide ((i : Int) < 13) = true := by simp; omega
          go_wp2_with fail
          have hs4 := new_sl w3 x4 (0, 0) (by decide)
          have hE2 := hE.alloc hE.size (.cells (x4.map (Value.int .u8)).toArray 5)
          obtain ⟨w4, hw4⟩ : ∃ w4, w3.alloc (.cells (x4.map (Value.int .u8)).toArray 5) = w4 := ⟨_, rfl⟩
          rw [hw4] at hs4 hE2
          have hw4' : w3.alloc (.cells #[.int .u8 0, .int .u8 1, .int .u8 128, .int .u8 255] 5) = w4 := hw4
          rw [hw4']
          clear hw4 hw4' hE
          go_loopw [70] (fun I wr => ∃ j : Nat, j ≤ 4 ∧ I = .int .i64 (j : Int) ∧ Below w4.heap.size w4 wr) (fun I _ => 4 - (intOf I).toNat)
          case atStart => exact ⟨0, by omega, rfl, Below.refl _ _⟩
          case round =>
            obtain ⟨j, hj, rfl, hF⟩ := hrel
            obtain ⟨w5, hw5⟩ : ∃ w5, w5 = wr := ⟨_, rfl⟩
            subst hw5
            by_cases hlt4 : j < 4
            · obtain ⟨X, hX0, hX1, hX⟩ := x4_at j hlt4
              obtain ⟨b4, o4, he4, _, hcell⟩ := (hs4.below hF).at hlt4
              cases he4
              rw [hX, Nat.zero_add] at hcell
              have hst5 := hst.below (below_step hE2 hF)
              have hown5 : (w5.alloc (.cells #[] 5)).ownsRow w5.heap.size 5 1 (.slice (some ⟨w5.heap.size, 0, none⟩) 0 0) ([] : List Int).length (([] : List Int).map (Value.int .u8)) := World.ownsRow_lit w5 #[] 0 (Nat.le_refl _) (by unfold maxLen; omega) rfl
              have hD5 : Below w5.heap.size w5 (w5.alloc (.cells #[] 5)) := (Below.refl _ _).alloc (Nat.le_refl _) _
              have hs5 := hst5.below hD5
              have hsz5 := hD5.size
              clear hX
              go_wp2_with (at_builtin; refine wpList_append_onsl _ rfl (.tmp 74) (.tmp 75) 22 rfl .u8 w5.heap.size 5 i0 1 Tryd.underlying22 hinf hz0 hz1 hz2 _ [] _ 13 13 tx rfl rfl hown5 hs5 (by unfold maxLen; decide) (by decide) hsz5 ?_)
              intro v6 w6 hown6 hgrow6
              have hD6 : Below w5.heap.size w5 w6 := hD5.grown hgrow6 hsz5 (fun kk hk => by cases hk; exact Nat.le_refl _)
              have hown6' : w6.ownsRow w5.heap.size 5 1 v6 13 (tx.map (Value.int .u8)) := hown6
              obtain ⟨g, c6, rfl⟩ := ownsRow_form' hown6' (by omega)
              obtain ⟨Y, hY⟩ : ∃ Y, Y = tx[i]?.getD 0 := ⟨_, rfl⟩
              have hcY := row_at hown6' hlt
              rw [← hY] at hcY
              clear hY
              have hfr := hown6'.frozenAt i
              have hgb := (hown6'.lt g rfl).1
              have hown7 := row_set hown6' i (bits .xor .u8 Y X)
              have hD7 := hD6.setCell (p := ⟨g, i, none⟩) hgb (.int .u8 (bits .xor .u8 Y X))
              have hbM := tx_bys.set i (xor8_in Y X)
              have hs7 := own_sl hown7
              have hF7 := below_step hF hD7
              have hE7 := below_step hE2 hF7
              have hB7 := below_step hE1 hE7
              have qt := tells_int _ (hT.step hB7) 0 _ 13 c6 _ (by omega) hs7 hbM (by omega)
              have qu := fun w' (hb : Below (w6.setCell ⟨g, i, none⟩ (.int .u8 (bits .xor .u8 Y X))).heap.size (w6.setCell ⟨g, i, none⟩ (.int .u8 (bits .xor .u8 Y X))) w') => tells_int w' (hT.step (below_step hB7 hb)) 4294967295 _ i c6 _ (by omega) ((hs7.below hb).upto i (by omega)) (hbM.take i) (by omega)
              have hc13 := hs7.2.1
              have hi13 : (i : Int) ≤ (c6 : Int) := by omega
              have HF7 := Lib.hid hF7
              clear hown6 hown6' hgrow6 hown5 hD5 hs5 hsz5 hD6 hown7 hD7 hs7 hF7 hE7 hF hst5
              go_wp2_with fail
              refine qt.mono ?_
              rintro e w8 ⟨rfl, hb8⟩
              have qv := qu w8 hb8
              clear qt qu
              go_wp2_with fail
              refine qv.mono ?_
              rintro e w9 ⟨rfl, hb9⟩
              have hF9 := below_step (below_step HF7.out hb8) hb9
              clear qv hb8 hb9 HF7
              go_wp2_with fail
              go_roundw
              case rel => exact ⟨j + 1, by omega, by go_num, hF9⟩
              case measure => simp [intOf]; omega
            · obtain rfl : j = 4 := by omega
              have hE9 := below_step hE2 hF
              go_wp2_with fail
              go_roundw
              case rel => exact ⟨i + 1, by omega, by go_num, hE9⟩
              case measure => simp [intOf]; omega
        · obtain rfl : i = 13 := by omega
          have hB3 := below_step hE1 hE
          clear hE hE1 hst
          go_wp2_with fail
          have h13 : ((13 : Nat) : Int) = 13 := rfl
          simp only [h13]
          go_loopw [96] (fun I wr => ∃ n : Nat, n ≤ 8 ∧ I = .int .i64 (n : Int) ∧ Below W.heap.size W wr) (fun I _ => 8 - (intOf I).toNat)
          case atStart => exact ⟨0, by omega, rfl, hB3⟩
          case round =>
            obtain ⟨n, hn8, rfl, hE⟩ := hrel
            obtain ⟨w4, hw4⟩ : ∃ w4, w4 = wr := ⟨_, rfl⟩
            subst hw4
            clear hB3
            by_cases hltn : n < 8
            · have hdn : decide ((n : Int) < 8) = true := by simp; omega
              go_wp2_with fail
              go_loopw [8] (fun K wr => ∃ k : Int, -1 ≤ k ∧ k ≤ 8 * (n : Int) + 1 ∧ K = .int .i64 k ∧ Below W.heap.size W wr) (fun K _ => (8 * (n : Int) + 1 - intOf K).toNat)
              case atStart => exact ⟨-1, by omega, by omega, rfl, hE⟩
              case round =>
                obtain ⟨k, hk0, hk1, rfl, hF⟩ := hrel
                obtain ⟨w5, hw5⟩ : ∃ w5, w5 = wr := ⟨_, rfl⟩
                subst hw5
                clear hE
                by_cases hltk : k ≤ 8 * (n : Int)
                · go_wp2_with fail
                  have hF1 := hF.alloc hF.size (.cells #[.int .i64 k] 3)
                  refine (bits_law _ (n : Int) k _ 1 1 [k] (.inl (by omega)) (one_sl _ _ _ _) (by omega)).mono ?_
                  rintro e w6 ⟨rfl, hb⟩
                  have hF2 := below_step hF1 hb
                  clear hF hF1 hb
                  go_wp2_with fail
                  have hF3 := hF2.alloc hF2.size (.cells #[.int .i64 k, .int .i64 0, .int .i64 k] 3)
                  refine (bits_law _ (n : Int) k _ 3 3 [k, 0, k] (.inl (by omega)) (new_slk _ .i64 [k, 0, k] _ (by simp)) (by omega)).mono ?_
                  rintro e w7 ⟨rfl, hb⟩
                  have hF4 := below_step hF3 hb
                  clear hF2 hF3 hb
                  go_wp2_with fail
                  refine (bits_law _ (n : Int) k _ 0 0 [] (.inl (by omega)) (Sl.nil _ _) (by omega)).mono ?_
                  rintro e w8 ⟨rfl, hb⟩
                  have hF5 := below_step hF4 hb
                  clear hF4 hb
                  go_wp2_with fail
                  have hF6 := hF5.alloc hF5.size (.cells #[.int .i64 k, .int .i64 (k + 1)] 3)
                  refine (bits_law _ (n : Int) 0 _ 2 2 [k, k + 1] (.inl (by omega)) (new_slk _ .i64 [k, k + 1] _ (by simp)) (by omega)).mono ?_
                  rintro e w9 ⟨rfl, hb⟩
                  have hF7 := below_step hF6 hb
                  clear hF5 hF6 hb
                  go_wp2_with fail
                  go_roundw
                  case rel => exact ⟨k + 1, by omega, by omega, by go_num, hF7⟩
                  case measure => simp [intOf]; omega
                · go_wp2_with fail
                  go_roundw
                  case rel => exact ⟨n + 1, by omega, by go_num, hF⟩
                  case measure => simp [intOf]; omega
            · obtain rfl : n = 8 := by omega
              go_wp2_with fail
              have hF1 := hE.alloc hE.size (.cells #[.int .i64 (-9223372036854775808), .int .i64 (-1), .int .i64 16777217, .int .i64 9223372036854775807] 3)
              have hs4 := new_slk w4 .i64 n4 3 (by decide)
              obtain ⟨w5, hw5⟩ : ∃ w5, w4.alloc (.cells #[.int .i64 (-9223372036854775808), .int .i64 (-1), .int .i64 16777217, .int .i64 9223372036854775807] 3) = w5 := ⟨_, rfl⟩
              have hs5 : Sl .i64 w5 (some ⟨w4.heap.size, 0, none⟩) 4 4 n4 := hw5 ▸ hs4
              rw [hw5] at hF1 ⊢
              clear hw5 hE hs4
              have h8 : ((8 : Nat) : Int) = 8 := rfl
              simp only [h8]
              go_loopw [138] (fun I wr => ∃ j : Nat, j ≤ 4 ∧ I = .int .i64 (j : Int) ∧ Below w5.heap.size w5 wr) (fun I _ => 4 - (intOf I).toNat)
              case atStart => exact ⟨0, by omega, rfl, Below.refl _ _⟩
              case round =>
                obtain ⟨j, hj, rfl, hE⟩ := hrel
                obtain ⟨w6, hw6⟩ : ∃ w6, w6 = wr := ⟨_, rfl⟩
                subst hw6
                by_cases hlt4 : j < 4
                · obtain ⟨X, hX0, hX⟩ := n4_at j hlt4
                  obtain ⟨b4, o4, he4, _, hcell⟩ := (hs5.below hE).at hlt4
                  cases he4
                  rw [hX, Nat.zero_add] at hcell
                  clear hX
                  go_wp2_with fail
                  refine (shifts_no 5 7 X _ hX0).mono ?_
                  rintro e w' ⟨rfl, rfl⟩
                  go_wp2_with fail
                  refine (bits_law _ X 0 _ 0 0 [] (by omega) (Sl.nil _ _) (by omega)).mono ?_
                  rintro e w8 ⟨rfl, hb⟩
                  have hE2 := below_step hE hb
                  clear hE hb
                  go_wp2_with fail
                  go_roundw
                  case rel => exact ⟨j + 1, by omega, by go_num, hE2⟩
                  case measure => simp [intOf]; omega
                · obtain rfl : j = 4 := by omega
                  have hB6 := below_step hF1 hE
                  clear hF1 hE hs5
                  go_wp2_with fail
                  have q1 := shift_any 1 16777216 w6 (by omega) (by omega)
                  obtain ⟨R, hR⟩ : ∃ R, R = hn (8 * 16777216) 1 := ⟨_, rfl⟩
                  rw [← hR] at q1
                  have hR0 : R ≠ 0 := by rw [hR]; exact hn_one_ne _
                  clear hR
                  have hRb : ((R : Int) != 0) = true := by simpa using hR0
                  have HRB := Lib.hid hRb
                  clear hRb hR0
                  refine q1.mono ?_
                  rintro e w7 ⟨rfl, hb⟩
                  have hB7 := below_step hB6 hb
                  clear q1 hb hB6
                  go_wp2_with fail
                  have q1 := bit_any 16777216 134217727 w7 (by omega) (by omega)
                  have hp : prt 16777216 134217727 = 3988292384 := by
                    unfold prt
                    rw [show 8 * 16777216 - 134217727 = 1 from by omega]
                    decide
                  rw [hp] at q1
                  clear hp
                  refine q1.mono ?_
                  rintro e w8 ⟨rfl, hb⟩
                  have hB8 := below_step hB7 hb
                  clear q1 hb hB7
                  go_wp2_with (at_make; refine wpList_make_full _ rfl _ _ 22 rfl w8.heap.size 5 i0 (.int .u8 0) 1 Tryd.underlying22 hinf hz0 hz1 .i64 .i64 _ _ 65537 rfl rfl rfl rfl (by rw [hz2]; omega) (by unfold maxLen; omega) (Nat.le_refl _) ?_)
                  intro w9 hown9 hgrow9
                  have hB9 := below_step hB8 ((Below.refl _ _).grown hgrow9 (Nat.le_refl _) (fun _ hk => by cases hk))
                  clear hown9 hgrow9 hB8
                  go_wp2_with fail
                  refine (find_few _ 65537 65537 w9 (.inr (by omega)) (by omega)).mono ?_
                  rintro e w' ⟨rfl, hw⟩
                  rw [hw]
                  clear hw
                  go_wp2_with (at_make; refine wpList_make_full _ rfl _ _ 22 rfl w9.heap.size 5 i0 (.int .u8 0) 1 Tryd.underlying22 hinf hz0 hz1 .i64 .i64 _ _ 3 rfl rfl rfl rfl (by rw [hz2]; omega) (by unfold maxLen; omega) (Nat.le_refl _) ?_)
                  intro w10 hown10 hgrow10
                  have hB10 := below_step hB9 ((Below.refl _ _).grown hgrow10 (Nat.le_refl _) (fun _ hk => by cases hk))
                  clear hown10 hgrow10 hB9
                  go_wp2_with fail
                  refine (find_few _ 3 3 w10 (.inl (by omega)) (by omega)).mono ?_
                  rintro e w' ⟨rfl, hw⟩
                  rw [hw]
                  clear hw
                  go_wp2_with (at_make; refine wpList_make_full _ rfl _ _ 22 rfl w10.heap.size 5 i0 (.int .u8 0) 1 Tryd.underlying22 hinf hz0 hz1 .i64 .i64 _ _ 16777217 rfl rfl rfl rfl (by rw [hz2]; omega) (by unfold maxLen; omega) (Nat.le_refl _) ?_)
                  intro w11 hown11 hgrow11
                  have hB11 := below_step hB10 ((Below.refl _ _).grown hgrow11 (Nat.le_refl _) (fun _ hk => by cases hk))
                  clear hown11 hgrow11 hB10
                  go_wp2_with fail
                  refine (seal_long _ 16777217 16777217 w11 (by omega)).mono ?_
                  rintro e w' ⟨rfl, rfl⟩
                  go_wp2_with (at_make; refine wpList_make_full _ rfl _ _ 27 rfl w11.heap.size 3 j0 (.int .i64 0) 1 Tryd.underlying27 jinf jz0 jz1 .i64 .i64 _ _ 4097 rfl rfl rfl rfl (by rw [jz2]; omega) (by unfold maxLen; omega) (Nat.le_refl _) ?_)
                  intro w12 hown12 hgrow12
                  have hB12 := below_step hB11 ((Below.refl _ _).grown hgrow12 (Nat.le_refl _) (fun _ hk => by cases hk))
                  rw [made_zeros64] at hown12
                  have hs12 := own_sl hown12
                  have qd := damages_any 100 _ 4097 4097 _ w12 (by omega) (by omega) hs12
                  rw [dm_many] at qd
                  have hRC := HRB.out
                  clear hown12 hgrow12 hB11 hs12
                  go_wp2_with fail
                  refine qd.mono ?_
                  rintro e w13 ⟨rfl, hb⟩
                  have hB13 := below_step hB12 hb
                  clear qd hb hB12
                  go_wp2_with fail
                  refine (awake_any _ (hT.step hB13)).mono ?_
                  rintro e w' ⟨rfl, hb3⟩
                  go_wp2_with fail
                  go_ret
                  exact ⟨rfl, below_step hB13 hb3⟩
end Go.Proofs.YtdaijbplbnkpeaaDoor
