/-
  The walk of the law CrcWrong. Where the table of the halves lies as the program's text lays it.
-/
import Derived.Test.YtdaijbplbnkpeaaDoorQaw
import Derived.Test.YtdaijbplbnkpeaaDoorCrd
import Derived.RegionTactic
import Derived.LoopTactic
namespace Go.Proofs.YtdaijbplbnkpeaaDoor
open Go.RowKit Go.Shelf

theorem bys_fits {l : List Int} (h : Fits .u8 l) : Bys l := fun c hc => by
  have := h c hc
  have := bounds_u8 this
  omega
theorem dm_one {k : Int} (h : k < 0 ∨ 16777216 < k) : dmR 20 [k] = (false, 2) := by
  unfold dmR; rw [inB_no (k := k) (by simp) (by omega)]; rfl
theorem five_cells (w : World) (t : TypeId) : ∀ i, i < 5 → (w.alloc (.cells #[.int .i64 2, .int .i64 2, .int .i64 2, .int .i64 2, .int .i64 2] t)).cell? ⟨w.heap.size, i, none⟩ = some (.int .i64 2) := by
  intro i hi
  rw [World.cell?_alloc_mark]
  match i, hi with
  | 0, _ => rfl
  | 1, _ => rfl
  | 2, _ => rfl
  | 3, _ => rfl
  | 4, _ => rfl
theorem one_sl (w : World) (k : IntKind) (x : Int) (t : TypeId) : Sl k (w.alloc (.cells #[.int k x] t)) (some ⟨w.heap.size, 0, none⟩) 1 1 [x] := by
  refine ⟨rfl, Nat.le_refl _, by omega, .inr ⟨w.heap.size, 0, rfl, by simp, fun i hi => ?_⟩⟩
  obtain rfl : i = 0 := by omega
  rw [World.cell?_alloc_mark]; rfl

set_option maxRecDepth 100000 in
set_option maxHeartbeats 2000000 in
theorem wrong_walk (W : World) (hT : Tab W) (n : Int) (a : Option Addr) (len cap : Nat) (l : List Int) (wn : (Lit.int .i64 n).wf = true) (hs : Sl .u8 W a len cap l) (hf : Fits .u8 l) :
    Calls Tryd.prog 14 #[.int .i64 n, .slice a len cap] W fun e w' => e = .returned (.bool true) ∧ Below W.heap.size W w' := by
  have hby := bys_fits hf
  clear hf
  have hn0 := bounds_i64 wn
  obtain ⟨k0, hk0⟩ : ∃ k, min n (-1) = k := ⟨_, rfl⟩
  obtain ⟨k1, hk1⟩ : ∃ k, max n 16777217 = k := ⟨_, rfl⟩
  have hb0 : k0 < 0 := by omega
  have hb1 : 16777216 < k1 := by omega
  have hr0 : -9223372036854775808 ≤ k0 := by omega
  have hr1 : k1 ≤ 9223372036854775807 := by omega
  clear wn
  go_enter Tryd.func14, Tryd.ntmps14
  go_wp2_with fail
  obtain ⟨Wa, hWa⟩ : ∃ Wa, W.alloc (.cells #[.int .i64 k0, .int .i64 k1] 3) = Wa := ⟨_, rfl⟩
  have c0 : Wa.cell? ⟨W.heap.size, 0, none⟩ = some (.int .i64 k0) := by rw [← hWa, World.cell?_alloc_mark]; rfl
  have c1 : Wa.cell? ⟨W.heap.size, 1, none⟩ = some (.int .i64 k1) := by rw [← hWa, World.cell?_alloc_mark]; rfl
  have bW : Below W.heap.size W Wa := by rw [← hWa]; exact (Below.refl _ W).alloc (Nat.le_refl _) _
  have hlt0 : W.heap.size < Wa.heap.size := by rw [← hWa]; simp
  rw [hWa]
  clear hk0 hk1 hn0 hWa
  go_loopw [33] (fun I wr => ∃ j : Nat, j ≤ 2 ∧ I = .int .i64 (j : Int) ∧ Below Wa.heap.size Wa wr) (fun I _ => 2 - (intOf I).toNat)
  case atStart => exact ⟨0, by omega, rfl, Below.refl _ _⟩
  case round =>
    obtain ⟨j, hj, rfl, hB⟩ := hrel
    by_cases hlt : j < 2
    · obtain ⟨k, hc, hk, hr2, hr3⟩ : ∃ k, wr.cell? ⟨W.heap.size, j, none⟩ = some (.int .i64 k) ∧ (k < 0 ∨ 16777216 < k) ∧ -9223372036854775808 ≤ k ∧ k ≤ 9223372036854775807 := by
        match j, hlt with
        | 0, _ => exact ⟨k0, (hB.cell (p := ⟨W.heap.size, 0, none⟩) hlt0).trans c0, .inl hb0, hr0, by omega⟩
        | 1, _ => exact ⟨k1, (hB.cell (p := ⟨W.heap.size, 1, none⟩) hlt0).trans c1, .inr hb1, by omega, hr1⟩
      have q1 := fun w => shift_no 7 k w hk
      have q2 := fun w => join_no 7 7 k w hk
      have q3 := fun w => bit_no k 0 w (by omega)
      have q4 := fun w => damages_no k none 0 0 w (by omega)
      have q5 := fun w => bit_no 20 k w (by omega)
      have q6 := damages_any 20 (some ⟨wr.heap.size, 0, none⟩) 1 1 [k] (wr.alloc (.cells #[.int .i64 k] 3)) (by omega) (by omega) (one_sl wr .i64 k _)
      rw [dm_one hk] at q6
      have hB6 : Below Wa.heap.size Wa (wr.alloc (.cells #[.int .i64 k] 3)) := hB.alloc hB.size _
      have HK := Lib.hid hk
      clear hk
      go_wp2_with fail
      refine (q1 _).mono ?_
      rintro e w' ⟨rfl, rfl⟩
      go_wp2_with fail
      refine (q2 _).mono ?_
      rintro e w' ⟨rfl, rfl⟩
      go_wp2_with fail
      refine (q3 _).mono ?_
      rintro e w' ⟨rfl, rfl⟩
      go_wp2_with fail
      refine (q4 _).mono ?_
      rintro e w' ⟨rfl, rfl⟩
      go_wp2_with fail
      refine (q5 _).mono ?_
      rintro e w' ⟨rfl, rfl⟩
      go_wp2_with fail
      refine q6.mono ?_
      rintro e w2 ⟨rfl, hb⟩
      have hB7 := below_step hB6 hb
      have h5 := five_cells w2 33
      have hB8 : Below Wa.heap.size Wa (w2.alloc (.cells #[.int .i64 2, .int .i64 2, .int .i64 2, .int .i64 2, .int .i64 2] 33)) := hB7.alloc hB7.size _
      clear q1 q2 q3 q4 q5 q6 hb hB6 hc
      go_wp2_with fail
      go_loop [89] (fun I => ∃ i : Nat, i ≤ 5 ∧ I = .int .i64 (i : Int)) (fun I => 5 - (intOf I).toNat)
      case atStart => exact ⟨0, by omega, rfl⟩
      case round =>
        obtain ⟨i, hi, rfl⟩ := hrel
        by_cases hlt2 : i < 5
        · have h5i := h5 i hlt2
          clear h5
          go_wp2_with fail
          go_round
          case rel => exact ⟨i + 1, by omega, by go_num⟩
          case measure => simp [intOf]; omega
        · obtain rfl : i = 5 := by omega
          clear h5
          have hk := HK.out
          rcases hk with hk | hk
          · have hd1 : decide (k < 0) = true := by simpa using hk
            go_wp2_with fail
            go_roundw
            case rel => exact ⟨j + 1, by omega, by go_num, hB8⟩
            case measure => simp [intOf]; omega
          · have hd1 : decide (k < 0) = false := by simp; omega
            have hd2 : decide (160 ≤ k) = true := by simp; omega
            go_wp2_with fail
            go_roundw
            case rel => exact ⟨j + 1, by omega, by go_num, hB8⟩
            case measure => simp [intOf]; omega
    · obtain rfl : j = 2 := by omega
      have bB := below_step bW hB
      have hsw := hs.below bB
      have hTw := hT.step bB
      have hlc := hs.2.1
      have hcm := hs.2.2.1
      have hc300 : ((min (len : Int) 300)).toNat = min len 300 := by omega
      have hsm := hsw.upto (min len 300) (Nat.min_le_left _ _)
      have hbm := hby.take (min len 300)
      have hm3 : min len 300 ≤ 300 := Nat.min_le_right _ _
      have hml : min len 300 ≤ len := Nat.min_le_left _ _
      have hmi : min (len : Int) 300 = ((min len 300 : Nat) : Int) := by omega
      obtain ⟨m, hm⟩ : ∃ m, min len 300 = m := ⟨_, rfl⟩
      rw [hm] at hsm hbm hm3 hml hmi hc300
      obtain ⟨b, hb⟩ : ∃ b, l.take m = b := ⟨_, rfl⟩
      rw [hb] at hsm hbm
      clear hm hb hs hby hB hsw
      by_cases hsea : Sea b
      · have q1 := open_any a m cap b wr hTw hsm hbm hsea (by omega)
        go_wp2_with fail
        refine q1.mono ?_
        rintro e w2 ⟨v, rfl, hmd⟩
        obtain ⟨a2, c2, rfl, hs2, hown2, hB2⟩ := hmd.view (m - 4) (by rw [List.length_take, hsm.1]; omega)
        have bB2 := below_step bB hB2
        have q2 := sealed_any a m cap b w2 (hTw.step hB2) (hsm.below hB2) hbm
        rw [seaB_yes hsea] at q2
        go_wp2_with fail
        refine q2.mono ?_
        rintro e w' ⟨rfl, rfl⟩
        go_wp2_with fail
        refine (damages_no 3 none 0 0 _ (by omega)).mono ?_
        rintro e w' ⟨rfl, rfl⟩
        go_wp2_with fail
        refine (bit_no 0 0 _ (by omega)).mono ?_
        rintro e w' ⟨rfl, rfl⟩
        go_wp2_with fail
        refine (awake_any _ (hT.step bB2)).mono ?_
        rintro e w' ⟨rfl, hb3⟩
        go_wp2_with fail
        go_ret
        exact ⟨rfl, below_step bB2 hb3⟩
      · have q1 := open_no a m cap b wr hTw hsm hbm hsea
        go_wp2_with fail
        refine q1.mono ?_
        rintro e w2 ⟨rfl, rfl⟩
        have q2 := sealed_any a m cap b wr hTw hsm hbm
        rw [seaB_no hsea] at q2
        go_wp2_with fail
        refine q2.mono ?_
        rintro e w' ⟨rfl, rfl⟩
        go_wp2_with fail
        refine (damages_no 3 none 0 0 _ (by omega)).mono ?_
        rintro e w' ⟨rfl, rfl⟩
        go_wp2_with fail
        refine (bit_no 0 0 _ (by omega)).mono ?_
        rintro e w' ⟨rfl, rfl⟩
        go_wp2_with fail
        refine (awake_any _ hTw).mono ?_
        rintro e w' ⟨rfl, hb3⟩
        go_wp2_with fail
        go_ret
        exact ⟨rfl, below_step bB hb3⟩
end Go.Proofs.YtdaijbplbnkpeaaDoor
