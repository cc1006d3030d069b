/-
  The walk of the law CrcBits. Where the table of the halves lies as the program's text lays it.
-/
import Derived.Test.YtdaijbplbnkpeaaDoorRgd
namespace Go.Proofs.YtdaijbplbnkpeaaDoor
open Go.RowKit Go.Shelf

theorem bit_both (n k : Int) (hn : n ≤ 1000 ∨ 16777216 < n) : ∃ x e : Int, (∀ w, Calls Tryd.prog 23 #[.int .i64 n, .int .i64 k] w fun r w' => r = .returned (.tuple #[.int .u32 x, .int .i64 e]) ∧ Below w.heap.size w w') ∧
    (∀ w, Calls Tryd.prog 42 #[.int .i64 n, .int .i64 k] w fun r w' => r = .returned (.tuple #[.int .u32 x, .int .i64 e]) ∧ Below w.heap.size w w') := by
  by_cases h : n < 1 ∨ 16777216 < n ∨ k < 0 ∨ 8 * n ≤ k
  · refine ⟨0, 2, fun w => (bit_no n k w h).mono ?_, fun w => (rbit_no n k w h).mono ?_⟩
    · rintro e w' ⟨rfl, rfl⟩; exact ⟨rfl, Below.refl _ _⟩
    · rintro e w' ⟨rfl, rfl⟩; exact ⟨rfl, Below.refl _ _⟩
  · obtain ⟨a, rfl⟩ : ∃ a : Nat, n = (a : Int) := ⟨n.toNat, by omega⟩
    obtain ⟨b, rfl⟩ : ∃ b : Nat, k = (b : Int) := ⟨k.toNat, by omega⟩
    exact ⟨_, _, fun w => bit_any a b w (by omega) (by omega), fun w => rbit_any a b w (by omega) (by omega)⟩
theorem damages_both (n : Int) (l : List Int) (m : Nat) (hn : n ≤ 1000 ∨ 16777216 < n) : ∃ (d : Bool) (e : Int), (∀ w a c, Sl .i64 w a m c l → Calls Tryd.prog 25 #[.int .i64 n, .slice a m c] w fun r w' => r = .returned (.tuple #[.bool d, .int .i64 e]) ∧ Below w.heap.size w w') ∧
    (∀ w a c, Sl .i64 w a m c l → Calls Tryd.prog 43 #[.int .i64 n, .slice a m c] w fun r w' => r = .returned (.tuple #[.bool d, .int .i64 e]) ∧ Below w.heap.size w w') := by
  by_cases h : n < 4 ∨ 16777216 < n
  · refine ⟨false, 2, fun w a c _ => (damages_no n a m c w h).mono ?_, fun w a c _ => (rdamages_no n a m c w h).mono ?_⟩
    · rintro e w' ⟨rfl, rfl⟩; exact ⟨rfl, Below.refl _ _⟩
    · rintro e w' ⟨rfl, rfl⟩; exact ⟨rfl, Below.refl _ _⟩
  · obtain ⟨a, rfl⟩ : ∃ a : Nat, n = (a : Int) := ⟨n.toNat, by omega⟩
    exact ⟨_, _, fun w x c hS => damages_any a x m c l w (by omega) (by omega) hS, fun w x c hS => rdamages_any a x m c l w (by omega) (by omega) hS⟩

set_option maxRecDepth 100000 in
set_option maxHeartbeats 2000000 in
theorem bits_law (W : World) (n k : Int) (a : Option Addr) (m cap : Nat) (l : List Int) (hn : n ≤ 1000 ∨ 16777216 < n) (hS : Sl .i64 W a m cap l) (hm : m ≤ 100000) :
    Calls Tryd.prog 18 #[.int .i64 n, .int .i64 k, .slice a m cap] W fun e w' => e = .returned (.bool true) ∧ Below W.heap.size W w' := by
  obtain ⟨j0, jinf, jz0, jz1, jz2⟩ := info_parts infoInt
  have hlc := hS.2.1
  have hcm := hS.2.2.1
  have hl := hS.1
  obtain ⟨x, e, qb1, qb2⟩ := bit_both n k hn
  obtain ⟨d, g, qd1, qd2⟩ := damages_both n l m hn
  have hxx : (x != x) = false := by simp
  have hee : (e != e) = false := by simp
  have hgg : (g != g) = false := by simp
  have hdd : (d != d) = false := by simp
  clear hn
  go_enter Tryd.func18, Tryd.ntmps18
  go_wp2_with fail
  refine (qb1 _).mono ?_
  rintro r w1 ⟨rfl, hB1⟩
  go_wp2_with fail
  refine (qb2 _).mono ?_
  rintro r w2 ⟨rfl, hb⟩
  have hB2 := below_step hB1 hb
  clear hb hB1 qb1 qb2
  have hown3 : (w2.alloc (.cells #[] 3)).ownsRow W.heap.size 3 1 (.slice (some ⟨w2.heap.size, 0, none⟩) 0 0) ([] : List Int).length (([] : List Int).map (Value.int .i64)) := World.ownsRow_lit w2 #[] 0 hB2.size (by unfold maxLen; omega) rfl
  have hB3 : Below W.heap.size W (w2.alloc (.cells #[] 3)) := hB2.alloc hB2.size _
  have hs3 := hS.below hB3
  have hsz3 := hB3.size
  have hsz2 := hB2.size
  go_wp2_with (at_builtin; refine wpList_append_onsl _ rfl (.tmp 29) (.tmp 30) 27 rfl .i64 W.heap.size 3 j0 8 Tryd.underlying27 jinf jz0 jz1 jz2 _ [] a m cap l rfl rfl hown3 hs3 (by unfold maxLen; simp; omega) (by simp; omega) hsz3 ?_)
  intro v4 w4 hown4 hgrow4
  have hB4 : Below W.heap.size W w4 := hB3.grown hgrow4 hsz3 (fun kk hk => by cases hk; exact hsz2)
  have hown4' : w4.ownsRow W.heap.size 3 1 v4 m (l.map (Value.int .i64)) := by rw [← hl]; simpa [hl] using hown4
  obtain ⟨a4, c4, rfl⟩ := own_shape hown4'
  have hs4 := own_sl hown4'
  clear hown4 hown4' hgrow4 hown3 hs3 hsz3 hB3 hB2 hsz2
  go_wp2_with fail
  refine (qd1 _ _ _ hs4).mono ?_
  rintro r w5 ⟨rfl, hb5⟩
  have hB5 := below_step hB4 hb5
  have hs5 := hs4.below hb5
  go_wp2_with fail
  refine (qd2 _ _ _ (hS.below hB5)).mono ?_
  rintro r w6 ⟨rfl, hb6⟩
  have hB6 := below_step hB5 hb6
  have hs6 := hs5.below hb6
  have hSw := hS.below hB6
  clear hb5 hb6 hB5 hB4 hs4 hs5 qd1 qd2 hS
  go_wp2_with fail
  go_loopw [64] (fun I wr => ∃ j q : Nat, j ≤ m ∧ I = .int .i64 (j : Int) ∧ wr = w6.drewN q) (fun I _ => m - (intOf I).toNat)
  case atStart => exact ⟨0, 0, Nat.zero_le _, rfl, rfl⟩
  case round =>
    obtain ⟨j, q, hj, rfl, rfl⟩ := hrel
    by_cases hlt : j < m
    · obtain ⟨b1, o1, rfl, _, c1⟩ := hs6.at hlt
      obtain ⟨b2, o2, rfl, _, c2⟩ := hSw.at hlt
      have hvb : (l[j]?.getD 0 != l[j]?.getD 0) = false := by simp
      go_wp2_with fail
      go_quiet (fail)
      go_wp2_with fail
      go_roundw
      case rel => exact ⟨j + 1, q + nq, by omega, by go_num, rfl⟩
      case measure => simp [intOf]; omega
    · obtain rfl : j = m := by omega
      go_wp2_with fail
      go_ret
      exact ⟨rfl, below_drewN hB6 q⟩

set_option maxRecDepth 100000 in
set_option maxHeartbeats 2000000 in
theorem bits_walk (W : World) (hT : Tab W) (n k : Int) (a : Option Addr) (m cap : Nat) (l : List Int) (wn : (Lit.int .i64 n).wf = true) (wk : (Lit.int .i64 k).wf = true) (hS : Sl .i64 W a m cap l) (hf : Fits .i64 l) :
    Calls Tryd.prog 5 #[.int .i64 n, .int .i64 k, .slice a m cap] W fun e w' => e = .returned (.bool true) ∧ Below W.heap.size W w' := by
  have hn3 := bounds_i64 wn
  have hk3 := bounds_i64 wk
  have hlc := hS.2.1
  have hcm := hS.2.2.1
  have hf3 := hf
  clear hf hf3 wn wk hn3 hk3
  by_cases hout : (100 < n ∧ n ≤ 16777216) ∨ (40 < m ∧ m ≤ 4096) ∨ 4200 < m
  · have fin : ∀ w, Below W.heap.size W w → Calls Tryd.prog 15 #[] w fun e w' => e = .returned (.bool true) ∧ Below W.heap.size W w' := fun w hb =>
      (awake_any w (hT.step hb)).mono fun e w' h => ⟨h.1, below_step hb h.2⟩
    have q := fin W (Below.refl _ _)
    by_cases h1 : 100 < n
    · have d1 : decide (100 < n) = true := by simpa using h1
      by_cases h2 : n ≤ 16777216
      · have d2 : decide (n ≤ 16777216) = true := by simpa using h2
        clear hout fin
        go_enter Tryd.func5, Tryd.ntmps5
        go_wp2_with fail
        refine q.mono ?_
        rintro e w' ⟨rfl, hb⟩
        go_wp2_with fail
        go_ret
        exact ⟨rfl, hb⟩
      · have d2 : decide (n ≤ 16777216) = false := by simpa using h2
        by_cases h3 : 4200 < m
        · have d3 : decide ((40 : Int) < (m : Int)) = true := by simp; omega
          have d4 : decide ((m : Int) ≤ 4096) = false := by simp; omega
          have d5 : decide ((4200 : Int) < (m : Int)) = true := by simp; omega
          clear hout fin
          go_enter Tryd.func5, Tryd.ntmps5
          go_wp2_with fail
          refine q.mono ?_
          rintro e w' ⟨rfl, hb⟩
          go_wp2_with fail
          go_ret
          exact ⟨rfl, hb⟩
        · have d3 : decide ((40 : Int) < (m : Int)) = true := by simp; omega
          have d4 : decide ((m : Int) ≤ 4096) = true := by simp; omega
          clear hout fin
          go_enter Tryd.func5, Tryd.ntmps5
          go_wp2_with fail
          refine q.mono ?_
          rintro e w' ⟨rfl, hb⟩
          go_wp2_with fail
          go_ret
          exact ⟨rfl, hb⟩
    · have d1 : decide (100 < n) = false := by simpa using h1
      by_cases h3 : 4200 < m
      · have d3 : decide ((40 : Int) < (m : Int)) = true := by simp; omega
        have d4 : decide ((m : Int) ≤ 4096) = false := by simp; omega
        have d5 : decide ((4200 : Int) < (m : Int)) = true := by simp; omega
        clear hout fin
        go_enter Tryd.func5, Tryd.ntmps5
        go_wp2_with fail
        refine q.mono ?_
        rintro e w' ⟨rfl, hb⟩
        go_wp2_with fail
        go_ret
        exact ⟨rfl, hb⟩
      · have d3 : decide ((40 : Int) < (m : Int)) = true := by simp; omega
        have d4 : decide ((m : Int) ≤ 4096) = true := by simp; omega
        clear hout fin
        go_enter Tryd.func5, Tryd.ntmps5
        go_wp2_with fail
        refine q.mono ?_
        rintro e w' ⟨rfl, hb⟩
        go_wp2_with fail
        go_ret
        exact ⟨rfl, hb⟩
  · have hnn : n ≤ 1000 ∨ 16777216 < n := by omega
    have q := bits_law W n k a m cap l hnn hS (by omega)
    have fin : ∀ w, Below W.heap.size W w → Calls Tryd.prog 15 #[] w fun e w' => e = .returned (.bool true) ∧ Below W.heap.size W w' := fun w hb =>
      (awake_any w (hT.step hb)).mono fun e w' h => ⟨h.1, below_step hb h.2⟩
    have d5 : decide ((4200 : Int) < (m : Int)) = false := by simp; omega
    by_cases h1 : 100 < n
    · have d1 : decide (100 < n) = true := by simpa using h1
      have d2 : decide (n ≤ 16777216) = false := by simp; omega
      by_cases h2 : 40 < m
      · have d3 : decide ((40 : Int) < (m : Int)) = true := by simp; omega
        have d4 : decide ((m : Int) ≤ 4096) = false := by simp; omega
        clear hout hnn
        go_enter Tryd.func5, Tryd.ntmps5
        go_wp2_with fail
        refine q.mono ?_
        rintro e w' ⟨rfl, hb⟩
        go_wp2_with fail
        refine (fin _ hb).mono ?_
        rintro e w2 ⟨rfl, hb2⟩
        go_wp2_with fail
        go_ret
        exact ⟨rfl, hb2⟩
      · have d3 : decide ((40 : Int) < (m : Int)) = false := by simp; omega
        clear hout hnn
        go_enter Tryd.func5, Tryd.ntmps5
        go_wp2_with fail
        refine q.mono ?_
        rintro e w' ⟨rfl, hb⟩
        go_wp2_with fail
        refine (fin _ hb).mono ?_
        rintro e w2 ⟨rfl, hb2⟩
        go_wp2_with fail
        go_ret
        exact ⟨rfl, hb2⟩
    · have d1 : decide (100 < n) = false := by simpa using h1
      by_cases h2 : 40 < m
      · have d3 : decide ((40 : Int) < (m : Int)) = true := by simp; omega
        have d4 : decide ((m : Int) ≤ 4096) = false := by simp; omega
        clear hout hnn
        go_enter Tryd.func5, Tryd.ntmps5
        go_wp2_with fail
        refine q.mono ?_
        rintro e w' ⟨rfl, hb⟩
        go_wp2_with fail
        refine (fin _ hb).mono ?_
        rintro e w2 ⟨rfl, hb2⟩
        go_wp2_with fail
        go_ret
        exact ⟨rfl, hb2⟩
      · have d3 : decide ((40 : Int) < (m : Int)) = false := by simp; omega
        clear hout hnn
        go_enter Tryd.func5, Tryd.ntmps5
        go_wp2_with fail
        refine q.mono ?_
        rintro e w' ⟨rfl, hb⟩
        go_wp2_with fail
        refine (fin _ hb).mono ?_
        rintro e w2 ⟨rfl, hb2⟩
        go_wp2_with fail
        go_ret
        exact ⟨rfl, hb2⟩
end Go.Proofs.YtdaijbplbnkpeaaDoor
