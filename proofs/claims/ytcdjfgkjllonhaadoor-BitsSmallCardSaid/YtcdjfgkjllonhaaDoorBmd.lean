/-
  The contract of the laws' made: a right set of some words.
-/
import Derived.Test.YtcdjfgkjllonhaaDoorBku
import Derived.Test.YtcdjfgkjllonhaaDoorApq
import Derived.Deep.RegionLaw
import Derived.Deep.RegionHeldLaw
namespace Go.Proofs.YtcdjfgkjllonhaaDoor
open Go.RowKit Go.Shelf

theorem own_addr2 {w : World} {base : Nat} {e : TypeId} {a : Option Addr} {N c n : Nat} {xs : List Value} (h : w.ownsRow base e 1 (.slice a N c) n xs) (h0 : 0 < n) : ∃ g, a = some ⟨g, 0, none⟩ ∧ base ≤ g ∧ g < w.heap.size ∧ N = n ∧ n ≤ c := by
  rcases h.2 with ⟨_, hn⟩ | ⟨g, cap, cur, hv, hb, hh, hn, hm, hc, ht⟩
  · omega
  · cases hv; exact ⟨g, rfl, hb, (Array.getElem?_eq_some_iff.1 hh).1, rfl, hn⟩
theorem mask_at (Y : Int) (k : Nat) (hY : 0 ≤ Y ∧ Y < 18446744073709551616) (hk : k < 64) : bits .and .u64 Y ((2 ^ k - 1 : Nat) : Int) = ((Y.toNat % 2 ^ k : Nat) : Int) := by
  obtain ⟨y, rfl⟩ : ∃ y : Nat, Y = (y : Int) := ⟨Y.toNat, by omega⟩
  have h2 : 2 ^ k < 18446744073709551616 := Nat.pow_lt_pow_right (n := 64) (by omega) hk
  have := bits_and_u64_nat y (2 ^ k - 1) (by omega) (by omega)
  rw [this, Nat.and_two_pow_sub_one_eq_mod, Int.toNat_natCast]
theorem right_whole {N W : Nat} {l : List Int} (hW : W = (N + 63) / 64) (hl : l.length = W) (h0 : N % 64 = 0) (hN : N ≤ 65536) : RightS (N : Int) l :=
  ⟨by omega, by omega, by omega, fun i hi hn => bt_out (by omega)⟩
theorem right_cut {N W j r X : Nat} {l : List Int} (hW : W = (N + 63) / 64) (hl : l.length = W) (hr : r = N % 64) (h0 : 0 < r) (hj : j + 1 = W) (hN : N ≤ 65536) : RightS (N : Int) (l.set j ((X % 2 ^ r : Nat) : Int)) :=
  ⟨by omega, by omega, by rw [List.length_set]; omega, fun i hi hn => by
    rw [List.length_set] at hi
    rw [bt_set (by omega), if_pos (by omega), Nat.testBit_mod_two_pow]
    have : ¬ i % 64 < r := by omega
    simp [this]⟩
/-- Where the set is being made. -/
def MSt (b N : Nat) (w2 w' : World) : Prop := Below (b + 1) w2 w' ∧ w'.cell? ⟨b, 0, none⟩ = some (.int .i64 (N : Int)) ∧ w'.cell? ⟨b, 1, none⟩ = some (.slice none 0 0)
theorem MSt.drew {b N : Nat} {w2 w' : World} (h : MSt b N w2 w') : Below (b + 1) w2 w'.drew ∧ w'.drew.cell? ⟨b, 0, none⟩ = some (.int .i64 (N : Int)) ∧ w'.drew.cell? ⟨b, 1, none⟩ = some (.slice none 0 0) := ⟨h.1.drew, h.2⟩
/-- What made ends in: a right set with this N, in new memory. -/
def MadeS (w : World) (N : Nat) (e : Ending) (w' : World) : Prop :=
  ∃ g c R, e = .returned (.agg #[.int .i64 (N : Int), .slice g ((N + 63) / 64) c]) ∧ w'.ownsRow w.heap.size 30 1 (.slice g ((N + 63) / 64) c) ((N + 63) / 64) (R.map (Value.int .u64)) ∧ Wds R ∧ RightS (N : Int) R ∧ Below w.heap.size w w'

set_option maxRecDepth 100000 in
set_option maxHeartbeats 4000000 in
theorem made_any (w : World) (x : Int) (a : Option Addr) (len cap : Nat) (l : List Int) (hs : Sl .u64 w a len cap l) (hw : Wds l) (hx0 : 0 ≤ x) (hx1 : x ≤ 65535) (N : Nat) (hN : (N : Int) = x % (64 * (min len 16 : Nat) + 1)) :
    Calls Tryd.prog 23 #[.int .u16 x, .slice a len cap] w (MadeS w N) := by
  obtain ⟨i0, hinf, hz0, hz1, hz2⟩ := info_parts infoU
  obtain ⟨k, hk⟩ : ∃ k : Nat, k = min len 16 := ⟨_, rfl⟩
  have hk16 : k ≤ 16 ∧ k ≤ len := by omega
  have ek : min (len : Int) 16 = (k : Int) := by omega
  rw [← hk] at hN
  obtain ⟨D, hD⟩ : ∃ D : Int, D = 64 * (k : Int) + 1 := ⟨_, rfl⟩
  have eD : 64 * (k : Int) + 1 = D := hD.symm
  have hDb : 1 ≤ D ∧ D ≤ 1025 := by omega
  have hD0 : ¬ D = 0 := by omega
  have hDz : (D == 0) = false := by simp; omega
  have eN : x.tmod D = (N : Int) := by rw [Int.tmod_eq_emod_of_nonneg hx0, hN, hD]
  have hNl : (N : Int) < D := by rw [hN, ← hD]; exact Int.emod_lt_of_pos _ (by omega)
  have hNk : N ≤ 64 * k := by omega
  have hc1 := hs.2.1
  have hc2 := hs.2.2.1
  have hkc : (k : Int) ≤ (cap : Int) := by omega
  obtain ⟨W, hW⟩ : ∃ W : Nat, W = (N + 63) / 64 := ⟨_, rfl⟩
  have eW : ((N : Int) + 63) / 64 = (W : Int) := by omega
  have hWk : W ≤ k := by omega
  have hWc : (W : Int) ≤ (cap : Int) := by omega
  have HW := Lib.hid hW
  have hNb : N ≤ 1024 := by omega
  have hs2 := hs.upto W (by omega)
  have HS := Lib.hid hs2
  have HLN := Lib.hid hs.1
  clear hk hN hD hW hs hs2
  go_enter Tryd.func23, Tryd.ntmps23
  go_wp2_with fail
  have hB2 : Below w.heap.size w ((w.alloc (.cells #[.int .i64 0, .slice none 0 0] 24)).alloc (.cells #[.int .i64 (N : Int), .slice none 0 0] 24)) := ((Below.refl _ w).alloc (Nat.le_refl _) _).alloc (by rw [World.size_alloc]; omega) _
  have hQ2 : Two ((w.alloc (.cells #[.int .i64 0, .slice none 0 0] 24)).alloc (.cells #[.int .i64 (N : Int), .slice none 0 0] 24)) w.heap.size 24 (.int .i64 0) (.slice none 0 0) := (Two.new w _ _ _).alloc _
  have hT2 : Two ((w.alloc (.cells #[.int .i64 0, .slice none 0 0] 24)).alloc (.cells #[.int .i64 (N : Int), .slice none 0 0] 24)) (w.heap.size + 1) 24 (.int .i64 (N : Int)) (.slice none 0 0) := Two.new2 w _ _ _ _
  obtain ⟨w2, hw2⟩ : ∃ wz, wz = ((w.alloc (.cells #[.int .i64 0, .slice none 0 0] 24)).alloc (.cells #[.int .i64 (N : Int), .slice none 0 0] 24)) := ⟨_, rfl⟩
  have hz2w : w2.heap.size = w.heap.size + 1 + 1 := by rw [hw2]; simp only [World.size_alloc]
  rw [← hw2] at hB2 hQ2 hT2 ⊢
  clear hw2
  obtain ⟨b, hb⟩ : ∃ b, b = w.heap.size + 1 := ⟨_, rfl⟩
  rw [← hb] at hz2w hT2 ⊢
  have hc0 := hT2.c0
  have hc1' := hT2.c1
  have hB0 := Below.refl (b + 1) w2
  have hfz := hT2.f1
  have HBQ := Lib.hid (And.intro hb hz2w)
  have hbw : w.heap.size ≤ b + 1 ∧ b + 1 ≤ w2.heap.size := by omega
  have wN : IntKind.i64.wrap ((N : Int) + 63) = (N : Int) + 63 := by rw [IntKind.wrap_i64]; omega
  have wW : IntKind.i64.wrap (W : Int) = (W : Int) := by rw [IntKind.wrap_i64]; omega
  have hWcn : W ≤ cap := by omega
  have h0W : (0 : Int) ≤ (W : Int) := by omega
  have h0N : (0 : Int) ≤ (N : Int) + 63 := by omega
  have htw : ((W : Int)).toNat = W := by omega
  have eWt : ((N : Int) + 63).tdiv 64 = (W : Int) := by rw [Int.tdiv_eq_ediv_of_nonneg (by omega)]; exact eW
  clear hb hz2w
  go_region_law (first
    | (refine step_append_onsl _ rfl (.tmp 20) (.tmp 26) 22 rfl .u64 (b + 1) 30 i0 8 Tryd.underlying22 hinf hz0 hz1 hz2 _ [] a W cap (l.take W) rfl rfl (World.ownsRow_nil _ (b + 1) 30 1) (HS.out.below hB2.drew) (by unfold maxLen; simp; omega) (by simp; omega) hbw.2 ?_
       intro v' w5 hown hgrow
       obtain ⟨a5, c5, rfl⟩ := own_shape hown
       have hfz5 : w5.frozen? ⟨b, 1, none⟩ = false := (hgrow.frozen_far ⟨b, 1, none⟩ hbw.2 (fun e => by cases e)).trans hfz
       have hS5 : Below (b + 1) w2 w5 ∧ w5.cell? ⟨b, 0, none⟩ = some (.int .i64 (N : Int)) ∧ w5.cell? ⟨b, 1, none⟩ = some (.slice none 0 0) := ⟨hB0.drew.grown hgrow hbw.2 (fun _ e => by cases e), (hgrow.cell_far ⟨b, 0, none⟩ hbw.2 (fun e => by cases e)).trans hc0, (hgrow.cell_far ⟨b, 1, none⟩ hbw.2 (fun e => by cases e)).trans hc1'⟩))
  all_goals
    have hll : (l.take W).length = W := by rw [List.length_take, HLN.out]; omega
    have hmin : min W l.length = W := by rw [HLN.out]; omega
    rw [hmin]
    have hown5 : w5.ownsRow (b + 1) 30 1 (.slice a5 W c5) W ((l.take W).map (Value.int .u64)) := by
      have h := hown
      simp only [List.nil_append, hll] at h
      exact h
    have hwT : Wds (l.take W) := fun y hy => hw y (List.mem_of_mem_take hy)
    obtain ⟨T, hT⟩ : ∃ T, T = l.take W := ⟨_, rfl⟩
    rw [← hT] at hown5 hwT hll
    have hQ5 : Two w5 w.heap.size 24 (.int .i64 0) (.slice none 0 0) := hQ2.below hS5.1 (by have := HBQ.out.1; omega)
    have hT5 : Two w5 b 24 (.int .i64 (N : Int)) (.slice none 0 0) := hT2.below hS5.1 (by omega)
    have hB5 : Below w.heap.size w w5 := hB2.trans (hS5.1.mono hbw.1)
    obtain ⟨w6, hw6⟩ : ∃ wz, wz = w5.setCell ⟨b, 1, none⟩ (.slice a5 W c5) := ⟨_, rfl⟩
    have hB6 : Below w.heap.size w w6 := by rw [hw6]; exact hB5.setCell (p := ⟨b, 1, none⟩) (by have := HBQ.out.1; show w.heap.size ≤ b; omega) _
    have hown6 : w6.ownsRow (b + 1) 30 1 (.slice a5 W c5) W (T.map (Value.int .u64)) := by rw [hw6]; exact own_set hown5 b 1 _ (by omega)
    have hQ6 : Two w6 w.heap.size 24 (.int .i64 0) (.slice none 0 0) := by rw [hw6]; exact two_set hQ5 (by have := HBQ.out.1; omega) _ _
    have e0 : w6.cell? ⟨b, 0, none⟩ = some (.int .i64 (N : Int)) := by rw [hw6]; exact (World.cell?_setCell_other (w := w5) (a := ⟨b, 1, none⟩) (b := ⟨b, 0, none⟩) (v := .slice a5 W c5) (by simp)).trans hT5.c0
    have e1 : w6.cell? ⟨b, 1, none⟩ = some (.slice a5 W c5) := by rw [hw6]; exact World.cell?_setCell_same _ ⟨b, 1, none⟩ _ (u := .slice none 0 0) hT5.c1
    rw [← hw6]
    clear hown hgrow hS5 hfz5 hown5 hQ5 hT5 hB5 hw6 hT hc0 hc1' hfz hB0 hT2 hQ2 hB2 wN wW eWt hmin
    obtain ⟨r, hr⟩ : ∃ r : Nat, r = N % 64 := ⟨_, rfl⟩
    have er : (N : Int) % 64 = (r : Int) := by omega
    have er2 : (N : Int).tmod 64 = (r : Int) := by rw [Int.tmod_eq_emod_of_nonneg (by omega)]; exact er
    by_cases hr0 : 0 < r
    · have hrd : decide ((0 : Int) < (r : Int)) = true := by simp; omega
      have hrdn : decide (0 < r) = true := by simp; omega
      have hWp : 0 < W := by have := HW.out; omega
      obtain ⟨g, rfl, hbg, hgl, _, hWc5⟩ := own_addr2 hown6 hWp
      obtain ⟨j, hj⟩ : ∃ j : Nat, j + 1 = W := ⟨W - 1, by omega⟩
      have ej : (W : Int) - 1 = (j : Int) := by omega
      have i2 : (j : Int) < (W : Int) := by omega
      have hjW : j < W := by omega
      have hX0 := hwT.at j
      obtain ⟨X, hX⟩ : ∃ X : Nat, T[j]?.getD 0 = (X : Int) := ⟨(T[j]?.getD 0).toNat, by omega⟩
      have hXl : X < 18446744073709551616 := by omega
      obtain ⟨P, hP⟩ : ∃ P : Nat, P = 2 ^ r := ⟨_, rfl⟩
      have hr64 : r < 64 := by omega
      have hP1 : 1 ≤ P ∧ P < 18446744073709551616 := ⟨by rw [hP]; exact Nat.one_le_two_pow, by rw [hP]; exact Nat.pow_lt_pow_right (n := 64) (by omega) hr64⟩
      have eP : (2 : Int) ^ r = (P : Int) := by rw [hP]; push_cast; rfl
      have eP2 : IntKind.u64.wrap (P : Int) = (P : Int) := by rw [IntKind.wrap_u64]; omega
      have eM : IntKind.u64.wrap ((P : Int) - 1) = ((P - 1 : Nat) : Int) := by rw [IntKind.wrap_u64]; omega
      have hmk := mask_at (X : Int) r ⟨by omega, by omega⟩ hr64
      rw [← hP, Int.toNat_natCast] at hmk
      obtain ⟨M, hM⟩ : ∃ M : Nat, M = X % P := ⟨_, rfl⟩
      have hMX : M ≤ X := by rw [hM]; exact Nat.mod_le _ _
      rw [← hM] at hmk
      obtain ⟨P1, hP1e⟩ : ∃ q : Nat, q = P - 1 := ⟨_, rfl⟩
      rw [← hP1e] at hmk eM
      have wj : IntKind.i64.wrap (j : Int) = (j : Int) := by rw [IntKind.wrap_i64]; omega
      have wr2 : IntKind.i64.wrap (r : Int) = (r : Int) := by rw [IntKind.wrap_i64]; omega
      have hRS : RightS (N : Int) (T.set j (M : Int)) := by rw [hM, hP]; exact right_cut HW.out hll hr hr0 hj (by omega)
      have hwT2 : Wds (T.set j (M : Int)) := hwT.set j ⟨by omega, by omega⟩
      have cW : w6.cell? ⟨g, j, none⟩ = some (.int .u64 (X : Int)) := by
        rw [World.ownsRow.cellAt hown6 j (by omega), List.getElem?_map, List.getElem?_eq_getElem (by omega)]
        rw [List.getElem?_eq_getElem (by omega)] at hX
        simp only [Option.getD_some] at hX
        rw [Option.map_some, hX]
      have fW := World.ownsRow.frozenAt hown6 j
      have hst := (World.ownsRow.stored hown6 j (.int .u64 (M : Int))).1
      rw [← List.map_set] at hst
      have hbq := HBQ.out.1
      obtain ⟨w7, hw7⟩ : ∃ wz, wz = (w6.setCell ⟨g, j, none⟩ (.int .u64 (M : Int))).drew := ⟨_, rfl⟩
      have hown7 : w7.ownsRow (b + 1) 30 1 (.slice (some ⟨g, 0, none⟩) W c5) W ((T.set j (M : Int)).map (Value.int .u64)) := by rw [hw7]; exact hst
      have hB7 : Below w.heap.size w w7 := by rw [hw7]; exact (hB6.setCell (p := ⟨g, j, none⟩) (by show w.heap.size ≤ g; omega) _).drew
      have hQ7 : Two w7 w.heap.size 24 (.int .i64 0) (.slice none 0 0) := by rw [hw7]; exact two_drew (two_set hQ6 (by omega) _ _)
      have d0 : w7.cell? ⟨b, 0, none⟩ = some (.int .i64 (N : Int)) := by rw [hw7]; exact (World.cell?_setCell_other (w := w6) (a := ⟨g, j, none⟩) (b := ⟨b, 0, none⟩) (v := .int .u64 (M : Int)) (fun e => by cases e; omega)).trans e0
      have d1 : w7.cell? ⟨b, 1, none⟩ = some (.slice (some ⟨g, 0, none⟩) W c5) := by rw [hw7]; exact (World.cell?_setCell_other (w := w6) (a := ⟨g, j, none⟩) (b := ⟨b, 1, none⟩) (v := .int .u64 (M : Int)) (fun e => by cases e; omega)).trans e1
      have HW7 := Lib.hid hw7
      have q0 := hQ7.c0
      have q1 := hQ7.c1
      have q2 := hQ7.f0
      have q3 := hQ7.f1
      have hQ8 := hQ7.range_set (.int .i64 (N : Int)) (.slice (some ⟨g, 0, none⟩) W c5)
      have hB8 := (hB7.setCell (p := ⟨w.heap.size, 0, none⟩) (Nat.le_refl _) (.int .i64 (N : Int))).setCell (p := ⟨w.heap.size, 1, none⟩) (Nat.le_refl _) (.slice (some ⟨g, 0, none⟩) W c5)
      have hlt : w.heap.size < b + 1 := by omega
      have hown8 := own_base (own_set (own_set hown7 w.heap.size 0 (.int .i64 (N : Int)) hlt) w.heap.size 1 (.slice (some ⟨g, 0, none⟩) W c5) hlt) (Nat.le_of_lt hlt)
      have HZ := Lib.hid (And.intro hRS (And.intro hwT2 (And.intro hB8 hown8)))
      clear hRS hwT2 hB8 hown8 hown7 hB7 hst hown6 hB6 hQ6 hr hP hM hP1e hX hX0 hj hw7 hbq hwT hll
      go_wp2_with fail
      go_region
      all_goals
        rw [← HW7.out]
        clear cW fW e0 e1
        go_wp2_with fail
        refine bodyPost_cell1 rfl w.heap.size rfl _ _ hQ8 Tryd.underlying24 rfl (by kernel_rfl) rfl ?_
        unfold MadeS
        rw [← HW.out]
        exact ⟨some ⟨g, 0, none⟩, c5, _, rfl, HZ.out.2.2.2, HZ.out.2.1, HZ.out.1, HZ.out.2.2.1⟩
    · have hrd : decide ((0 : Int) < (r : Int)) = false := by simp; omega
      have hrdn : decide (0 < r) = false := by simp; omega
      have hRS := right_whole HW.out hll (by omega) (by omega)
      have q0 := hQ6.c0
      have q1 := hQ6.c1
      have q2 := hQ6.f0
      have q3 := hQ6.f1
      have hQ7 := hQ6.range_set (.int .i64 (N : Int)) (.slice a5 W c5)
      have hB7 := (hB6.setCell (p := ⟨w.heap.size, 0, none⟩) (Nat.le_refl _) (.int .i64 (N : Int))).setCell (p := ⟨w.heap.size, 1, none⟩) (Nat.le_refl _) (.slice a5 W c5)
      have hlt : w.heap.size < b + 1 := by have := HBQ.out.1; omega
      have hown7 := own_base (own_set (own_set hown6 w.heap.size 0 (.int .i64 (N : Int)) hlt) w.heap.size 1 (.slice a5 W c5) hlt) (Nat.le_of_lt hlt)
      have HZ := Lib.hid (And.intro hRS (And.intro hB7 hown7))
      clear hRS hB7 hown7 hown6 hB6 hr
      go_wp2_with fail
      refine bodyPost_cell1 rfl w.heap.size rfl _ _ hQ7 Tryd.underlying24 rfl (by kernel_rfl) rfl ?_
      unfold MadeS
      rw [← HW.out]
      exact ⟨a5, c5, T, rfl, HZ.out.2.2, hwT, HZ.out.1, HZ.out.2.1⟩
end Go.Proofs.YtcdjfgkjllonhaaDoor
