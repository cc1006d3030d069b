/-
  The reference's Find.
-/
import Derived.Test.YtdaijbplbnkpeaaDoorRgd
import Derived.Test.YtdaijbplbnkpeaaDoorQw4
namespace Go.Proofs.YtdaijbplbnkpeaaDoor
open Go.RowKit Go.Shelf

theorem flp_flp {l : List Int} (hB : Bys l) {k : Nat} (hk : k < 8 * l.length) : flp (flp l k) k = l := by
  have hi : k / 8 < l.length := by omega
  have hx := hB.get (k / 8)
  unfold flp
  rw [List.set_set, List.getElem?_set_self hi, Option.getD_some, Int.toNat_natCast, Nat.xor_assoc, Nat.xor_self, Nat.xor_zero, Int.toNat_of_nonneg hx.1, List.getElem?_eq_getElem hi, Option.getD_some, List.set_getElem_self]

theorem sea_of_flp {l : List Int} (h4 : 4 ≤ l.length) {k : Nat} (hk : k < 8 * l.length) : seaB (flp l k) = (prt l.length k == chg l) := by
  by_cases h : prt l.length k = chg l
  · rw [seaB_yes ((sea_flp h4 k hk).2 h)]; simp [h]
  · rw [seaB_no (fun hs => h ((sea_flp h4 k hk).1 hs))]; simp [h]

set_option maxRecDepth 100000 in
set_option maxHeartbeats 2000000 in
theorem rfind_any (a : Option Addr) (n cap : Nat) (l : List Int) (w : World) (hS : Sl .u8 w a n cap l) (hB : Bys l) (h4 : 4 ≤ n) (hn1 : n ≤ 1000) :
    Calls Tryd.prog 21 #[.slice a n cap] w fun e w' => ((∃ k : Nat, k < 8 * n ∧ prt n k = chg l ∧ (∀ j, j < k → prt n j ≠ chg l) ∧ e = .returned (.tuple #[.int .i64 (k : Int), .int .i64 0])) ∨ ((∀ k, k < 8 * n → prt n k ≠ chg l) ∧ e = .returned (.tuple #[.int .i64 0, .int .i64 6]))) ∧ Below w.heap.size w w' := by
  obtain ⟨i0, hinf, hz0, hz1, hz2⟩ := info_parts infoU8
  obtain rfl : l.length = n := hS.1
  obtain ⟨n, hn⟩ : ∃ n, n = l.length := ⟨_, rfl⟩
  rw [← hn] at hS h4 hn1 ⊢
  have hd1 : decide ((n : Int) < 4) = false := by simp; omega
  have hd2 : decide ((65536 : Int) < (n : Int)) = false := by simp; omega
  have hlc := hS.2.1
  have hcm := hS.2.2.1
  obtain ⟨C, hC⟩ : ∃ C, C = chg l := ⟨_, rfl⟩
  rw [← hC]
  have HN := Lib.hid hn
  have HC := Lib.hid hC
  clear hn hC
  have hown5 : (w.alloc (.cells #[] 5)).ownsRow w.heap.size 5 1 (.slice (some ⟨w.heap.size, 0, none⟩) 0 0) ([] : List Int).length (([] : List Int).map (Value.int .u8)) := World.ownsRow_lit w #[] 0 (Nat.le_refl _) (by unfold maxLen; omega) rfl
  have hD5 : Below w.heap.size w (w.alloc (.cells #[] 5)) := (Below.refl _ _).alloc (Nat.le_refl _) _
  have hs5 := hS.below hD5
  have hsz5 := hD5.size
  go_enter Tryd.func21, Tryd.ntmps21
  go_wp2_with (at_builtin; refine wpList_append_onsl _ rfl (.tmp 14) (.tmp 15) 22 rfl .u8 w.heap.size 5 i0 1 Tryd.underlying22 hinf hz0 hz1 hz2 _ [] a n cap l rfl rfl hown5 hs5 (by unfold maxLen; simp; omega) (by simp; omega) hsz5 ?_)
  intro v6 w6 hown6 hgrow6
  have hD6 : Below w.heap.size w w6 := hD5.grown hgrow6 hsz5 (fun kk hk => by cases hk; exact Nat.le_refl _)
  have hown6' : w6.ownsRow w.heap.size 5 1 v6 n (l.map (Value.int .u8)) := by
    rw [HN.out]
    simpa using hown6
  obtain ⟨g, c6, rfl⟩ := ownsRow_form' hown6' (by omega)
  clear hown6 hgrow6 hown5 hs5 hD5 hsz5
  have f1 := rsealed_any _ n c6 l w6 (own_sl hown6') hB (by omega)
  by_cases h0 : C = 0
  · rw [seaB_yes ⟨by rw [← HN.out]; exact h4, by rw [← HC.out]; exact h0⟩] at f1
    have h0' := Lib.hid h0
    clear h0 hown6'
    go_wp2_with fail
    refine f1.mono ?_
    rintro e w7 ⟨rfl, hb7⟩
    go_wp2_with fail
    go_ret2
    exact ⟨.inr ⟨fun k _ => by rw [h0'.out]; exact prt_ne _ _, rfl⟩, below_step hD6 hb7⟩
  · rw [seaB_no (fun h => h0 (by rw [HC.out]; exact h.2))] at f1
    clear h0
    go_wp2_with fail
    refine f1.mono ?_
    rintro e w7 ⟨rfl, hb7⟩
    have hown7 := ownsRow_below hown6' hb7
    have hD7 := below_step hD6 hb7
    clear f1 hb7 hown6' hD6
    go_wp2_with fail
    go_loopw [5] (fun K wr => ∃ k : Nat, k ≤ 8 * n ∧ K = .int .i64 (k : Int) ∧ wr.ownsRow w.heap.size 5 1 (.slice (some ⟨g, 0, none⟩) n c6) n (l.map (Value.int .u8)) ∧ Below w.heap.size w wr ∧ ∀ j, j < k → prt n j ≠ C) (fun K _ => 8 * n - (intOf K).toNat)
    case atStart => exact ⟨0, by omega, rfl, hown7, hD7, fun j hj => by omega⟩
    case round =>
      obtain ⟨k, hk, rfl, hA, hD, hno⟩ := hrel
      obtain ⟨wq, hwq⟩ : ∃ wq, wq = wr := ⟨_, rfl⟩
      subst hwq
      have HNO := Lib.hid hno
      clear hno hown7 hD7
      by_cases hlt : k < 8 * n
      · obtain ⟨y1, z1, _, p1, p2, p3, p4, hA1, hg1, hgB1⟩ := flip_facts hA hB hlt
        have hbS1 := flp_bys hB k
        have hB5 : Below w.heap.size w (wq.setCell ⟨g, k / 8, none⟩ (.int .u8 (z1 : Int))).drew := (hD.setCell (p := ⟨g, k / 8, none⟩) hgB1 _).drew
        have hA5 := hA1.drew
        obtain ⟨w5, hw5⟩ : ∃ w5, w5 = (wq.setCell ⟨g, k / 8, none⟩ (.int .u8 (z1 : Int))).drew := ⟨_, rfl⟩
        rw [← hw5] at hA5 hB5
        have f2 := rsealed_any _ n c6 (flp l k) w5 (own_sl hA5) hbS1 (by omega)
        rw [sea_of_flp (by rw [← HN.out]; exact h4) (by rw [← HN.out]; exact hlt), ← HN.out, ← HC.out] at f2
        obtain ⟨s, hs⟩ : ∃ s, s = (prt n k == C) := ⟨_, rfl⟩
        rw [← hs] at f2
        have HSS := Lib.hid hs
        have HW5 := Lib.hid hw5
        have i1 : (k : Int) / 8 < (n : Int) := by omega
        have i2 : (0 : Int) ≤ (k : Int) / 8 := by omega
        have i3 : (0 : Int) ≤ (k : Int) % 8 := by omega
        have i4 : ((k : Int) / 8).toNat = k / 8 := by omega
        have i5 : ((k : Int) % 8).toNat = k % 8 := by omega
        clear hw5 hA1 hA hD hs
        go_wp2_with fail
        go_region
        rw [← HW5.out]
        clear p1 p2 p3 p4 hg1 hgB1 HW5
        go_wp2_with fail
        refine f2.mono ?_
        rintro e w8 ⟨rfl, hb8⟩
        cases s with
        | true =>
          go_wp2_with fail
          go_ret2
          exact ⟨.inl ⟨k, hlt, by simpa using HSS.out.symm, HNO.out, rfl⟩, below_step hB5 hb8⟩
        | false =>
          have hA8 := ownsRow_below hA5 hb8
          have hB8 := below_step hB5 hb8
          obtain ⟨y2, z2, _, p1, p2, p3, p4, hA2, hg2, hgB2⟩ := flip_facts hA8 hbS1 hlt
          rw [flp_flp hB (by rw [← HN.out]; exact hlt)] at hA2
          have hB9 : Below w.heap.size w (w8.setCell ⟨g, k / 8, none⟩ (.int .u8 (z2 : Int))).drew := (hB8.setCell (p := ⟨g, k / 8, none⟩) hgB2 _).drew
          have hA9 := hA2.drew
          obtain ⟨w9, hw9⟩ : ∃ w9, w9 = (w8.setCell ⟨g, k / 8, none⟩ (.int .u8 (z2 : Int))).drew := ⟨_, rfl⟩
          rw [← hw9] at hA9 hB9
          have HW9 := Lib.hid hw9
          clear hw9 hA2 hA8 hB8 hA5 hB5 hb8 f2
          go_wp2_with fail
          go_region
          rw [← HW9.out]
          clear p1 p2 p3 p4 hg2 hgB2 HW9 i1 i2 i3 i4 i5
          go_wp2_with fail
          go_roundw
          case rel =>
            refine ⟨k + 1, by omega, by go_num, hA9, hB9, fun j hj => ?_⟩
            by_cases hjk : j = k
            · subst hjk; simpa using HSS.out.symm
            · exact HNO.out j (by omega)
          case measure => simp [intOf]; omega
      · obtain rfl : k = 8 * n := by omega
        have e8 : ((8 * n : Nat) : Int) = 8 * (n : Int) := by omega
        simp only [e8]
        go_wp2_with fail
        go_ret2
        exact ⟨.inr ⟨HNO.out, rfl⟩, hD⟩
end Go.Proofs.YtdaijbplbnkpeaaDoor
