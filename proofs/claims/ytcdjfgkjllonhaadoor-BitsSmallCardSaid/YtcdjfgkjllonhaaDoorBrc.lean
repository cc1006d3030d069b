/-
  The contracts of the reference's Rank, Next and Before; for all words and integers.
-/
import Derived.Test.YtcdjfgkjllonhaaDoorBrb
namespace Go.Proofs.YtcdjfgkjllonhaaDoor
open Go.RowKit Go.Shelf

/-- Sorted members before a rank are below a number, the one of the rank is not: then it is the number's rank. -/
theorem rk_is {l : List Int} {i : Int} {k : Nat} (hk : k ≤ (all l).length) (h1 : ∀ j (_ : j < k) (_ : j < (all l).length), (((all l)[j] : Nat) : Int) < i) (h2 : ∀ h : k < (all l).length, i ≤ (((all l)[k] : Nat) : Int)) : rk l i.toNat = k := by
  by_cases hlt : k < (all l).length
  · have h3 := h2 hlt
    have hr := (all_at hlt).2
    have h4 : rk l i.toNat ≤ k := by rw [← hr]; exact rk_mono (by omega)
    by_cases h0 : k = 0
    · omega
    · have h5 := h1 (k - 1) (by omega) (by omega)
      have h6 := all_at (show k - 1 < (all l).length by omega)
      have h7 : rk l ((all l)[k - 1] + 1) = k := by rw [rk_succ, h6.1, h6.2]; simp; omega
      have h8 : rk l ((all l)[k - 1] + 1) ≤ rk l i.toNat := rk_mono (by omega)
      omega
  · have hke : k = (all l).length := by omega
    have h4 := rk_le_all l i.toNat
    by_cases h0 : k = 0
    · omega
    · have h5 := h1 (k - 1) (by omega) (by omega)
      have h6 := all_at (show k - 1 < (all l).length by omega)
      have h7 : rk l ((all l)[k - 1] + 1) = k := by rw [rk_succ, h6.1, h6.2]; simp; omega
      have h8 : rk l ((all l)[k - 1] + 1) ≤ rk l i.toNat := rk_mono (by omega)
      omega
theorem all_in {l : List Int} {k : Nat} (hk : bt l k = true) : ∃ j, ∃ h : j < (all l).length, (all l)[j] = k := List.getElem_of_mem (all_mem.2 hk)
theorem next_is {l : List Int} {i : Int} {k : Nat} (hk : k < (all l).length) (h1 : ∀ j (_ : j < k) (_ : j < (all l).length), (((all l)[j] : Nat) : Int) < i) (h2 : i ≤ (((all l)[k] : Nat) : Int)) : NextS l i (some ((all l)[k])) := by
  refine ⟨h2, (all_at hk).1, fun x hx hxk => ?_⟩
  by_cases hb : bt l x = true
  · obtain ⟨j, hj, rfl⟩ := all_in hb
    by_cases hjk : j < k
    · have := h1 j hjk hj; omega
    · have := List.pairwise_iff_getElem.1 (all_sorted l) k j hk hj
      by_cases he : k = j
      · subst he; omega
      · have := this (by omega); omega
  · simpa using hb
theorem next_no {l : List Int} {i : Int} (h1 : ∀ j (_ : j < (all l).length), (((all l)[j] : Nat) : Int) < i) : NextS l i none := fun x hx => by
  by_cases hb : bt l x = true
  · obtain ⟨j, hj, rfl⟩ := all_in hb
    have := h1 j hj; omega
  · simpa using hb
theorem bef_is {l : List Int} {i : Int} {k : Nat} (hk : k < (all l).length) (h1 : ∀ j (_ : k < j) (_ : j < (all l).length), i ≤ (((all l)[j] : Nat) : Int)) (h2 : (((all l)[k] : Nat) : Int) < i) : BefS l i (some ((all l)[k])) := by
  refine ⟨h2, (all_at hk).1, fun x hx hxk => ?_⟩
  by_cases hb : bt l x = true
  · obtain ⟨j, hj, rfl⟩ := all_in hb
    by_cases hjk : k < j
    · have := h1 j hjk hj; omega
    · have := List.pairwise_iff_getElem.1 (all_sorted l) j k hj hk
      by_cases he : k = j
      · subst he; omega
      · have := this (by omega); omega
  · simpa using hb
theorem bef_no {l : List Int} {i : Int} (h1 : ∀ j (_ : j < (all l).length), i ≤ (((all l)[j] : Nat) : Int)) : BefS l i none := fun x hx => by
  by_cases hb : bt l x = true
  · obtain ⟨j, hj, rfl⟩ := all_in hb
    have := h1 j hj; omega
  · simpa using hb
/-- A number, or -1. -/
def orNo : Option Nat → Int
  | none => -1
  | some m => (m : Int)

theorem all_len (l : List Int) : (all l).length ≤ 64 * l.length := mem_len _ l
theorem ef_len {N : Int} {l : List Int} : (ef N l).length ≤ 1024 := by
  cases h : rightB N l with
  | false => rw [ef_no h]; simp
  | true => rw [ef_yes h]; have := of_rightB h; have h2 := this.2.1; have h3 := this.2.2.1; omega

set_option maxRecDepth 100000 in
set_option maxHeartbeats 1000000 in
theorem rrank_any (w : World) (N i : Int) (a : Option Addr) (n c : Nat) (l : List Int) (hs : Sl .u64 w a n c l) (hw : Wds l) (hN : N ≤ 9223372036854775807) :
    Calls Tryd.prog 43 #[.agg #[.int .i64 N, .slice a n c], .int .i64 i] w fun e w' => e = .returned (.int .i64 (rk (ef N l) i.toNat : Nat)) ∧ Below w.heap.size w w' := by
  have hB1 : Below w.heap.size w (w.alloc (.cells #[.int .i64 N, .slice a n c] 31)) := (Below.refl _ w).alloc (Nat.le_refl _) _
  have hs1 := hs.below hB1
  have hl64 := all_len (ef N l)
  have hl16 := ef_len (N := N) (l := l)
  have hla : (all (ef N l)).length ≤ 70000 := by omega
  have q := rmembers_any _ N a n c l hs1 hw hN
  obtain ⟨E, hE⟩ : ∃ E, E = ef N l := ⟨_, rfl⟩
  rw [← hE] at q hla ⊢
  clear hs hs1 hl64 hl16 hE
  go_enter Tryd.func43, Tryd.ntmps43
  go_wp2_with fail
  refine q.mono ?_
  rintro e w2 ⟨ga, gc, rfl, hown, hB2⟩
  clear q
  have hs2 := own_sl hown
  have hB := bstep hB1 hB2
  obtain ⟨m, hm⟩ : ∃ m, m = (all E).length := ⟨_, rfl⟩
  rw [← hm] at hs2 hla ⊢
  clear hown hB1 hB2
  have HE := Lib.hid hm
  clear hm
  go_wp2_with fail
  go_loop [6] (fun I => ∃ k : Nat, k ≤ m ∧ I = .int .i64 (k : Int) ∧ ∀ j (_ : j < k) (_ : j < (all E).length), (((all E)[j] : Nat) : Int) < i) (fun I => m - (intOf I).toNat)
  case atStart => exact ⟨0, by omega, rfl, fun j hj => by omega⟩
  case round =>
    obtain ⟨k, hk, rfl, hall⟩ := hrel
    have HA := Lib.hid hall
    clear hall
    by_cases hlt : k < m
    · have hd : decide ((k : Int) < (m : Int)) = true := by simp; omega
      have hdn : decide (k < m) = true := by simp; omega
      have i1 : (k : Int) < (m : Int) := by omega
      obtain ⟨b, off, rfl, hc⟩ := hs2.view (by omega)
      have hcell := hc k hlt
      have hlt2 : k < (all E).length := by rw [← HE.out]; exact hlt
      rw [ints_at hlt2] at hcell
      obtain ⟨x, hx⟩ : ∃ x, x = (all E)[k] := ⟨_, rfl⟩
      rw [← hx] at hcell
      have HX := Lib.hid hx
      clear hx hc hs2
      by_cases hxi : (x : Int) < i
      · have hd2 : decide ((x : Int) < i) = true := by simpa using hxi
        clear hxi
        go_wp2_with fail
        go_round
        case rel =>
          refine ⟨k + 1, by omega, by go_num, fun j hj hj2 => ?_⟩
          by_cases hjk : j = k
          · subst hjk; rw [← HX.out]; simpa using hd2
          · exact HA.out j (by omega) hj2
        case measure => simp [intOf]; omega
      · have hd2 : decide ((x : Int) < i) = false := by simpa using hxi
        have hr : rk E i.toNat = k := rk_is (by omega) HA.out (fun h => by rw [← HX.out]; omega)
        have HR := Lib.hid hr
        clear hxi hr
        go_wp2_with fail
        go_ret
        exact ⟨by rw [HR.out]; rfl, hB⟩
    · have hd : decide ((k : Int) < (m : Int)) = false := by simp; omega
      have hdn : decide (k < m) = false := by simp; omega
      have hr : rk E i.toNat = k := rk_is (by rw [← HE.out]; exact hk) HA.out (fun h => by have := HE.out; omega)
      have HR := Lib.hid hr
      clear hr
      go_wp2_with fail
      go_ret
      exact ⟨by rw [HR.out]; rfl, hB⟩

set_option maxRecDepth 100000 in
set_option maxHeartbeats 1000000 in
theorem rnext_any (w : World) (N i : Int) (a : Option Addr) (n c : Nat) (l : List Int) (hs : Sl .u64 w a n c l) (hw : Wds l) (hN : N ≤ 9223372036854775807) :
    Calls Tryd.prog 45 #[.agg #[.int .i64 N, .slice a n c], .int .i64 i] w fun e w' => (∃ r, NextS (ef N l) i r ∧ e = .returned (.int .i64 (orNo r))) ∧ Below w.heap.size w w' := by
  have hB1 : Below w.heap.size w (w.alloc (.cells #[.int .i64 N, .slice a n c] 31)) := (Below.refl _ w).alloc (Nat.le_refl _) _
  have hs1 := hs.below hB1
  have hl64 := all_len (ef N l)
  have hl16 := ef_len (N := N) (l := l)
  have hla : (all (ef N l)).length ≤ 70000 := by omega
  have q := rmembers_any _ N a n c l hs1 hw hN
  obtain ⟨E, hE⟩ : ∃ E, E = ef N l := ⟨_, rfl⟩
  rw [← hE] at q hla ⊢
  clear hs hs1 hl64 hl16 hE
  go_enter Tryd.func45, Tryd.ntmps45
  go_wp2_with fail
  refine q.mono ?_
  rintro e w2 ⟨ga, gc, rfl, hown, hB2⟩
  clear q
  have hs2 := own_sl hown
  have hB := bstep hB1 hB2
  obtain ⟨m, hm⟩ : ∃ m, m = (all E).length := ⟨_, rfl⟩
  rw [← hm] at hs2 hla ⊢
  clear hown hB1 hB2
  have HE := Lib.hid hm
  clear hm
  go_wp2_with fail
  go_loop [6] (fun I => ∃ k : Nat, k ≤ m ∧ I = .int .i64 (k : Int) ∧ ∀ j (_ : j < k) (_ : j < (all E).length), (((all E)[j] : Nat) : Int) < i) (fun I => m - (intOf I).toNat)
  case atStart => exact ⟨0, by omega, rfl, fun j hj => by omega⟩
  case round =>
    obtain ⟨k, hk, rfl, hall⟩ := hrel
    have HA := Lib.hid hall
    clear hall
    by_cases hlt : k < m
    · have hd : decide ((k : Int) < (m : Int)) = true := by simp; omega
      have hdn : decide (k < m) = true := by simp; omega
      have i1 : (k : Int) < (m : Int) := by omega
      obtain ⟨b, off, rfl, hc⟩ := hs2.view (by omega)
      have hcell := hc k hlt
      have hlt2 : k < (all E).length := by rw [← HE.out]; exact hlt
      rw [ints_at hlt2] at hcell
      obtain ⟨x, hx⟩ : ∃ x, x = (all E)[k] := ⟨_, rfl⟩
      rw [← hx] at hcell
      have HX := Lib.hid hx
      clear hx hc hs2
      by_cases hxi : i ≤ (x : Int)
      · have hd2 : decide (i ≤ (x : Int)) = true := by simpa using hxi
        have hr : NextS E i (some x) := by rw [HX.out]; exact next_is hlt2 HA.out (by rw [← HX.out]; exact hxi)
        have HR := Lib.hid hr
        clear hxi hr
        go_wp2_with fail
        go_ret
        exact ⟨⟨some x, HR.out, rfl⟩, hB⟩
      · have hd2 : decide (i ≤ (x : Int)) = false := by simpa using hxi
        have hxi2 := Lib.hid hxi
        clear hxi
        go_wp2_with fail
        go_round
        case rel =>
          refine ⟨k + 1, by omega, by go_num, fun j hj hj2 => ?_⟩
          by_cases hjk : j = k
          · subst hjk; rw [← HX.out]; have := hxi2.out; omega
          · exact HA.out j (by omega) hj2
        case measure => simp [intOf]; omega
    · have hd : decide ((k : Int) < (m : Int)) = false := by simp; omega
      have hdn : decide (k < m) = false := by simp; omega
      have hr : NextS E i none := next_no (fun j hj => HA.out j (by have := HE.out; omega) hj)
      have HR := Lib.hid hr
      clear hr
      go_wp2_with fail
      go_ret
      exact ⟨⟨none, HR.out, rfl⟩, hB⟩

set_option maxRecDepth 100000 in
set_option maxHeartbeats 1000000 in
theorem rbefore_any (w : World) (N i : Int) (a : Option Addr) (n c : Nat) (l : List Int) (hs : Sl .u64 w a n c l) (hw : Wds l) (hN : N ≤ 9223372036854775807) :
    Calls Tryd.prog 46 #[.agg #[.int .i64 N, .slice a n c], .int .i64 i] w fun e w' => (∃ r, BefS (ef N l) i r ∧ e = .returned (.int .i64 (orNo r))) ∧ Below w.heap.size w w' := by
  have hB1 : Below w.heap.size w (w.alloc (.cells #[.int .i64 N, .slice a n c] 31)) := (Below.refl _ w).alloc (Nat.le_refl _) _
  have hs1 := hs.below hB1
  have hl64 := all_len (ef N l)
  have hl16 := ef_len (N := N) (l := l)
  have hla : (all (ef N l)).length ≤ 70000 := by omega
  have q := rmembers_any _ N a n c l hs1 hw hN
  obtain ⟨E, hE⟩ : ∃ E, E = ef N l := ⟨_, rfl⟩
  rw [← hE] at q hla ⊢
  clear hs hs1 hl64 hl16 hE
  go_enter Tryd.func46, Tryd.ntmps46
  go_wp2_with fail
  refine q.mono ?_
  rintro e w2 ⟨ga, gc, rfl, hown, hB2⟩
  clear q
  have hs2 := own_sl hown
  have hB := bstep hB1 hB2
  obtain ⟨m, hm⟩ : ∃ m, m = (all E).length := ⟨_, rfl⟩
  rw [← hm] at hs2 hla ⊢
  clear hown hB1 hB2
  have HE := Lib.hid hm
  clear hm
  go_wp2_with fail
  go_loop [6] (fun I => ∃ k : Nat, k ≤ m ∧ I = .int .i64 ((k : Int) - 1) ∧ ∀ j (_ : k ≤ j) (_ : j < (all E).length), i ≤ (((all E)[j] : Nat) : Int)) (fun I => (intOf I + 1).toNat)
  case atStart => exact ⟨m, by omega, by go_num, fun j hj hj2 => by have := HE.out; omega⟩
  case round =>
    obtain ⟨k1, hk, rfl, hall⟩ := hrel
    have HA := Lib.hid hall
    clear hall
    by_cases h0 : 0 < k1
    · obtain ⟨k, rfl⟩ : ∃ k, k1 = k + 1 := ⟨k1 - 1, by omega⟩
      have ek : ((k + 1 : Nat) : Int) - 1 = (k : Int) := by omega
      rw [ek]
      clear ek
      have hd : decide ((0 : Int) ≤ (k : Int)) = true := by simp
      have i1 : (k : Int) < (m : Int) := by omega
      have hlt : k < m := by omega
      obtain ⟨b, off, rfl, hc⟩ := hs2.view (by omega)
      have hcell := hc k hlt
      have hlt2 : k < (all E).length := by rw [← HE.out]; exact hlt
      rw [ints_at hlt2] at hcell
      obtain ⟨x, hx⟩ : ∃ x, x = (all E)[k] := ⟨_, rfl⟩
      rw [← hx] at hcell
      have HX := Lib.hid hx
      clear hx hc hs2
      by_cases hxi : (x : Int) < i
      · have hd2 : decide ((x : Int) < i) = true := by simpa using hxi
        have hr : BefS E i (some x) := by rw [HX.out]; exact bef_is hlt2 (fun j hj hj2 => HA.out j (by omega) hj2) (by rw [← HX.out]; exact hxi)
        have HR := Lib.hid hr
        clear hxi hr
        go_wp2_with fail
        go_ret
        exact ⟨⟨some x, HR.out, rfl⟩, hB⟩
      · have hd2 : decide ((x : Int) < i) = false := by simpa using hxi
        have hxi2 := Lib.hid hxi
        clear hxi
        go_wp2_with fail
        go_round
        case rel =>
          refine ⟨k, by omega, by go_num, fun j hj hj2 => ?_⟩
          by_cases hjk : j = k
          · subst hjk; rw [← HX.out]; have := hxi2.out; omega
          · exact HA.out j (by omega) hj2
        case measure => simp [intOf]
    · obtain rfl : k1 = 0 := by omega
      have ek : ((0 : Nat) : Int) - 1 = -1 := rfl
      rw [ek]
      clear ek
      have hr : BefS E i none := bef_no (fun j hj => HA.out j (by omega) hj)
      have HR := Lib.hid hr
      clear hr
      go_wp2_with fail
      go_ret
      exact ⟨⟨none, HR.out, rfl⟩, hB⟩
end Go.Proofs.YtcdjfgkjllonhaaDoor
