/-
  The contracts of bits' Count, Select, Next, Before and Has.
-/
import Derived.Test.YtcdjfgkjllonhaaDoorBzc
import Derived.Deep.RegionHeld3
namespace Go.Proofs.YtcdjfgkjllonhaaDoor
open Go.RowKit Go.Shelf

set_option maxRecDepth 100000 in
set_option maxHeartbeats 1000000 in
theorem count_any (w : World) (N : Int) (a : Option Addr) (n c : Nat) (l : List Int) (h : SetIn w N a n c l) :
    Calls Tryd.prog 21 #[.agg #[.int .i64 N, .slice a n c]] w fun e w' => e = .returned (.int .i64 ((all (ef N l)).length : Nat)) ∧ Below w.heap.size w w' := by
  have hB : Below w.heap.size w (w.alloc (.cells #[.int .i64 N, .slice a n c] 24)) := (Below.refl _ w).alloc (Nat.le_refl _) _
  have hR := rank_any _ N 65536 a n c l (h.below hB) (by omega) (by omega)
  have hE := efw_len N l
  rw [show (65536 : Int).toNat = 65536 from rfl, rk_big (by omega)] at hR
  go_enter Tryd.func21, Tryd.ntmps21
  go_wp2_with fail
  refine hR.mono ?_
  rintro e w2 ⟨rfl, hB2⟩
  go_wp2_with fail
  go_ret
  exact ⟨rfl, hB.trans (hB2.mono (by simp))⟩

set_option maxRecDepth 100000 in
set_option maxHeartbeats 2000000 in
theorem select_any (w : World) (N i : Int) (a : Option Addr) (n c : Nat) (l : List Int) (h : SetIn w N a n c l) (hi0 : -9223372036854775808 ≤ i) (hi1 : i ≤ 9223372036854775807) :
    Calls Tryd.prog 20 #[.agg #[.int .i64 N, .slice a n c], .int .i64 i] w fun e w' => e = .returned (pairV (selF (ef N l) i)) ∧ Below w.heap.size w w' := by
  have hB : Below w.heap.size w (w.alloc (.cells #[.int .i64 N, .slice a n c] 24)) := (Below.refl _ w).alloc (Nat.le_refl _) _
  have hW := words_any _ N a n c l (h.below hB)
  have hEl := efw_len N l
  have hEw := h.wds.ef N
  have hTb := h.tab
  obtain ⟨E, hE⟩ : ∃ E, E = ef N l := ⟨_, rfl⟩
  rw [← hE] at hW hEl hEw ⊢
  clear hE h
  by_cases hneg : i < 0
  · have hs : selF E i = none := by unfold selF; rw [if_neg (by omega)]
    rw [hs]
    have hd : decide (i < 0) = true := by simpa using hneg
    clear hs hneg hW
    go_enter Tryd.func20, Tryd.ntmps20
    go_wp2_with fail
    go_ret2
    exact ⟨rfl, hB⟩
  · obtain ⟨K, rfl⟩ : ∃ K : Nat, i = (K : Int) := ⟨i.toNat, by omega⟩
    have hs : selF E (K : Int) = (all E)[K]? := by unfold selF; rw [if_pos (by omega), Int.toNat_natCast]
    rw [hs]
    obtain ⟨S, hS⟩ : ∃ S, S = (all E)[K]? := ⟨_, rfl⟩
    rw [← hS]
    have HS := Lib.hid hS
    have hd : decide ((K : Int) < 0) = false := by simp
    clear hs hneg hS
    go_enter Tryd.func20, Tryd.ntmps20
    go_wp2_with fail
    refine hW.mono ?_
    rintro e w1 ⟨a', n', c', rfl, hs, hB1, _⟩
    have hB2 := hB.trans (hB1.mono (by simp))
    have hT2 := hTb.step hB2
    have HLN := Lib.hid hs.1
    have hc1 := hs.2.1
    have hc2 := hs.2.2.1
    have hnb : n' ≤ 1024 := by have := hs.1; omega
    clear hW hB hB1 hTb
    go_wp2_with fail
    go_loopw [1, 14] (fun X J wr => ∃ j k : Nat, j ≤ n' ∧ J = .int .i64 (j : Int) ∧ X = .int .i64 (k : Int) ∧ K = rk E (64 * j) + k ∧ wr = w1) (fun X J _ => n' - (intOf J).toNat)
    case atStart => exact ⟨0, K, by omega, rfl, rfl, by rw [show 64 * 0 = 0 from rfl, rk_zero]; omega, rfl⟩
    case round =>
      obtain ⟨j, k, hj, rfl, rfl, hK, rfl⟩ := hrel
      have hkb : (k : Int) ≤ 9223372036854775807 := by omega
      by_cases hlt : j < n'
      · have hst := rk_next E j
        obtain ⟨b, off, rfl, hc⟩ := hs.view (by omega)
        have hcell := hc j hlt
        rw [wd_eq hEw j] at hcell
        have hx := wd_lt hEw j
        obtain ⟨v, hv⟩ : ∃ v, v = wd E j := ⟨_, rfl⟩
        rw [← hv] at hcell hx hst
        have qo := fun W : World => ones_any v W hx
        have hpk := pop_le v 64
        obtain ⟨p, hp⟩ : ∃ p, p = pop v 64 := ⟨_, rfl⟩
        rw [← hp] at qo hst hpk
        have i1 : (j : Int) < (n' : Int) := by omega
        have HK := Lib.hid hK
        have HST := Lib.hid hst
        have HV := Lib.hid hv
        have HP := Lib.hid hp
        clear hst hK hv hp hc
        by_cases hkp : p ≤ k
        · have hd2 : decide ((p : Int) ≤ (k : Int)) = true := by simp; omega
          go_wp2_with fail
          refine (qo _).mono ?_
          rintro e w2 ⟨rfl, rfl⟩
          go_wp2_with fail
          go_roundw
          case rel => exact ⟨j + 1, k - p, by omega, by go_num, by go_num, by have := HK.out; have := HST.out; omega, by trivial⟩
          case measure => simp [intOf]; omega
        · have hd2 : decide ((p : Int) ≤ (k : Int)) = false := by simp; omega
          have hkp2 : k < p := by omega
          go_wp2_with fail
          refine (qo _).mono ?_
          rintro e w2 ⟨rfl, rfl⟩
          go_wp2_with fail
          go_loopw [7, 28] (fun Z D wr => ∃ d z : Nat, d ≤ k ∧ D = .int .i64 (d : Int) ∧ Z = .int .u64 (z : Int) ∧ Drop v d z ∧ wr = w2) (fun Z D _ => k - (intOf D).toNat)
          case atStart => exact ⟨0, v, by omega, rfl, rfl, Drop.zero hx, rfl⟩
          case round =>
            obtain ⟨d, z, hd, rfl, rfl, hD, rfl⟩ := hrel
            have hz64 := hD.1
            by_cases hdk : d < k
            · have qw := fun W : World => withoutLowest_any z W hz64
              have hDn := hD.next (by rw [← HP.out]; omega)
              have hdd : decide ((d : Int) < (k : Int)) = true := by simp; omega
              obtain ⟨y, hy⟩ : ∃ y, y = dl z := ⟨_, rfl⟩
              rw [← hy] at qw hDn
              clear hy
              go_wp2_with fail
              refine (qw _).mono ?_
              rintro e w3 ⟨rfl, rfl⟩
              go_wp2_with fail
              go_roundw
              case rel => exact ⟨d + 1, y, by omega, by go_num, rfl, hDn, by trivial⟩
              case measure => simp [intOf]; omega
            · obtain rfl : d = k := by omega
              have hdd : decide ((d : Int) < (d : Int)) = false := by simp
              have hz0 := hD.pos (by rw [← HP.out]; omega)
              obtain ⟨t, ht, ht64, hb, hlow, _, _⟩ := low_word hz0 hz64
              have hsel := select_at (by rw [← HV.out]; exact hD) ht64 hb hlow HK.out
              have qc := fun W hT => ctz_any z W hT hz0 hz64
              rw [ht] at qc
              have HSEL := Lib.hid hsel
              have hjb : j ≤ 1024 := by omega
              clear hsel ht hb hlow hz0
              go_wp2_with fail
              refine (qc _ hT2).mono ?_
              rintro e w3 ⟨rfl, rfl⟩
              go_wp2_with fail
              go_ret2
              refine ⟨?_, hB2⟩
              rw [HS.out, HSEL.out]
              unfold pairV
              go_num
      · obtain rfl : j = n' := by omega
        have hend : S = none := by
          rw [HS.out]
          refine List.getElem?_eq_none ?_
          have := HLN.out
          have h2 := rk_big (l := E) (i := 64 * j) (by omega)
          omega
        have HEND := Lib.hid hend
        clear hK hend
        go_wp2_with fail
        go_ret2
        exact ⟨by rw [HEND.out]; rfl, hB2⟩

/-- Where a set lies boxed, and what lay before. -/
def KSt (w0 : World) (b : Nat) (v0 v1 : Value) (w' : World) : Prop := Below w0.heap.size w0 w' ∧ w'.cell? ⟨b, 0, none⟩ = some v0 ∧ w'.cell? ⟨b, 1, none⟩ = some v1
theorem KSt.drew {w0 : World} {b : Nat} {v0 v1 : Value} {w' : World} (h : KSt w0 b v0 v1 w') : KSt w0 b v0 v1 w'.drew := ⟨h.1.drew, h.2⟩
theorem KSt.step {w0 : World} {b : Nat} {v0 v1 : Value} {w' w2 : World} (h : KSt w0 b v0 v1 w') (hb : Below w'.heap.size w' w2) : KSt w0 b v0 v1 w2 :=
  ⟨bstep h.1 hb, (hb.cell (p := ⟨b, 0, none⟩) (World.block_lt_of_cell? _ _ h.2.1)).trans h.2.1, (hb.cell (p := ⟨b, 1, none⟩) (World.block_lt_of_cell? _ _ h.2.2)).trans h.2.2⟩

theorem next_S {l : List Int} (I : Nat) {i : Int} (hI : I = i.toNat) : NextS l i (selF l ((rk l I : Nat) : Int)) := by
  unfold selF
  rw [if_pos (by omega), Int.toNat_natCast]
  cases h : (all l)[rk l I]? with
  | none =>
    intro k hk
    have h1 : (all l).length ≤ rk l I := List.getElem?_eq_none_iff.1 h
    cases hb : bt l k with
    | false => rfl
    | true =>
      have := (rk_at hb).1
      have := rk_mono (l := l) (i := I) (j := k) (by omega)
      omega
  | some m =>
    obtain ⟨h1, h2⟩ := List.getElem?_eq_some_iff.1 h
    obtain ⟨hb, hr⟩ := all_at h1
    rw [h2] at hb hr
    refine ⟨?_, hb, fun k hk hkm => ?_⟩
    · rcases Nat.lt_or_ge m I with h3 | h3
      · have := rk_mono (l := l) (i := m + 1) (j := I) h3
        rw [rk_succ, hb, if_pos rfl] at this
        omega
      · omega
    · cases hk2 : bt l k with
      | false => rfl
      | true =>
        have h3 := rk_mono (l := l) (i := k + 1) (j := m) hkm
        rw [rk_succ, hk2, if_pos rfl] at h3
        have h4 := rk_mono (l := l) (i := I) (j := k) (by omega)
        omega
theorem before_S {l : List Int} (I : Nat) {i : Int} (hI : I = i.toNat) : BefS l i (selF l ((rk l I : Nat) - 1 : Int)) := by
  unfold selF
  by_cases h0 : rk l I = 0
  · rw [if_neg (by omega)]
    intro k hk
    cases hb : bt l k with
    | false => rfl
    | true =>
      have h3 := rk_mono (l := l) (i := k + 1) (j := I) (by omega)
      rw [rk_succ, hb, if_pos rfl] at h3
      omega
  · rw [if_pos (by omega), show ((rk l I : Nat) - 1 : Int).toNat = rk l I - 1 by omega]
    have hle := rk_le_all l I
    have hlt : rk l I - 1 < (all l).length := by omega
    rw [List.getElem?_eq_getElem hlt]
    obtain ⟨hb, hr⟩ := all_at hlt
    obtain ⟨m, hm⟩ : ∃ m, m = (all l)[rk l I - 1] := ⟨_, rfl⟩
    rw [← hm] at hb hr ⊢
    refine ⟨?_, hb, fun k hk hki => ?_⟩
    · rcases Nat.lt_or_ge m I with h3 | h3
      · omega
      · have := rk_mono (l := l) (i := I) (j := m) h3
        omega
    · cases hk2 : bt l k with
      | false => rfl
      | true =>
        have h3 := rk_mono (l := l) (i := k + 1) (j := I) (by omega)
        rw [rk_succ, hk2, if_pos rfl] at h3
        have h4 := rk_mono (l := l) (i := m + 1) (j := k) hk
        rw [rk_succ, hb, if_pos rfl] at h4
        omega

set_option maxRecDepth 100000 in
set_option maxHeartbeats 4000000 in
theorem next_any (w : World) (N i : Int) (a : Option Addr) (n c : Nat) (l : List Int) (h : SetIn w N a n c l) (hi0 : -9223372036854775808 ≤ i) (hi1 : i ≤ 9223372036854775807) :
    Calls Tryd.prog 26 #[.agg #[.int .i64 N, .slice a n c], .int .i64 i] w fun e w' => (∃ r, NextS (ef N l) i r ∧ e = .returned (pairV r)) ∧ Below w.heap.size w w' := by
  have hB : Below w.heap.size w (w.alloc (.cells #[.int .i64 N, .slice a n c] 24)) := (Below.refl _ w).alloc (Nat.le_refl _) _
  have hT : Two (w.alloc (.cells #[.int .i64 N, .slice a n c] 24)) w.heap.size 24 (.int .i64 N) (.slice a n c) := Two.new w _ _ _
  have hE := efw_len N l
  have hn := next_S (l := ef N l) i.toNat (i := i) rfl
  have hrm := rk_max hE i.toNat
  have qr := fun W (hb : Below w.heap.size w W) => rank_any W N i a n c l (h.below hb) hi0 hi1
  obtain ⟨R, hR⟩ : ∃ R, R = rk (ef N l) i.toNat := ⟨_, rfl⟩
  rw [← hR] at hn hrm
  simp only [← hR] at qr
  have qs := fun W (hb : Below w.heap.size w W) => select_any W N (R : Int) a n c l (h.below hb) (by omega) (by omega)
  obtain ⟨r, hr⟩ : ∃ r, r = selF (ef N l) (R : Int) := ⟨_, rfl⟩
  rw [← hr] at hn
  simp only [← hr] at qs
  have HN := Lib.hid hn
  clear hr hR hn hE
  go_enter Tryd.func26, Tryd.ntmps26
  go_wp2_with fail
  obtain ⟨w1, hw1⟩ : ∃ wz, wz = w.alloc (.cells #[.int .i64 N, .slice a n c] 24) := ⟨_, rfl⟩
  have hS0 : KSt w w.heap.size (.int .i64 N) (.slice a n c) w1 := by rw [hw1]; exact ⟨hB, hT.c0, hT.c1⟩
  rw [← hw1]
  clear hw1 hB hT h
  have c0 := hS0.2.1
  have c1 := hS0.2.2
  cases r with
  | none =>
    simp only [pairV] at qs
    go_region_held3 (fun w' => Below w.heap.size w w' ∧ w'.cell? ⟨w.heap.size, 0, none⟩ = some (.int .i64 N) ∧ w'.cell? ⟨w.heap.size, 1, none⟩ = some (.slice a n c)) (solve | (repeat (first | assumption | refine KSt.drew ?_ | refine KSt.step ?_ (by assumption)))) (first
      | (go_at_call 25; refine (qr _ hS0.drew.1).mono ?_; rintro e w2 ⟨rfl, hD⟩; have hS1 := hS0.drew.step hD)
      | (go_at_call 20; refine (qs _ hS1.1).mono ?_; rintro e w3 ⟨rfl, hD2⟩; have hS2 := hS1.step hD2))
    go_wp2_with fail
    go_ret2
    exact ⟨⟨_, HN.out, rfl⟩, hS2.1⟩
  | some m =>
    simp only [pairV] at qs
    go_region_held3 (fun w' => Below w.heap.size w w' ∧ w'.cell? ⟨w.heap.size, 0, none⟩ = some (.int .i64 N) ∧ w'.cell? ⟨w.heap.size, 1, none⟩ = some (.slice a n c)) (solve | (repeat (first | assumption | refine KSt.drew ?_ | refine KSt.step ?_ (by assumption)))) (first
      | (go_at_call 25; refine (qr _ hS0.drew.1).mono ?_; rintro e w2 ⟨rfl, hD⟩; have hS1 := hS0.drew.step hD)
      | (go_at_call 20; refine (qs _ hS1.1).mono ?_; rintro e w3 ⟨rfl, hD2⟩; have hS2 := hS1.step hD2))
    go_wp2_with fail
    go_ret2
    exact ⟨⟨_, HN.out, rfl⟩, hS2.1⟩
end Go.Proofs.YtcdjfgkjllonhaaDoor
