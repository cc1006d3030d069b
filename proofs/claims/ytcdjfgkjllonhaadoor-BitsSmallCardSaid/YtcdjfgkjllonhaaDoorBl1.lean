/-
  The walk of BitsRanks.
-/
import Derived.Test.YtcdjfgkjllonhaaDoorBaw
namespace Go.Proofs.YtcdjfgkjllonhaaDoor
open Go.RowKit Go.Shelf

/-- Where a right set lies in a variable. -/
structure MdS (w W : World) (sb N K : Nat) (g : Option Addr) (c : Nat) (R : List Int) : Prop where
  bel : Below w.heap.size w W
  set : SetIn W (N : Int) g K c R
  two : Two W sb 24 (.int .i64 (N : Int)) (.slice g K c)
theorem MdS.step {w W W' : World} {sb N K : Nat} {g : Option Addr} {c : Nat} {R : List Int} (h : MdS w W sb N K g c R) (hb : Below W.heap.size W W') : MdS w W' sb N K g c R :=
  ⟨bstep h.bel hb, h.set.below hb, h.two.step hb⟩
theorem rk_end {N : Nat} {l : List Int} (h : RightS (N : Int) l) {m : Nat} (hm : N ≤ m) : rk l m = (all l).length := by
  have h1 : rk l N = (all l).length := by unfold rk; rw [mem_right h]
  have h2 := rk_mono (l := l) hm
  have h3 := rk_le_all l m
  omega
theorem sel_end {l : List Int} {i : Int} (h : ((all l).length : Int) ≤ i) : selF l i = none := by
  unfold selF
  rw [if_pos (by omega)]
  exact List.getElem?_eq_none (by omega)
theorem sel_low {l : List Int} {i : Int} (h : i < 0) : selF l i = none := by unfold selF; rw [if_neg (by omega)]
theorem sel_at {l : List Int} {k : Nat} (h : k < (all l).length) : selF l (k : Int) = some (all l)[k] := by
  unfold selF; rw [if_pos (by omega), Int.toNat_natCast, List.getElem?_eq_getElem h]
theorem next_self {l : List Int} {m : Nat} (h : bt l m = true) : NextS l (m : Int) (some m) := ⟨by omega, h, fun k h1 h2 => by omega⟩
theorem all_small {l : List Int} (h : l.length ≤ 1024) : (all l).length ≤ 65536 := by
  have := rk_max h (64 * l.length); rw [rk_big (Nat.le_refl _)] at this; exact this

set_option maxRecDepth 100000 in
set_option maxHeartbeats 8000000 in
theorem ranks_walk (w : World) (hT : Tbz w) (x : Int) (a : Option Addr) (len cap : Nat) (l : List Int) (i : Int) (hx : (Lit.int .u16 x).wf = true) (hs : Sl .u64 w a len cap l) (hf : Fits .u64 l) (hi : (Lit.int .i64 i).wf = true) :
    Calls Tryd.prog 7 #[.int .u16 x, .slice a len cap, .int .i64 i] w fun e w' => e = .returned (.bool true) ∧ Below w.heap.size w w' := by
  obtain ⟨hx0, hx1⟩ := bounds_u16 hx
  obtain ⟨hi0, hi1⟩ := bounds_i64 hi
  have hw := Wds.of_fits hf
  obtain ⟨N, hN⟩ : ∃ N : Nat, (N : Int) = x % (64 * (min len 16 : Nat) + 1) := ⟨(x % (64 * (min len 16 : Nat) + 1)).toNat, by rw [Int.toNat_of_nonneg (Int.emod_nonneg _ (by omega))]⟩
  have hNb : N ≤ 1024 := by
    have := Int.emod_lt_of_pos x (show (0 : Int) < 64 * ((min len 16 : Nat) : Int) + 1 by omega)
    omega
  clear hx hf hi
  go_enter Tryd.func7, Tryd.ntmps7
  go_wp2_with fail
  refine (awake_any w hT).mono ?_
  rintro e w1 ⟨rfl, hB1⟩
  go_wp2_with fail
  refine (made_any w1 x a len cap l (hs.below hB1) hw hx0 (by omega) N hN).mono ?_
  unfold MadeS
  rintro e w2 ⟨g, c, R, rfl, hown, hWd, hR, hB2⟩
  obtain ⟨K, hK⟩ : ∃ K, K = (N + 63) / 64 := ⟨_, rfl⟩
  rw [← hK] at hown ⊢
  have hA : Below w2.heap.size w2 (w2.alloc (.cells #[.int .i64 (N : Int), .slice g K c] 24)) := (Below.refl _ w2).alloc (Nat.le_refl _) _
  have hBB := bstep hB1 hB2
  have hS0 : MdS w _ w2.heap.size N K g c R := ⟨bstep hBB hA, ⟨(own_sl hown).below hA, hWd, by omega, by omega, hT.step (bstep hBB hA)⟩, Two.new _ _ _ _⟩
  have hRb := rightB_yes hR
  have hef := ef_yes hRb
  have hEl : R.length ≤ 1024 := by have := hR.2.2.1; omega
  have hCm := all_small hEl
  have q := members_any _ (N : Int) g K c R hS0.set
  rw [hef] at q
  clear hs hw hN hT hown hB1 hB2 hA hBB hK
  go_wp2_with fail
  refine q.mono ?_
  unfold GivesI
  rintro e w3 ⟨ga, gc, rfl, hrow, hD⟩
  obtain ⟨sb, hsb⟩ : ∃ b, b = w2.heap.size := ⟨_, rfl⟩
  have hS1 := hS0.step hD
  rw [← hsb] at hS1 ⊢
  have hL1 := own_sl hrow
  obtain ⟨L, hL⟩ : ∃ L, L = all R := ⟨_, rfl⟩
  rw [← hL] at hL1 hCm ⊢
  obtain ⟨C, hC⟩ : ∃ C, C = L.length := ⟨_, rfl⟩
  rw [← hC] at hL1 hCm ⊢
  have HL := Lib.hid hL
  have HC := Lib.hid hC
  clear hS0 q hrow hD hsb hL hC
  have c0 := hS1.two.c0
  have c1 := hS1.two.c1
  have q := count_any w3 (N : Int) g K c R hS1.set
  rw [hef, ← HL.out, ← HC.out] at q
  have hne : ((C : Int) != (C : Int)) = false := by simp
  go_wp2_with fail
  refine q.mono ?_
  rintro e w4 ⟨rfl, hD⟩
  have hS2 := hS1.step hD
  have hL2 := hL1.below hD
  clear hS1 hL1 q hD c0 c1
  have c0 := hS2.two.c0
  have c1 := hS2.two.c1
  have q := rank_any w4 (N : Int) (N : Int) g K c R hS2.set (by omega) (by omega)
  rw [hef, rk_end hR (by omega), ← HL.out, ← HC.out] at q
  go_wp2_with fail
  refine q.mono ?_
  rintro e w5 ⟨rfl, hD⟩
  have hS3 := hS2.step hD
  have hL3 := hL2.below hD
  clear hS2 hL2 q hD c0 c1
  have c0 := hS3.two.c0
  have c1 := hS3.two.c1
  have q := rank_any w5 (N : Int) (min i 0) g K c R hS3.set (by omega) (by omega)
  rw [hef, show (min i 0).toNat = 0 by omega, rk_zero] at q
  go_wp2_with fail
  refine q.mono ?_
  rintro e w6 ⟨rfl, hD⟩
  have hS4 := hS3.step hD
  have hL4 := hL3.below hD
  clear hS3 hL3 q hD c0 c1
  have c0 := hS4.two.c0
  have c1 := hS4.two.c1
  have q := rank_any w6 (N : Int) (max i (N : Int)) g K c R hS4.set (by omega) (by omega)
  rw [hef, rk_end hR (by omega), ← HL.out, ← HC.out] at q
  go_wp2_with fail
  refine q.mono ?_
  rintro e w7 ⟨rfl, hD⟩
  have hS5 := hS4.step hD
  have hL5 := hL4.below hD
  clear hS4 hL4 q hD c0 c1
  have hcl := hL5.2.1
  have hcl2 := hL5.2.2.1
  go_wp2_with fail
  go_loopw [66] (fun I wr => ∃ k : Nat, k ≤ C ∧ I = .int .i64 (k : Int) ∧ MdS w wr sb N K g c R ∧ Sl .i64 wr ga C gc (ints L)) (fun I _ => C - (intOf I).toNat)
  case atStart => exact ⟨0, by omega, rfl, hS5, hL5⟩
  case round =>
    obtain ⟨k, hk, rfl, hS0, hL0⟩ := hrel
    clear hS5 hL5
    by_cases hlt : k < C
    · have hltL : k < L.length := by rw [← HC.out]; exact hlt
      have hltA : k < (all R).length := by rw [← HL.out]; exact hltL
      obtain ⟨lb, lo, rfl, hc⟩ := hL0.view (by omega)
      have hcell := hc k hlt
      rw [ints_at hltL] at hcell
      obtain ⟨m, hm⟩ : ∃ m, m = L[k] := ⟨_, rfl⟩
      rw [← hm] at hcell
      have hmA : m = (all R)[k] := by simp only [hm, HL.out]
      obtain ⟨hbit, hrank⟩ := all_at hltA
      rw [← hmA] at hbit hrank
      have hmN : m < 65536 := by
        have := all_lt (l := R) (m := m) (by rw [hmA]; exact List.getElem_mem hltA)
        omega
      have hr1 : rk R (m + 1) = k + 1 := by rw [rk_succ, hrank, hbit]; rfl
      have i1 : (k : Int) < (C : Int) := by omega
      have hne1 : ((m : Int) != (m : Int)) = false := by simp
      have hne2 : ((k : Int) != (k : Int)) = false := by simp
      have hb3 := before_S (l := R) m (i := (m : Int)) (by simp)
      rw [hrank] at hb3
      have HMA := Lib.hid hmA
      have HBIT := Lib.hid hbit
      have HRANK := Lib.hid hrank
      have HR1 := Lib.hid hr1
      clear hmA hbit hrank hr1
      by_cases hk0 : k = 0
      · have hbef : BefS R (m : Int) none := by rw [sel_low (by omega)] at hb3; exact hb3
        have hkp : decide ((0 : Int) < (k : Int)) = false := by simp; omega
        have hkn : decide (0 < k) = false := by simp; omega
        clear hm hc hb3 hk0
        have c0 := hS0.two.c0
        have c1 := hS0.two.c1
        have q := select_any wr (N : Int) (k : Int) g K c R hS0.set (by omega) (by omega)
        rw [hef, sel_at hltA, ← HMA.out] at q
        simp only [pairV] at q
        go_wp2_with fail
        refine q.mono ?_
        rintro e v1 ⟨rfl, hD⟩
        have hS0x := hS0.step hD
        have hL0x := hL0.below hD
        clear hS0 hL0 q hD c0 c1
        have c0 := hS0x.two.c0
        have c1 := hS0x.two.c1
        have q := next_any v1 (N : Int) (m : Int) g K c R hS0x.set (by omega) (by omega)
        rw [hef] at q
        go_wp2_with fail
        refine q.mono ?_
        rintro e v2 ⟨⟨r, hr, rfl⟩, hD⟩
        obtain rfl := hr.same (next_self HBIT.out)
        clear hr
        simp only [pairV]
        have hS0xx := hS0x.step hD
        have hL0xx := hL0x.below hD
        clear hS0x hL0x q hD c0 c1
        have c0 := hS0xx.two.c0
        have c1 := hS0xx.two.c1
        have q := before_any v2 (N : Int) (m : Int) g K c R hS0xx.set (by omega) (by omega)
        rw [hef] at q
        go_wp2_with fail
        refine q.mono ?_
        rintro e v3 ⟨⟨r, hr, rfl⟩, hD⟩
        obtain rfl := hr.same hbef
        clear hr
        simp only [pairV]
        have hS0xxx := hS0xx.step hD
        have hL0xxx := hL0xx.below hD
        clear hS0xx hL0xx q hD c0 c1
        have c0 := hS0xxx.two.c0
        have c1 := hS0xxx.two.c1
        have q := has_any v3 (N : Int) (m : Int) g K c R hS0xxx.set (by omega) (by omega)
        rw [hef, Int.toNat_natCast, HBIT.out, decide_eq_true (show (0 : Int) ≤ (m : Int) by omega), Bool.and_self] at q
        go_wp2_with fail
        refine q.mono ?_
        rintro e v4 ⟨rfl, hD⟩
        have hS0xxxx := hS0xxx.step hD
        have hL0xxxx := hL0xxx.below hD
        clear hS0xxx hL0xxx q hD c0 c1
        have c0 := hS0xxxx.two.c0
        have c1 := hS0xxxx.two.c1
        have q := rank_any v4 (N : Int) (m : Int) g K c R hS0xxxx.set (by omega) (by omega)
        rw [hef, Int.toNat_natCast, HRANK.out] at q
        go_wp2_with fail
        refine q.mono ?_
        rintro e v5 ⟨rfl, hD⟩
        have hS0xxxxx := hS0xxxx.step hD
        have hL0xxxxx := hL0xxxx.below hD
        clear hS0xxxx hL0xxxx q hD c0 c1
        have em : (m : Int) + 1 = ((m + 1 : Nat) : Int) := by push_cast; rfl
        have c0 := hS0xxxxx.two.c0
        have c1 := hS0xxxxx.two.c1
        have q := rank_any v5 (N : Int) ((m + 1 : Nat) : Int) g K c R hS0xxxxx.set (by omega) (by omega)
        rw [hef, Int.toNat_natCast, HR1.out, ← em] at q
        rw [show ((k + 1 : Nat) : Int) = (k : Int) + 1 by push_cast; rfl] at q
        have hb2 : ((k : Int) + 1 != (k : Int) + 1) = false := by simp
        clear em
        go_wp2_with fail
        refine q.mono ?_
        rintro e v6 ⟨rfl, hD⟩
        have hS9 := hS0xxxxx.step hD
        have hL9 := hL0xxxxx.below hD
        clear hS0xxxxx hL0xxxxx q hD c0 c1
        go_wp2_with fail
        go_roundw
        case rel => exact ⟨k + 1, by omega, by go_num, hS9, hL9⟩
        case measure => simp [intOf]; omega
      · obtain ⟨j, hj⟩ : ∃ j, k = j + 1 := ⟨k - 1, by omega⟩
        have hjL : j < L.length := by omega
        have hjA : j < (all R).length := by omega
        obtain ⟨p, hp⟩ : ∃ p, p = L[j] := ⟨_, rfl⟩
        have hpA : p = (all R)[j] := by simp only [hp, HL.out]
        have hpN : p < 65536 := by
          have := all_lt (l := R) (m := p) (by rw [hpA]; exact List.getElem_mem hjA)
          omega
        have hbef : BefS R (m : Int) (some p) := by
          rw [show ((k : Nat) : Int) - 1 = (j : Int) by omega, sel_at hjA, ← hpA] at hb3; exact hb3
        have hne3 : ((p : Int) != (p : Int)) = false := by simp
        have HJ := Lib.hid hj
        have HP := Lib.hid hp
        clear hm hc hb3 hpA hjA hj hp
        have c0 := hS0.two.c0
        have c1 := hS0.two.c1
        have q := select_any wr (N : Int) (k : Int) g K c R hS0.set (by omega) (by omega)
        rw [hef, sel_at hltA, ← HMA.out] at q
        simp only [pairV] at q
        go_wp2_with fail
        refine q.mono ?_
        rintro e v1 ⟨rfl, hD⟩
        have hS0x := hS0.step hD
        have hL0x := hL0.below hD
        clear hS0 hL0 q hD c0 c1
        have c0 := hS0x.two.c0
        have c1 := hS0x.two.c1
        have q := next_any v1 (N : Int) (m : Int) g K c R hS0x.set (by omega) (by omega)
        rw [hef] at q
        go_wp2_with fail
        refine q.mono ?_
        rintro e v2 ⟨⟨r, hr, rfl⟩, hD⟩
        obtain rfl := hr.same (next_self HBIT.out)
        clear hr
        simp only [pairV]
        have hS0xx := hS0x.step hD
        have hL0xx := hL0x.below hD
        clear hS0x hL0x q hD c0 c1
        have c0 := hS0xx.two.c0
        have c1 := hS0xx.two.c1
        have q := before_any v2 (N : Int) (m : Int) g K c R hS0xx.set (by omega) (by omega)
        rw [hef] at q
        go_wp2_with fail
        refine q.mono ?_
        rintro e v3 ⟨⟨r, hr, rfl⟩, hD⟩
        obtain rfl := hr.same hbef
        clear hr
        simp only [pairV]
        have hS0xxx := hS0xx.step hD
        have hL0xxx := hL0xx.below hD
        clear hS0xx hL0xx q hD c0 c1
        have c0 := hS0xxx.two.c0
        have c1 := hS0xxx.two.c1
        have q := has_any v3 (N : Int) (m : Int) g K c R hS0xxx.set (by omega) (by omega)
        rw [hef, Int.toNat_natCast, HBIT.out, decide_eq_true (show (0 : Int) ≤ (m : Int) by omega), Bool.and_self] at q
        go_wp2_with fail
        refine q.mono ?_
        rintro e v4 ⟨rfl, hD⟩
        have hS0xxxx := hS0xxx.step hD
        have hL0xxxx := hL0xxx.below hD
        clear hS0xxx hL0xxx q hD c0 c1
        have c0 := hS0xxxx.two.c0
        have c1 := hS0xxxx.two.c1
        have q := rank_any v4 (N : Int) (m : Int) g K c R hS0xxxx.set (by omega) (by omega)
        rw [hef, Int.toNat_natCast, HRANK.out] at q
        go_wp2_with fail
        refine q.mono ?_
        rintro e v5 ⟨rfl, hD⟩
        have hS0xxxxx := hS0xxxx.step hD
        have hL0xxxxx := hL0xxxx.below hD
        clear hS0xxxx hL0xxxx q hD c0 c1
        have em : (m : Int) + 1 = ((m + 1 : Nat) : Int) := by push_cast; rfl
        have c0 := hS0xxxxx.two.c0
        have c1 := hS0xxxxx.two.c1
        have q := rank_any v5 (N : Int) ((m + 1 : Nat) : Int) g K c R hS0xxxxx.set (by omega) (by omega)
        rw [hef, Int.toNat_natCast, HR1.out, ← em] at q
        rw [show ((k + 1 : Nat) : Int) = (k : Int) + 1 by push_cast; rfl] at q
        have hb2 : ((k : Int) + 1 != (k : Int) + 1) = false := by simp
        clear em
        go_wp2_with fail
        refine q.mono ?_
        rintro e v6 ⟨rfl, hD⟩
        have hS9 := hS0xxxxx.step hD
        have hL9 := hL0xxxxx.below hD
        clear hS0xxxxx hL0xxxxx q hD c0 c1
        obtain ⟨b9, o9, he9, hc9⟩ := hL9.view (by omega)
        cases he9
        have hjC : j < C := by have := HJ.out; omega
        have hcell9 := hc9 j hjC
        rw [ints_at hjL, ← HP.out] at hcell9
        clear hc9
        have ej : (k : Int) - 1 = (j : Int) := by have := HJ.out; omega
        have hkp : decide ((0 : Int) < (k : Int)) = true := by have := HJ.out; simp; omega
        have hkn : decide (0 < k) = true := by have := HJ.out; simp; omega
        have i2 : (j : Int) < (C : Int) := by omega
        clear hk0
        go_wp2_with fail
        go_roundw
        case rel => exact ⟨k + 1, by omega, by go_num, hS9, hL9⟩
        case measure => simp [intOf]; omega
    · obtain rfl : k = C := by omega
      have c0 := hS0.two.c0
      have c1 := hS0.two.c1
      have q := select_any wr (N : Int) (max i (k : Int)) g K c R hS0.set (by omega) (by omega)
      rw [hef, sel_end (by rw [← HL.out, ← HC.out]; omega)] at q
      simp only [pairV] at q
      go_wp2_with fail
      refine q.mono ?_
      rintro e v1 ⟨rfl, hD⟩
      have hS1 := hS0.step hD
      have hL1 := hL0.below hD
      clear hS0 hL0 q hD c0 c1
      have c0 := hS1.two.c0
      have c1 := hS1.two.c1
      have q := select_any v1 (N : Int) (min i (-1)) g K c R hS1.set (by omega) (by omega)
      rw [hef, sel_low (by omega)] at q
      simp only [pairV] at q
      go_wp2_with fail
      refine q.mono ?_
      rintro e v2 ⟨rfl, hD⟩
      have hS2 := hS1.step hD
      have hL2 := hL1.below hD
      clear hS1 hL1 q hD c0 c1
      have c0 := hS2.two.c0
      have c1 := hS2.two.c1
      have q := fun W => pick_any i (N + 1) W (by omega) (by omega)
      obtain ⟨t, ht⟩ : ∃ t : Nat, (t : Int) = i % ((N + 1 : Nat) : Int) := ⟨(i % ((N + 1 : Nat) : Int)).toNat, by rw [Int.toNat_of_nonneg (Int.emod_nonneg _ (by omega))]⟩
      have htN : t ≤ N := by
        have := Int.emod_lt_of_pos i (show (0 : Int) < ((N + 1 : Nat) : Int) by omega)
        omega
      simp only [← ht] at q
      rw [show ((N + 1 : Nat) : Int) = (N : Int) + 1 by push_cast; rfl] at q
      clear ht
      go_wp2_with fail
      refine (q _).mono ?_
      rintro e v3 ⟨rfl, hE⟩
      rw [hE]
      clear hE q
      have q := next_any v2 (N : Int) (t : Int) g K c R hS2.set (by omega) (by omega)
      rw [hef] at q
      have hnx := next_S (l := R) t (i := (t : Int)) (by simp)
      obtain ⟨r, hr⟩ : ∃ r, r = rk R t := ⟨_, rfl⟩
      rw [← hr] at hnx
      have hrC := rk_le_all R t
      rw [← hr, ← HL.out, ← HC.out] at hrC
      have hr2 := hr
      have HR := Lib.hid hr2
      clear hr hr2
      go_wp2_with fail
      refine q.mono ?_
      rintro e v4 ⟨⟨z, hz, rfl⟩, hD⟩
      obtain rfl := hz.same hnx
      clear hz
      have hS3 := hS2.step hD
      have hL3 := hL2.below hD
      clear hS2 hL2 q hD c0 c1
      have c0 := hS3.two.c0
      have c1 := hS3.two.c1
      have q := rank_any v4 (N : Int) (t : Int) g K c R hS3.set (by omega) (by omega)
      rw [hef, Int.toNat_natCast, ← HR.out] at q
      have q2 := fun W (h : MdS w W sb N K g c R) => has_any W (N : Int) (t : Int) g K c R h.set (by omega) (by omega)
      rw [hef, Int.toNat_natCast, decide_eq_true (show (0 : Int) ≤ (t : Int) by omega), Bool.true_and] at q2
      by_cases hrk : r < k
      · have hrL : r < L.length := by rw [← HC.out]; exact hrk
        have hrA : r < (all R).length := by rw [← HL.out]; exact hrL
        obtain ⟨m, hm⟩ : ∃ m, m = L[r] := ⟨_, rfl⟩
        have hmA : m = (all R)[r] := by simp only [hm, HL.out]
        rw [sel_at hrA, ← hmA] at hnx ⊢
        have hbb : bt R t = ((m : Int) == (t : Int)) := by
          by_cases hmt : m = t
          · rw [← hmt, hnx.2.1]; simp
          · have h1 : ((m : Int) == (t : Int)) = false := by simp; omega
            rw [h1]
            cases hb : bt R t with
            | false => rfl
            | true =>
              have := hnx.same (next_self hb)
              simp only [Option.some.injEq] at this
              exact absurd this hmt
        rw [hbb] at q2
        have hd1 : decide ((r : Int) < (k : Int)) = true := by simp; omega
        have hdn : decide (r < k) = true := by simp; omega
        have i1 : (r : Int) < (k : Int) := by omega
        have hne4 : ((m : Int) == (m : Int)) = true := by simp
        obtain ⟨lb, lo, rfl, hc⟩ := hL3.view (by omega)
        have HM := Lib.hid hm
        clear hmA hbb hnx hrA hm hc
        simp only [pairV]
        go_wp2_with fail
        refine q.mono ?_
        rintro e v5 ⟨rfl, hD⟩
        have hS4 := hS3.step hD
        have hL4 := hL3.below hD
        clear hS3 hL3 q hD c0 c1
        have c0 := hS4.two.c0
        have c1 := hS4.two.c1
        obtain ⟨b4, o4, he4, hc4⟩ := hL4.view (by omega)
        cases he4
        have hcell := hc4 r hrk
        rw [ints_at hrL, ← HM.out] at hcell
        clear hc4
        have q3 := q2 v5 hS4
        obtain ⟨B, hBe⟩ : ∃ B, B = ((m : Int) == (t : Int)) := ⟨_, rfl⟩
        rw [← hBe] at q3
        have HBE := Lib.hid hBe
        clear q2 hBe
        go_wp2_with fail
        refine q3.mono ?_
        rintro e v6 ⟨rfl, hD⟩
        have hS5 := hS4.step hD
        clear hS4 hL4 q3 hD c0 c1
        go_wp2_with fail
        go_ret
        exact ⟨ret_bool (by rw [HBE.out]; simp), hS5.bel⟩
      · have hrk2 : r = k := by omega
        have hnx2 : NextS R (t : Int) none := by rw [sel_end (by rw [← HL.out, ← HC.out]; omega)] at hnx; exact hnx
        have hbb : bt R t = false := hnx2 t (by omega)
        rw [sel_end (by rw [← HL.out, ← HC.out]; omega)]
        rw [hbb] at q2
        have hd1 : decide ((r : Int) < (k : Int)) = false := by simp; omega
        have hdn : decide (r < k) = false := by simp; omega
        clear hrk hrk2 hbb hnx hnx2
        simp only [pairV]
        go_wp2_with fail
        refine q.mono ?_
        rintro e v5 ⟨rfl, hD⟩
        have hS4 := hS3.step hD
        clear hS3 hL3 q hD c0 c1
        have c0 := hS4.two.c0
        have c1 := hS4.two.c1
        have q3 := q2 v5 hS4
        clear q2
        go_wp2_with fail
        refine q3.mono ?_
        rintro e v6 ⟨rfl, hD⟩
        have hS5 := hS4.step hD
        clear hS4 q3 hD c0 c1
        go_wp2_with fail
        go_ret
        exact ⟨rfl, hS5.bel⟩
end Go.Proofs.YtcdjfgkjllonhaaDoor
