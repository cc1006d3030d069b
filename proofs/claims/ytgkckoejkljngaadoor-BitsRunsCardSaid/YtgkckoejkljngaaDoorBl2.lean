/-
  The walk of BitsRuns.
-/
import Derived.Test.YtgkckoejkljngaaDoorBl1
import Derived.Test.YtgkckoejkljngaaDoorBrr
namespace Go.Proofs.YtgkckoejkljngaaDoor
open Go.RowKit Go.Shelf

/-- A slice of pairs. -/
def Prs (W : World) (a : Option Addr) (n c : Nat) (R : List (Nat × Nat)) : Prop := R.length = n ∧ n ≤ c ∧ c ≤ 9223372036854775807 ∧ (n = 0 ∨ ∃ b off, a = some ⟨b, off, none⟩ ∧ ∀ i p, R[i]? = some p → W.cell? ⟨b, off + i * 2, none⟩ = some (.int .i64 (p.1 : Int)) ∧ W.cell? ⟨b, off + i * 2 + 1, none⟩ = some (.int .i64 (p.2 : Int)))
theorem Prs.below {W W' : World} {a : Option Addr} {n c : Nat} {R : List (Nat × Nat)} (h : Prs W a n c R) (hb : Below W.heap.size W W') : Prs W' a n c R := by
  refine ⟨h.1, h.2.1, h.2.2.1, ?_⟩
  rcases h.2.2.2 with h0 | ⟨b, off, ha, hc⟩
  · exact .inl h0
  · exact .inr ⟨b, off, ha, fun i p hp => ⟨cell_keep (hc i p hp).1 hb, cell_keep (hc i p hp).2 hb⟩⟩
theorem Prs.of_own {W : World} {base : Nat} {a : Option Addr} {n c : Nat} {R : List (Nat × Nat)} (h : W.ownsRow base 50 2 (.slice a n c) n (pcs R)) : Prs W a n c R := by
  have hl : R.length = n := by have h1 := h.1; rw [pcs_len] at h1; omega
  rcases h.2 with ⟨hv, h0⟩ | ⟨g, cap, cur, hv, hb, hh, hn, hm, hc, ht⟩
  · cases hv
    exact ⟨hl, by omega, by omega, .inl h0⟩
  · have hm2 := hm
    unfold maxLen at hm2
    have h9 := h
    cases hv
    refine ⟨hl, hn, hm2, ?_⟩
    by_cases h0 : n = 0
    · exact .inl h0
    · refine .inr ⟨g, 0, rfl, fun i p hp => ?_⟩
      have hi : i < n := by rw [← hl]; exact (List.getElem?_eq_some_iff.1 hp).1
      obtain ⟨g2, hg2, hr⟩ := own_pair h9 hi
      cases hg2
      rw [hp] at hr
      have r0 := hr 0 _ rfl
      have r1 := hr 1 _ rfl
      exact ⟨by simpa using r0, by simpa using r1⟩
theorem Prs.head {W : World} {a : Option Addr} {n c : Nat} {p : Nat × Nat} {t : List (Nat × Nat)} (h : Prs W a n c (p :: t)) : ∃ b off, a = some ⟨b, off, none⟩ ∧ n = t.length + 1 ∧ W.cell? ⟨b, off, none⟩ = some (.int .i64 (p.1 : Int)) ∧ W.cell? ⟨b, off + 1, none⟩ = some (.int .i64 (p.2 : Int)) := by
  have hl := h.1
  simp only [List.length_cons] at hl
  rcases h.2.2.2 with h0 | ⟨b, off, ha, hc⟩
  · omega
  · have := hc 0 p rfl
    exact ⟨b, off, ha, hl.symm, by simpa using this.1, by simpa using this.2⟩
theorem Prs.tail {W : World} {b off : Nat} {n c : Nat} {p : Nat × Nat} {t : List (Nat × Nat)} (h : Prs W (some ⟨b, off, none⟩) n c (p :: t)) (hc : 1 < c) : Prs W (some ⟨b, off + 2, none⟩) (n - 1) (c - 1) t := by
  have hl := h.1
  simp only [List.length_cons] at hl
  refine ⟨by omega, by have := h.2.1; omega, by have := h.2.2.1; omega, ?_⟩
  rcases h.2.2.2 with h0 | ⟨b2, off2, ha, hcl⟩
  · omega
  · cases ha
    refine .inr ⟨b, off + 2, rfl, fun i q hq => ?_⟩
    have := hcl (i + 1) q (by simpa using hq)
    rw [show off + (i + 1) * 2 = off + 2 + i * 2 by omega] at this
    exact this
theorem Prs.tail0 {W : World} {a a' : Option Addr} {n c : Nat} {p : Nat × Nat} {t : List (Nat × Nat)} (h : Prs W a n c (p :: t)) (hc : c = 1) : Prs W a' (n - 1) (c - 1) t := by
  have hl := h.1
  simp only [List.length_cons] at hl
  have := h.2.1
  exact ⟨by omega, by omega, by omega, .inl (by omega)⟩

theorem MdS.drew {w W : World} {sb N K : Nat} {g : Option Addr} {c : Nat} {R : List Int} (h : MdS w W sb N K g c R) : MdS w W.drew sb N K g c R := h.step (Below.refl _ _).drew

set_option maxRecDepth 100000 in
set_option maxHeartbeats 8000000 in
theorem runs_walk (w : World) (hT : Tbz w) (x : Int) (a : Option Addr) (len cap : Nat) (l : List Int) (hx : (Lit.int .u16 x).wf = true) (hs : Sl .u64 w a len cap l) (hf : Fits .u64 l) :
    Calls Tryd.prog 8 #[.int .u16 x, .slice a len cap] w fun e w' => e = .returned (.bool true) ∧ Below w.heap.size w w' := by
  obtain ⟨hx0, hx1⟩ := bounds_u16 hx
  have hw := Wds.of_fits hf
  obtain ⟨N, hN⟩ : ∃ N : Nat, (N : Int) = x % (64 * (min len 16 : Nat) + 1) := ⟨(x % (64 * (min len 16 : Nat) + 1)).toNat, by rw [Int.toNat_of_nonneg (Int.emod_nonneg _ (by omega))]⟩
  have hNb : N ≤ 1024 := by
    have := Int.emod_lt_of_pos x (show (0 : Int) < 64 * ((min len 16 : Nat) : Int) + 1 by omega)
    omega
  clear hx hf
  go_enter Tryd.func8, Tryd.ntmps8
  go_wp2_with fail
  refine (awake_any w hT).mono ?_
  rintro e w1 ⟨rfl, hB1⟩
  go_wp2_with fail
  refine (made_any w1 x a len cap l (hs.below hB1) hw hx0 (by omega) N hN).mono ?_
  unfold MadeS
  rintro e w2 ⟨g, c, R, rfl, hown, hWd, hR, hB2⟩
  obtain ⟨K, hK⟩ : ∃ K, K = (N + 63) / 64 := ⟨_, rfl⟩
  rw [← hK] at hown ⊢
  have hA : Below w2.heap.size w2 (w2.alloc (.cells #[.int .i64 (N : Int), .slice g K c] 24)) := (Below.refl _ w2).alloc (Nat.le_refl _) _
  have hBB := bstep hB1 hB2
  have hS0 : MdS w _ w2.heap.size N K g c R := ⟨bstep hBB hA, ⟨(own_sl hown).below hA, hWd, by omega, by omega, hT.step (bstep hBB hA)⟩, Two.new _ _ _ _⟩
  have hRb := rightB_yes hR
  have hef := ef_yes hRb
  have q := notOk_any _ N g K c R hS0.set hRb
  unfold SetE at q
  rw [← hK] at q
  have HK := Lib.hid hK
  clear hs hw hN hT hown hB1 hB2 hA hBB hK
  go_wp2_with fail
  refine q.mono ?_
  rintro e w3 ⟨g2, c2, M, rfl, hown2, hWd2, hbt2, hD⟩
  obtain ⟨sb, hsb⟩ : ∃ b, b = w2.heap.size := ⟨_, rfl⟩
  have hS1 := hS0.step hD
  rw [← hsb] at hS1 ⊢
  have hA2 : Below w3.heap.size w3 (w3.alloc (.cells #[.int .i64 (N : Int), .slice g2 K c2] 24)) := (Below.refl _ w3).alloc (Nat.le_refl _) _
  have hS2 := hS1.step hA2
  have hM2 : MdS w _ w3.heap.size N K g2 c2 M := ⟨hS2.bel, ⟨(own_sl hown2).below hA2, hWd2, by omega, by omega, hS2.set.tab⟩, Two.new _ _ _ _⟩
  have hMl : M.length = K := by have := hown2.1; simpa using this
  have hMR : RightS (N : Int) M := RightS.of (by omega) (by rw [hMl, HK.out]) (fun i hi => by rw [hbt2 i, decide_eq_false (by omega), Bool.false_and])
  have hMb := rightB_yes hMR
  have hefM := ef_yes hMb
  have hT0 := Tile.start hbt2 (fun k hk => hR.out (by omega))
  have hRl : R.length ≤ 1024 := by have := hR.2.2.1; omega
  have hMl2 : M.length ≤ 1024 := by have := HK.out; omega
  have q1 := fun W (h : MdS w W sb N K g c R) => count_any W (N : Int) g K c R h.set
  have q2 := fun W (h : MdS w W w3.heap.size N K g2 c2 M) => count_any W (N : Int) g2 K c2 M h.set
  rw [hef] at q1
  rw [hefM] at q2
  have hcnt : ∀ i, i ≤ N → rk R i + rk M i = i := fun i hi => by
    induction i with
    | zero => rfl
    | succ i ih =>
      have := ih (by omega)
      rw [rk_succ, rk_succ, hbt2 i, decide_eq_true (show i < N by omega), Bool.true_and]
      cases bt R i <;> simp <;> omega
  have hcN := hcnt N (Nat.le_refl _)
  rw [rk_end hR (Nat.le_refl _), rk_end hMR (Nat.le_refl _)] at hcN
  obtain ⟨C1, hC1⟩ : ∃ C, C = (all R).length := ⟨_, rfl⟩
  obtain ⟨C2, hC2⟩ : ∃ C, C = (all M).length := ⟨_, rfl⟩
  rw [← hC1, ← hC2] at hcN
  rw [← hC1] at q1
  rw [← hC2] at q2
  have hsum : (C1 : Int) + (C2 : Int) = (N : Int) := by omega
  have hwsum : IntKind.i64.wrap (N : Int) = (N : Int) := by rw [IntKind.wrap_i64]; omega
  have hne : ((N : Int) != (N : Int)) = false := by simp
  clear hS0 hS1 q hown2 hD hA2 hsb hcnt hC1 hC2 hMl hbt2 hcN
  go_wp2_with fail
  obtain ⟨w4, hw4⟩ : ∃ wz, wz = w3.alloc (.cells #[.int .i64 (N : Int), .slice g2 K c2] 24) := ⟨_, rfl⟩
  obtain ⟨sn, hsn⟩ : ∃ b, b = w3.heap.size := ⟨_, rfl⟩
  rw [← hw4] at hS2 hM2 ⊢
  rw [← hsn] at hM2 q2 ⊢
  clear hw4 hsn
  have c0 := hS2.two.c0
  have c1 := hS2.two.c1
  have d0 := hM2.two.c0
  have d1 := hM2.two.c1
  have hSd := hS2.drew
  have hMd := hM2.drew
  go_region_held3 (fun w' => Below w.heap.size w w' ∧ w'.cell? ⟨sb, 0, none⟩ = some (.int .i64 (N : Int)) ∧ w'.cell? ⟨sb, 1, none⟩ = some (.slice g K c) ∧ w'.cell? ⟨sn, 0, none⟩ = some (.int .i64 (N : Int)) ∧ w'.cell? ⟨sn, 1, none⟩ = some (.slice g2 K c2)) (solve | exact ⟨hSd.bel, hSd.two.c0, hSd.two.c1, hMd.two.c0, hMd.two.c1⟩ | exact ⟨hS5.bel, hS5.two.c0, hS5.two.c1, hM5.two.c0, hM5.two.c1⟩ | exact ⟨hS6.bel, hS6.two.c0, hS6.two.c1, hM6.two.c0, hM6.two.c1⟩) (first
    | (go_at_call 21; first
        | (refine (q1 _ hSd).mono ?_; rintro e w5 ⟨rfl, hD5⟩; have hS5 := hSd.step hD5; have hM5 := hMd.step hD5; clear q1)
        | (refine (q2 _ hM5).mono ?_; rintro e w6 ⟨rfl, hD6⟩; have hS6 := hS5.step hD6; have hM6 := hM5.step hD6)))
  clear hSd hMd hS5 hM5 hD5 hD6 hS2 hM2 c0 c1 d0 d1 q2 hsum hwsum hne
  have q1 := fun W (h : MdS w W sb N K g c R) => runs_any W (N : Int) g K c R h.set
  have q2 := fun W (h : MdS w W sn N K g2 c2 M) => runs_any W (N : Int) g2 K c2 M h.set
  rw [hef] at q1
  rw [hefM] at q2
  unfold GivesR at q1 q2
  go_wp2_with fail
  have c0 := hS6.two.c0
  have c1 := hS6.two.c1
  have d0 := hM6.two.c0
  have d1 := hM6.two.c1
  have hSd := hS6.drew
  have hMd := hM6.drew
  go_region_held3 (fun w' => Below w.heap.size w w' ∧ w'.cell? ⟨sb, 0, none⟩ = some (.int .i64 (N : Int)) ∧ w'.cell? ⟨sb, 1, none⟩ = some (.slice g K c) ∧ w'.cell? ⟨sn, 0, none⟩ = some (.int .i64 (N : Int)) ∧ w'.cell? ⟨sn, 1, none⟩ = some (.slice g2 K c2)) (solve | exact ⟨hSd.bel, hSd.two.c0, hSd.two.c1, hMd.two.c0, hMd.two.c1⟩ | exact ⟨hS7.bel, hS7.two.c0, hS7.two.c1, hM7.two.c0, hM7.two.c1⟩ | exact ⟨hS8.bel, hS8.two.c0, hS8.two.c1, hM8.two.c0, hM8.two.c1⟩) (first
    | (go_at_call 22; first
        | (refine (q1 _ hSd).mono ?_; rintro e w7 ⟨pa, ca, rfl, hra, hD7⟩; have hS7 := hSd.step hD7; have hM7 := hMd.step hD7; clear q1)
        | (refine (q2 _ hM7).mono ?_; rintro e w8 ⟨pb, cb, rfl, hrb, hD8⟩; have hS8 := hS7.step hD8; have hM8 := hM7.step hD8)))
  have hPa := (Prs.of_own hra).below hD8
  have hPb := Prs.of_own hrb
  clear hSd hMd hS7 hM7 hD7 hD8 hS6 hM6 c0 c1 d0 d1 q2 hra hrb
  go_wp2_with fail
  go_loopw [8, 9, 10] (fun A B I wr => ∃ (i : Nat) (pa : Option Addr) (na ca : Nat) (pb : Option Addr) (nb cb : Nat) (ra rb : List (Nat × Nat)), A = .slice pa na ca ∧ B = .slice pb nb cb ∧ I = .int .i64 (i : Int) ∧ Tile R M N i ra rb ∧ Prs wr pa na ca ra ∧ Prs wr pb nb cb rb ∧ MdS w wr sb N K g c R ∧ MdS w wr sn N K g2 c2 M) (fun _ _ I _ => N - (intOf I).toNat)
  case atStart => exact ⟨0, pa, _, ca, pb, _, cb, _, _, rfl, rfl, rfl, hT0, hPa, hPb, hS8, hM8⟩
  case round =>
    obtain ⟨i, pa, na, ca, pb, nb, cb, ra, rb, rfl, rfl, rfl, hTi, hPa2, hPb2, hS0, hM0⟩ := hrel
    clear hPa hPb hS8 hM8 hT0
    have hiN := hTi.le
    have hna2 : na ≤ 65536 := by
      have h1 := rn_len R (64 * R.length)
      have h2 := congrArg List.length hTi.ra
      have h3 : (runs R).length = (rn R (64 * R.length)).length := rfl
      rw [List.length_append] at h2
      have := hPa2.1
      omega
    have hnb2 : nb ≤ 65536 := by
      have h1 := rn_len M (64 * M.length)
      have h2 := congrArg List.length hTi.rb
      have h3 : (runs M).length = (rn M (64 * M.length)).length := rfl
      rw [List.length_append] at h2
      have := hPb2.1
      omega
    by_cases hi : i < N
    · cases hb : bt R i with
      | true =>
        obtain ⟨e, ra', rfl, hie, heN, hbits, hTe, hfst⟩ := hTi.step hi hb
        obtain ⟨ab, ao, rfl, hna, hc0, hc1⟩ := hPa2.head
        have hd1 : decide ((0 : Int) < (na : Int) + (nb : Int)) = true := by simp; omega
        have hd1n : decide (0 < na + nb) = true := by simp; omega
        have hd2 : decide ((0 : Int) < (na : Int)) = true := by simp; omega
        have hd2n : decide (0 < na) = true := by simp; omega
        have hnp : (0 : Int) < (na : Int) := by omega
        have hn1 : (1 : Int) ≤ (na : Int) := by omega
        have hcap := hPa2.2.1
        have hcap1 : (na : Int) ≤ (ca : Int) := by omega
        have hee : ((i : Int) == (i : Int)) = true := by simp
        have HNA := Lib.hid hna
        have HTE := Lib.hid hTe
        have HB := Lib.hid hb
        have HBITS := Lib.hid hbits
        clear hna hTe hb hbits hTi
        have k0 : (wr.alloc (.cells #[.int .i64 0, .int .i64 0] 50)).cell? ⟨ab, ao, none⟩ = some (.int .i64 (i : Int)) := cell_keep hc0 ((Below.refl _ _).alloc (Nat.le_refl _) _)
        have k1 : (wr.alloc (.cells #[.int .i64 0, .int .i64 0] 50)).cell? ⟨ab, ao + 1, none⟩ = some (.int .i64 (e : Int)) := cell_keep hc1 ((Below.refl _ _).alloc (Nat.le_refl _) _)
        go_wp2_with fail
        go_region
        have hB9 : Below wr.heap.size wr ((wr.alloc (.cells #[.int .i64 (i : Int), .int .i64 (e : Int)] 50)).drew) := ((Below.refl _ wr).alloc (Nat.le_refl _) _).drew
        have hS9 := hS0.step hB9
        have hM9 := hM0.step hB9
        have hO9 := hPb2.below hB9
        have hR9 : Two ((wr.alloc (.cells #[.int .i64 (i : Int), .int .i64 (e : Int)] 50)).drew) wr.heap.size 50 (.int .i64 (i : Int)) (.int .i64 (e : Int)) := Two.new wr _ _ _
        obtain ⟨A9, hA9⟩ : ∃ A, A = (if ca = 1 then some (⟨ab, ao, none⟩ : Addr) else some ⟨ab, ao + 2, none⟩) := ⟨_, rfl⟩
        have hP9 : Prs ((wr.alloc (.cells #[.int .i64 (i : Int), .int .i64 (e : Int)] 50)).drew) A9 (na - 1) (ca - 1) ra' := by
          rw [hA9]
          by_cases hc1' : ca = 1
          · rw [if_pos hc1']; exact (hPa2.below hB9).tail0 hc1'
          · rw [if_neg hc1']; exact (hPa2.below hB9).tail (by have := hPa2.2.1; have := hPa2.1; simp only [List.length_cons] at this; omega)
        rw [← hA9]
        obtain ⟨n9, hn9⟩ : ∃ q, q = na - 1 := ⟨_, rfl⟩
        obtain ⟨c9, hc9⟩ : ∃ q, q = ca - 1 := ⟨_, rfl⟩
        rw [← hn9, ← hc9] at hP9 ⊢
        obtain ⟨w9, hw9⟩ : ∃ wz, wz = ((wr.alloc (.cells #[.int .i64 (i : Int), .int .i64 (e : Int)] 50)).drew) := ⟨_, rfl⟩
        rw [← hw9] at hS9 hM9 hO9 hR9 hP9 ⊢
        obtain ⟨rb9, hrb9⟩ : ∃ q, q = wr.heap.size := ⟨_, rfl⟩
        rw [← hrb9] at hR9 ⊢
        clear hw9 hrb9 hA9 hn9 hc9 hB9 hS0 hM0 hPa2 hPb2 k0 k1 hc0 hc1 hd1 hd1n hnp hn1 hcap1 hee 
        have r0 := hR9.c0
        have r1 := hR9.c1
        have s0 := hS9.two.c0
        have hle : decide ((e : Int) ≤ (i : Int)) = false := by simp; omega
        have hgt : decide ((N : Int) < (e : Int)) = false := by simp; omega
        have hlen9 : decide (e ≤ i) = false := by simp; omega
        have hgtn9 : decide (N < e) = false := by simp; omega
        go_wp2_with fail
        go_loopw [13] (fun I wx => ∃ k : Nat, i ≤ k ∧ k ≤ e ∧ I = .int .i64 (k : Int) ∧ MdS w wx sb N K g c R ∧ MdS w wx sn N K g2 c2 M ∧ Two wx rb9 50 (.int .i64 (i : Int)) (.int .i64 (e : Int)) ∧ Prs wx A9 n9 c9 ra' ∧ Prs wx pb nb cb rb) (fun I _ => e - (intOf I).toNat)
        case atStart => exact ⟨i, Nat.le_refl _, by omega, rfl, hS9, hM9, hR9, hP9, hO9⟩
        case round =>
          obtain ⟨k, hk1, hk2, rfl, hSx, hMx, hRx, hPx, hOx⟩ := hrel
          clear hS9 hM9 hR9 hP9 hO9 r0 r1 s0
          have r0 := hRx.c0
          have r1 := hRx.c1
          by_cases hke : k < e
          · have hd3 : decide ((k : Int) < (e : Int)) = true := by simp; omega
            have hd3n : decide (k < e) = true := by simp; omega
            have c0 := hSx.two.c0
            have c1 := hSx.two.c1
            have q := has_any _ (N : Int) (k : Int) g K c R hSx.set (by omega) (by omega)
            rw [hef, Int.toNat_natCast, (HBITS.out k hk1 hke).1, decide_eq_true (show (0 : Int) ≤ (k : Int) by omega)] at q
            first | rw [Bool.and_self] at q | rw [Bool.and_false] at q | rw [Bool.and_true] at q
            go_wp2_with fail
            refine q.mono ?_
            rintro e1 v1 ⟨rfl, hD⟩
            have hSy := hSx.step hD
            have hMy := hMx.step hD
            have hRy := hRx.step hD
            have hPy := hPx.below hD
            have hOy := hOx.below hD
            clear hSx hMx hRx hPx hOx c0 c1 r0 r1 q hD
            have c0 := hMy.two.c0
            have c1 := hMy.two.c1
            have q := has_any _ (N : Int) (k : Int) g2 K c2 M hMy.set (by omega) (by omega)
            rw [hefM, Int.toNat_natCast, (HBITS.out k hk1 hke).2, decide_eq_true (show (0 : Int) ≤ (k : Int) by omega)] at q
            first | rw [Bool.and_self] at q | rw [Bool.and_false] at q | rw [Bool.and_true] at q
            go_wp2_with fail
            refine q.mono ?_
            rintro e2 v2 ⟨rfl, hD⟩
            have hSz := hSy.step hD
            have hMz := hMy.step hD
            have hRz := hRy.step hD
            have hPz := hPy.below hD
            have hOz := hOy.below hD
            clear hSy hMy hRy hPy hOy c0 c1 q hD
            go_wp2_with fail
            go_roundw
            case rel => exact ⟨k + 1, by omega, by omega, by go_num, hSz, hMz, hRz, hPz, hOz⟩
            case measure => simp [intOf]; omega
          · obtain rfl : k = e := by omega
            have hd3 : decide ((k : Int) < (k : Int)) = false := by simp
            have hcx := hPx.2.1
            have hcx2 := hPx.2.2.1
            cases ra' with
            | nil =>
              have hn0 : n9 = 0 := hPx.1.symm
              subst hn0
              go_wp2_with fail
              go_roundw
              case rel => exact ⟨k, _, _, _, _, _, _, _, _, rfl, rfl, rfl, HTE.out, hPx, hOx, hSx, hMx⟩
              case measure => simp [intOf]; omega
            | cons p t =>
              obtain ⟨pb9, po9, rfl, hn9', hp0, hp1⟩ := hPx.head
              have hpe := hfst p (by simp)
              have hne9 : ((p.1 : Int) == (k : Int)) = false := by simp; omega
              have hd4 : decide ((0 : Int) < (n9 : Int)) = true := by simp; omega
              have hd4n : decide (0 < n9) = true := by simp; omega
              have hnp9 : (0 : Int) < (n9 : Int) := by omega
              clear hn9' hpe
              go_wp2_with fail
              go_roundw
              case rel => exact ⟨k, _, _, _, _, _, _, _, _, rfl, rfl, rfl, HTE.out, hPx, hOx, hSx, hMx⟩
              case measure => simp [intOf]; omega
      | false =>
        obtain ⟨e, rb', rfl, hie, heN, hbits, hTe, hfst⟩ := hTi.swap.step hi (hTi.not_bit hi hb)
        obtain ⟨ab, ao, rfl, hnb, hc0, hc1⟩ := hPb2.head
        have hTe := hTe.swap
        have hd1 : decide ((0 : Int) < (na : Int) + (nb : Int)) = true := by simp; omega
        have hd1n : decide (0 < na + nb) = true := by simp; omega
        have hd5 : decide ((0 : Int) < (nb : Int)) = true := by simp; omega
        have hd5n : decide (0 < nb) = true := by simp; omega
        have hnp : (0 : Int) < (nb : Int) := by omega
        have hn1 : (1 : Int) ≤ (nb : Int) := by omega
        have hcap := hPb2.2.1
        have hcap1 : (nb : Int) ≤ (cb : Int) := by omega
        have hee : ((i : Int) == (i : Int)) = true := by simp
        have hfa := hTi.firsts
        have HNB := Lib.hid hnb
        have HTE := Lib.hid hTe
        have HBITS := Lib.hid hbits
        clear hnb hTe hbits hTi
        have k0 : (wr.alloc (.cells #[.int .i64 0, .int .i64 0] 50)).cell? ⟨ab, ao, none⟩ = some (.int .i64 (i : Int)) := cell_keep hc0 ((Below.refl _ _).alloc (Nat.le_refl _) _)
        have k1 : (wr.alloc (.cells #[.int .i64 0, .int .i64 0] 50)).cell? ⟨ab, ao + 1, none⟩ = some (.int .i64 (e : Int)) := cell_keep hc1 ((Below.refl _ _).alloc (Nat.le_refl _) _)
        have hcaa := hPa2.2.1
        have hcaa2 := hPa2.2.2.1
        cases hra : ra with
        | nil =>
          rw [hra] at hPa2 HTE
          have hna0 : na = 0 := hPa2.1.symm
          subst hna0
          clear hfa hb hra
          go_wp2_with fail
          go_region
          have hB9 : Below wr.heap.size wr ((wr.alloc (.cells #[.int .i64 (i : Int), .int .i64 (e : Int)] 50)).drew) := ((Below.refl _ wr).alloc (Nat.le_refl _) _).drew
          have hS9 := hS0.step hB9
          have hM9 := hM0.step hB9
          have hO9 := hPa2.below hB9
          have hR9 : Two ((wr.alloc (.cells #[.int .i64 (i : Int), .int .i64 (e : Int)] 50)).drew) wr.heap.size 50 (.int .i64 (i : Int)) (.int .i64 (e : Int)) := Two.new wr _ _ _
          obtain ⟨A9, hA9⟩ : ∃ A, A = (if cb = 1 then some (⟨ab, ao, none⟩ : Addr) else some ⟨ab, ao + 2, none⟩) := ⟨_, rfl⟩
          have hP9 : Prs ((wr.alloc (.cells #[.int .i64 (i : Int), .int .i64 (e : Int)] 50)).drew) A9 (nb - 1) (cb - 1) rb' := by
            rw [hA9]
            by_cases hc1' : cb = 1
            · rw [if_pos hc1']; exact (hPb2.below hB9).tail0 hc1'
            · rw [if_neg hc1']; exact (hPb2.below hB9).tail (by have := hPb2.2.1; have := hPb2.1; simp only [List.length_cons] at this; omega)
          rw [← hA9]
          obtain ⟨n9, hn9⟩ : ∃ q, q = nb - 1 := ⟨_, rfl⟩
          obtain ⟨c9, hc9⟩ : ∃ q, q = cb - 1 := ⟨_, rfl⟩
          rw [← hn9, ← hc9] at hP9 ⊢
          obtain ⟨w9, hw9⟩ : ∃ wz, wz = ((wr.alloc (.cells #[.int .i64 (i : Int), .int .i64 (e : Int)] 50)).drew) := ⟨_, rfl⟩
          rw [← hw9] at hS9 hM9 hO9 hR9 hP9 ⊢
          obtain ⟨rb9, hrb9⟩ : ∃ q, q = wr.heap.size := ⟨_, rfl⟩
          rw [← hrb9] at hR9 ⊢
          clear hw9 hrb9 hA9 hn9 hc9 hB9 hS0 hM0 hPa2 hPb2 k0 k1 hc0 hc1 hd1 hd1n hnp hn1 hcap1 hee
          have r0 := hR9.c0
          have r1 := hR9.c1
          have s0 := hS9.two.c0
          have hle : decide ((e : Int) ≤ (i : Int)) = false := by simp; omega
          have hgt : decide ((N : Int) < (e : Int)) = false := by simp; omega
          have hlen9 : decide (e ≤ i) = false := by simp; omega
          have hgtn9 : decide (N < e) = false := by simp; omega
          go_wp2_with fail
          go_loopw [13] (fun I wx => ∃ k : Nat, i ≤ k ∧ k ≤ e ∧ I = .int .i64 (k : Int) ∧ MdS w wx sb N K g c R ∧ MdS w wx sn N K g2 c2 M ∧ Two wx rb9 50 (.int .i64 (i : Int)) (.int .i64 (e : Int)) ∧ Prs wx A9 n9 c9 rb' ∧ Prs wx pa 0 ca []) (fun I _ => e - (intOf I).toNat)
          case atStart => exact ⟨i, Nat.le_refl _, by omega, rfl, hS9, hM9, hR9, hP9, hO9⟩
          case round =>
            obtain ⟨k, hk1, hk2, rfl, hSx, hMx, hRx, hPx, hOx⟩ := hrel
            clear hS9 hM9 hR9 hP9 hO9 r0 r1 s0
            have r0 := hRx.c0
            have r1 := hRx.c1
            by_cases hke : k < e
            · have hd3 : decide ((k : Int) < (e : Int)) = true := by simp; omega
              have hd3n : decide (k < e) = true := by simp; omega
              have c0 := hSx.two.c0
              have c1 := hSx.two.c1
              have q := has_any _ (N : Int) (k : Int) g K c R hSx.set (by omega) (by omega)
              rw [hef, Int.toNat_natCast, (HBITS.out k hk1 hke).2, decide_eq_true (show (0 : Int) ≤ (k : Int) by omega)] at q
              first | rw [Bool.and_self] at q | rw [Bool.and_false] at q | rw [Bool.and_true] at q
              go_wp2_with fail
              refine q.mono ?_
              rintro e1 v1 ⟨rfl, hD⟩
              have hSy := hSx.step hD
              have hMy := hMx.step hD
              have hRy := hRx.step hD
              have hPy := hPx.below hD
              have hOy := hOx.below hD
              clear hSx hMx hRx hPx hOx c0 c1 r0 r1 q hD
              have c0 := hMy.two.c0
              have c1 := hMy.two.c1
              have q := has_any _ (N : Int) (k : Int) g2 K c2 M hMy.set (by omega) (by omega)
              rw [hefM, Int.toNat_natCast, (HBITS.out k hk1 hke).1, decide_eq_true (show (0 : Int) ≤ (k : Int) by omega)] at q
              first | rw [Bool.and_self] at q | rw [Bool.and_false] at q | rw [Bool.and_true] at q
              go_wp2_with fail
              refine q.mono ?_
              rintro e2 v2 ⟨rfl, hD⟩
              have hSz := hSy.step hD
              have hMz := hMy.step hD
              have hRz := hRy.step hD
              have hPz := hPy.below hD
              have hOz := hOy.below hD
              clear hSy hMy hRy hPy hOy c0 c1 q hD
              go_wp2_with fail
              go_roundw
              case rel => exact ⟨k + 1, by omega, by omega, by go_num, hSz, hMz, hRz, hPz, hOz⟩
              case measure => simp [intOf]; omega
            · obtain rfl : k = e := by omega
              have hd3 : decide ((k : Int) < (k : Int)) = false := by simp
              have hcx := hPx.2.1
              have hcx2 := hPx.2.2.1
              cases rb' with
              | nil =>
                have hn0 : n9 = 0 := hPx.1.symm
                subst hn0
                go_wp2_with fail
                go_roundw
                case rel => exact ⟨k, _, _, _, _, _, _, _, _, rfl, rfl, rfl, HTE.out, hOx, hPx, hSx, hMx⟩
                case measure => simp [intOf]; omega
              | cons p t =>
                obtain ⟨pb9, po9, rfl, hn9', hp0, hp1⟩ := hPx.head
                have hpe := hfst p (by simp)
                have hne9 : ((p.1 : Int) == (k : Int)) = false := by simp; omega
                have hd4 : decide ((0 : Int) < (n9 : Int)) = true := by simp; omega
                have hd4n : decide (0 < n9) = true := by simp; omega
                have hnp9 : (0 : Int) < (n9 : Int) := by omega
                clear hn9' hpe
                go_wp2_with fail
                go_roundw
                case rel => exact ⟨k, _, _, _, _, _, _, _, _, rfl, rfl, rfl, HTE.out, hOx, hPx, hSx, hMx⟩
                case measure => simp [intOf]; omega
        | cons p0 t0 =>
          rw [hra] at hPa2 HTE
          obtain ⟨xb, xo, rfl, hna9, hx0, hx1⟩ := hPa2.head
          have hp0 := hfa p0 (by rw [hra]; simp)
          have hpi : ((p0.1 : Int) == (i : Int)) = false := by
            have : p0.1 ≠ i := fun h => by rw [h, hb] at hp0; cases hp0
            simp; omega
          have hd6 : decide ((0 : Int) < (na : Int)) = true := by simp; omega
          have hd6n : decide (0 < na) = true := by simp; omega
          have hnpa : (0 : Int) < (na : Int) := by omega
          clear hfa hb hra hna9 hp0
          go_wp2_with fail
          go_region
          have hB9 : Below wr.heap.size wr ((wr.alloc (.cells #[.int .i64 (i : Int), .int .i64 (e : Int)] 50)).drew) := ((Below.refl _ wr).alloc (Nat.le_refl _) _).drew
          have hS9 := hS0.step hB9
          have hM9 := hM0.step hB9
          have hO9 := hPa2.below hB9
          have hR9 : Two ((wr.alloc (.cells #[.int .i64 (i : Int), .int .i64 (e : Int)] 50)).drew) wr.heap.size 50 (.int .i64 (i : Int)) (.int .i64 (e : Int)) := Two.new wr _ _ _
          obtain ⟨A9, hA9⟩ : ∃ A, A = (if cb = 1 then some (⟨ab, ao, none⟩ : Addr) else some ⟨ab, ao + 2, none⟩) := ⟨_, rfl⟩
          have hP9 : Prs ((wr.alloc (.cells #[.int .i64 (i : Int), .int .i64 (e : Int)] 50)).drew) A9 (nb - 1) (cb - 1) rb' := by
            rw [hA9]
            by_cases hc1' : cb = 1
            · rw [if_pos hc1']; exact (hPb2.below hB9).tail0 hc1'
            · rw [if_neg hc1']; exact (hPb2.below hB9).tail (by have := hPb2.2.1; have := hPb2.1; simp only [List.length_cons] at this; omega)
          rw [← hA9]
          obtain ⟨n9, hn9⟩ : ∃ q, q = nb - 1 := ⟨_, rfl⟩
          obtain ⟨c9, hc9⟩ : ∃ q, q = cb - 1 := ⟨_, rfl⟩
          rw [← hn9, ← hc9] at hP9 ⊢
          obtain ⟨w9, hw9⟩ : ∃ wz, wz = ((wr.alloc (.cells #[.int .i64 (i : Int), .int .i64 (e : Int)] 50)).drew) := ⟨_, rfl⟩
          rw [← hw9] at hS9 hM9 hO9 hR9 hP9 ⊢
          obtain ⟨rb9, hrb9⟩ : ∃ q, q = wr.heap.size := ⟨_, rfl⟩
          rw [← hrb9] at hR9 ⊢
          clear hw9 hrb9 hA9 hn9 hc9 hB9 hS0 hM0 hPa2 hPb2 k0 k1 hc0 hc1 hd1 hd1n hnp hn1 hcap1 hee
          have r0 := hR9.c0
          have r1 := hR9.c1
          have s0 := hS9.two.c0
          have hle : decide ((e : Int) ≤ (i : Int)) = false := by simp; omega
          have hgt : decide ((N : Int) < (e : Int)) = false := by simp; omega
          have hlen9 : decide (e ≤ i) = false := by simp; omega
          have hgtn9 : decide (N < e) = false := by simp; omega
          go_wp2_with fail
          go_loopw [13] (fun I wx => ∃ k : Nat, i ≤ k ∧ k ≤ e ∧ I = .int .i64 (k : Int) ∧ MdS w wx sb N K g c R ∧ MdS w wx sn N K g2 c2 M ∧ Two wx rb9 50 (.int .i64 (i : Int)) (.int .i64 (e : Int)) ∧ Prs wx A9 n9 c9 rb' ∧ Prs wx (some ⟨xb, xo, none⟩) na ca (p0 :: t0)) (fun I _ => e - (intOf I).toNat)
          case atStart => exact ⟨i, Nat.le_refl _, by omega, rfl, hS9, hM9, hR9, hP9, hO9⟩
          case round =>
            obtain ⟨k, hk1, hk2, rfl, hSx, hMx, hRx, hPx, hOx⟩ := hrel
            clear hS9 hM9 hR9 hP9 hO9 r0 r1 s0
            have r0 := hRx.c0
            have r1 := hRx.c1
            by_cases hke : k < e
            · have hd3 : decide ((k : Int) < (e : Int)) = true := by simp; omega
              have hd3n : decide (k < e) = true := by simp; omega
              have c0 := hSx.two.c0
              have c1 := hSx.two.c1
              have q := has_any _ (N : Int) (k : Int) g K c R hSx.set (by omega) (by omega)
              rw [hef, Int.toNat_natCast, (HBITS.out k hk1 hke).2, decide_eq_true (show (0 : Int) ≤ (k : Int) by omega)] at q
              first | rw [Bool.and_self] at q | rw [Bool.and_false] at q | rw [Bool.and_true] at q
              go_wp2_with fail
              refine q.mono ?_
              rintro e1 v1 ⟨rfl, hD⟩
              have hSy := hSx.step hD
              have hMy := hMx.step hD
              have hRy := hRx.step hD
              have hPy := hPx.below hD
              have hOy := hOx.below hD
              clear hSx hMx hRx hPx hOx c0 c1 r0 r1 q hD
              have c0 := hMy.two.c0
              have c1 := hMy.two.c1
              have q := has_any _ (N : Int) (k : Int) g2 K c2 M hMy.set (by omega) (by omega)
              rw [hefM, Int.toNat_natCast, (HBITS.out k hk1 hke).1, decide_eq_true (show (0 : Int) ≤ (k : Int) by omega)] at q
              first | rw [Bool.and_self] at q | rw [Bool.and_false] at q | rw [Bool.and_true] at q
              go_wp2_with fail
              refine q.mono ?_
              rintro e2 v2 ⟨rfl, hD⟩
              have hSz := hSy.step hD
              have hMz := hMy.step hD
              have hRz := hRy.step hD
              have hPz := hPy.below hD
              have hOz := hOy.below hD
              clear hSy hMy hRy hPy hOy c0 c1 q hD
              go_wp2_with fail
              go_roundw
              case rel => exact ⟨k + 1, by omega, by omega, by go_num, hSz, hMz, hRz, hPz, hOz⟩
              case measure => simp [intOf]; omega
            · obtain rfl : k = e := by omega
              have hd3 : decide ((k : Int) < (k : Int)) = false := by simp
              have hcx := hPx.2.1
              have hcx2 := hPx.2.2.1
              cases rb' with
              | nil =>
                have hn0 : n9 = 0 := hPx.1.symm
                subst hn0
                go_wp2_with fail
                go_roundw
                case rel => exact ⟨k, _, _, _, _, _, _, _, _, rfl, rfl, rfl, HTE.out, hOx, hPx, hSx, hMx⟩
                case measure => simp [intOf]; omega
              | cons p t =>
                obtain ⟨pb9, po9, rfl, hn9', hp0, hp1⟩ := hPx.head
                have hpe := hfst p (by simp)
                have hne9 : ((p.1 : Int) == (k : Int)) = false := by simp; omega
                have hd4 : decide ((0 : Int) < (n9 : Int)) = true := by simp; omega
                have hd4n : decide (0 < n9) = true := by simp; omega
                have hnp9 : (0 : Int) < (n9 : Int) := by omega
                clear hn9' hpe
                go_wp2_with fail
                go_roundw
                case rel => exact ⟨k, _, _, _, _, _, _, _, _, rfl, rfl, rfl, HTE.out, hOx, hPx, hSx, hMx⟩
                case measure => simp [intOf]; omega
    · obtain rfl : i = N := by omega
      obtain ⟨rfl, rfl⟩ := hTi.done
      have hna : na = 0 := hPa2.1.symm
      have hnb : nb = 0 := hPb2.1.symm
      subst hna
      subst hnb
      have c0 := hS0.two.c0
      clear hTi hi
      go_wp2_with fail
      go_ret
      exact ⟨rfl, hS0.bel⟩
end Go.Proofs.YtgkckoejkljngaaDoor
