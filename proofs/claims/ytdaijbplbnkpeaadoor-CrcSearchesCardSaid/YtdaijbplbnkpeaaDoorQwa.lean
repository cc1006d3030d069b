/-
  The walk of CrcSearches.
-/
import Derived.Test.YtdaijbplbnkpeaaDoorQw9
import Derived.Test.YtdaijbplbnkpeaaDoorRge
namespace Go.Proofs.YtdaijbplbnkpeaaDoor
open Go.RowKit Go.Shelf

/-- What Find returns. -/
def fnd (n c : Nat) : Int × Int := if n < 4 then (0, 2) else match (List.range (8 * n)).find? (fun k => prt n k == c) with
  | some k => ((k : Int), 0)
  | none => (0, 6)
theorem fnd_few {n : Nat} (c : Nat) (h : n < 4) : fnd n c = (0, 2) := by unfold fnd; rw [if_pos h]
theorem fnd_some {n c k : Nat} (h : 4 ≤ n) (hk : k < 8 * n) (he : prt n k = c) (hlt : ∀ j, j < k → prt n j ≠ c) : fnd n c = ((k : Int), 0) := by
  unfold fnd
  rw [if_neg (by omega), (List.find?_range_eq_some (n := 8 * n) (i := k) (p := fun k => prt n k == c)).2 ⟨by simpa using he, by simpa using hk, fun j hj => by simpa using hlt j hj⟩]
theorem fnd_none {n c : Nat} (h : 4 ≤ n) (hno : ∀ k, k < 8 * n → prt n k ≠ c) : fnd n c = (0, 6) := by
  unfold fnd
  rw [if_neg (by omega), List.find?_eq_none.2 (fun k hk => by simpa using hno k (List.mem_range.1 hk))]

set_option maxHeartbeats 1000000 in
theorem find_few (a : Option Addr) (n cap : Nat) (w : World) (h : n < 4 ∨ 65536 < n) (hc : n ≤ 9223372036854775807) :
    Calls Tryd.prog 20 #[.slice a n cap] w fun e w' => e = .returned (.tuple #[.int .i64 0, .int .i64 2]) ∧ w' = w := by
  refine (callsIn_wide (n := 3)).1 ?_
  rcases Nat.lt_or_ge n 4 with h4 | h4
  · have hd1 : decide ((n : Int) < 4) = true := by simp; omega
    refine callsIn_of_wp_marks Tryd.func20 rfl trivial ?_ rfl
    simp only [Tryd.ntmps20, List.size_toArray, List.length_cons, List.length_nil, Nat.reduceAdd, Nat.reduceSub, Array.replicate_succ, Array.replicate_zero, List.push_toArray, List.append_toArray, List.nil_append, List.cons_append]
    gi_wp2_with (apply wpIn_scope_wide)
    exact ⟨_, results_tmp2 rfl _ _ _, rfl, rfl⟩
  · have hd1 : decide ((n : Int) < 4) = false := by simp; omega
    have hd2 : decide ((65536 : Int) < (n : Int)) = true := by simp; omega
    refine callsIn_of_wp_marks Tryd.func20 rfl trivial ?_ rfl
    simp only [Tryd.ntmps20, List.size_toArray, List.length_cons, List.length_nil, Nat.reduceAdd, Nat.reduceSub, Array.replicate_succ, Array.replicate_zero, List.push_toArray, List.append_toArray, List.nil_append, List.cons_append]
    gi_wp2_with (apply wpIn_scope_wide)
    exact ⟨_, results_tmp2 rfl _ _ _, rfl, rfl⟩

set_option maxHeartbeats 1000000 in
theorem rfind_few (a : Option Addr) (n cap : Nat) (w : World) (h4 : n < 4) :
    Calls Tryd.prog 21 #[.slice a n cap] w fun e w' => e = .returned (.tuple #[.int .i64 0, .int .i64 2]) ∧ w' = w := by
  have hd1 : decide ((n : Int) < 4) = true := by simp; omega
  go_enter Tryd.func21, Tryd.ntmps21
  go_wp2_with fail
  go_ret2
  exact ⟨rfl, rfl⟩

theorem find_fnd (a : Option Addr) (n cap : Nat) (l : List Int) (w : World) (hT : Tab w) (hS : Sl .u8 w a n cap l) (hB : Bys l) (hn65 : n ≤ 65536) :
    Calls Tryd.prog 20 #[.slice a n cap] w fun e w' => e = .returned (.tuple #[.int .i64 (fnd n (chg l)).1, .int .i64 (fnd n (chg l)).2]) ∧ Below w.heap.size w w' := by
  by_cases h4 : 4 ≤ n
  · refine (find_any a n cap l w hT hS hB h4 hn65).mono ?_
    rintro e w' ⟨⟨j, hj, hje, hjl, rfl⟩ | ⟨hno, rfl⟩, hb⟩
    · exact ⟨by rw [fnd_some h4 hj hje hjl], hb⟩
    · exact ⟨by rw [fnd_none h4 hno], hb⟩
  · refine (find_few a n cap w (.inl (by omega)) (by omega)).mono ?_
    rintro e w' ⟨rfl, rfl⟩
    exact ⟨by rw [fnd_few _ (by omega)], Below.refl _ _⟩
theorem rfind_fnd (a : Option Addr) (n cap : Nat) (l : List Int) (w : World) (hS : Sl .u8 w a n cap l) (hB : Bys l) (hn1 : n ≤ 1000) :
    Calls Tryd.prog 21 #[.slice a n cap] w fun e w' => e = .returned (.tuple #[.int .i64 (fnd n (chg l)).1, .int .i64 (fnd n (chg l)).2]) ∧ Below w.heap.size w w' := by
  by_cases h4 : 4 ≤ n
  · refine (rfind_any a n cap l w hS hB h4 hn1).mono ?_
    rintro e w' ⟨⟨j, hj, hje, hjl, rfl⟩ | ⟨hno, rfl⟩, hb⟩
    · exact ⟨by rw [fnd_some h4 hj hje hjl], hb⟩
    · exact ⟨by rw [fnd_none h4 hno], hb⟩
  · refine (rfind_few a n cap w (by omega)).mono ?_
    rintro e w' ⟨rfl, rfl⟩
    exact ⟨by rw [fnd_few _ (by omega)], Below.refl _ _⟩

set_option maxRecDepth 100000 in
set_option maxHeartbeats 4000000 in
theorem searches_walk (W : World) (hT : Tab W) (a : Option Addr) (len cap : Nat) (l : List Int) (b : Option Addr) (ln cp : Nat) (ks : List Int) (hs : Sl .u8 W a len cap l) (hf : Fits .u8 l) (hk : Sl .u16 W b ln cp ks) (hfk : Fits .u16 ks) :
    Calls Tryd.prog 6 #[.slice a len cap, .slice b ln cp] W fun e w' => e = .returned (.bool true) ∧ Below W.heap.size W w' := by
  obtain ⟨i0, hinf, hz0, hz1, hz2⟩ := info_parts infoU8
  have hby := bys_fits hf
  have hlc := hs.2.1
  have hcm := hs.2.2.1
  have hlc2 := hk.2.1
  have hcm2 := hk.2.2.1
  obtain ⟨m, hm⟩ : ∃ m : Nat, m = min len 40 := ⟨_, rfl⟩
  obtain ⟨t, ht⟩ : ∃ t : Nat, t = min ln 4 := ⟨_, rfl⟩
  have hsm := hs.upto m (by omega)
  have hkt := hk.upto t (by omega)
  have hbm := hby.take m
  have hm1 : min (len : Int) 40 = (m : Int) := by omega
  have ht1 : min (ln : Int) 4 = (t : Int) := by omega
  have hm40 : m ≤ 40 := by omega
  have hmc : (m : Int) ≤ (cap : Int) := by omega
  have htcp : (t : Int) ≤ (cp : Int) := by omega
  have htl : t ≤ ln := by omega
  have hfk2 : ∀ j, j < t → ∃ x : Nat, x < 65536 ∧ (ks.take t)[j]?.getD 0 = (x : Int) := by
    intro j hj
    have h1 : j < (ks.take t).length := by have := hkt.1; omega
    have h2 := bounds_u16 (hfk _ (List.mem_of_mem_take (List.getElem_mem h1)))
    refine ⟨((ks.take t)[j]?.getD 0).toNat, ?_, ?_⟩ <;> rw [List.getElem?_eq_getElem h1, Option.getD_some] <;> omega
  obtain ⟨L, hL⟩ : ∃ L, L = l.take m := ⟨_, rfl⟩
  obtain ⟨KS, hKS⟩ : ∃ KS, KS = ks.take t := ⟨_, rfl⟩
  rw [← hL] at hsm hbm
  rw [← hKS] at hkt hfk2
  clear hm ht hL hKS hk hs hf hfk hby
  go_enter Tryd.func6, Tryd.ntmps6
  go_wp2_with fail
  refine (rseal_any a m cap L W hsm hbm (by omega)).mono ?_
  rintro e w2 ⟨v2, rfl, hm2⟩
  obtain ⟨N, hN⟩ : ∃ N, N = m + 4 := ⟨_, rfl⟩
  have hlL := hsm.1
  obtain ⟨a2, c2, rfl, _, hown2, hB2⟩ := hm2.view N (by rw [List.length_append, le4_len, hlL]; omega)
  have hbS := hbm.append (le4_bys (upd 0 L))
  obtain ⟨S, hS⟩ : ∃ S, S = L ++ le4 (upd 0 L) := ⟨_, rfl⟩
  have hgS : S.length = N := by rw [hS, List.length_append, le4_len, hlL]; omega
  rw [← hS] at hown2 hbS
  have hNl : N ≤ 44 := by omega
  have hN4n : 4 ≤ N := by omega
  have hnz : ¬ (8 * (N : Int)) = 0 := by omega
  obtain ⟨g, c2', hgg⟩ := ownsRow_form' hown2 (by omega)
  cases hgg
  clear hm2 hS hN
  go_wp2_with fail
  go_loopw [28] (fun I wr => ∃ (i : Nat) (M : List Int), i ≤ t ∧ I = .int .i64 (i : Int) ∧ Bys M ∧ wr.ownsRow W.heap.size 5 1 (.slice (some ⟨g, 0, none⟩) N c2) N (M.map (Value.int .u8)) ∧ Below W.heap.size W wr) (fun I _ => t - (intOf I).toNat)
  case atStart => exact ⟨0, S, by omega, rfl, hbS, hown2, hB2⟩
  case round =>
    obtain ⟨i, M, hi, rfl, hbM, hA, hD⟩ := hrel
    obtain ⟨wi, hwi⟩ : ∃ wi, wi = wr := ⟨_, rfl⟩
    subst hwi
    clear hown2 hB2 hbS hgS
    by_cases hlt : i < t
    · obtain ⟨x, hx, hxe⟩ := hfk2 i hlt
      obtain ⟨bb, bo, rfl, _, hc⟩ := (hkt.below hD).at hlt
      rw [hxe] at hc
      obtain ⟨q, hq⟩ : ∃ q, q = x % (8 * N) := ⟨_, rfl⟩
      have hql : q < 8 * N := by rw [hq]; exact Nat.mod_lt _ (by omega)
      have hqt : (x : Int).tmod (8 * (N : Int)) = (q : Int) := by rw [Int.tmod_eq_emod_of_nonneg (by omega), hq, Int.natCast_emod, Int.natCast_mul]; rfl
      have hq8 : q % 8 = x % 8 := by rw [hq]; exact Nat.mod_mul_right_mod x 8 N
      obtain ⟨y1, z1, _, p1, p2, p3, p4, hA1, hg1, hgB1⟩ := flip_facts hA hbM hql
      rw [hq8] at p3 p4
      have hbS1 := flp_bys hbM q
      have hB5 := hD.setCell (p := ⟨g, q / 8, none⟩) hgB1 (.int .u8 (z1 : Int))
      have i1 : (q : Int) / 8 < (N : Int) := by omega
      have i2 : (0 : Int) ≤ (q : Int) / 8 := by omega
      have i3 : (0 : Int) ≤ (x : Int) % 8 := by omega
      have i4 : ((q : Int) / 8).toNat = q / 8 := by omega
      have i5 : ((x : Int) % 8).toNat = x % 8 := by omega
      have HA1 := Lib.hid hA1
      clear hA hD hq hq8 hA1 hfk2 hxe
      go_wp2_with fail
      go_roundw
      case rel => exact ⟨i + 1, _, by omega, by go_num, hbS1, HA1.out, hB5⟩
      case measure => simp [intOf]; omega
    · obtain rfl : i = t := by omega
      clear hfk2
      have hs1 := own_sl hA
      go_wp2_with fail
      obtain ⟨w3, hw3⟩ : ∃ w3, wi.alloc (.cells #[.slice a m cap, .slice (some ⟨g, 0, none⟩) N c2] 22) = w3 := ⟨_, rfl⟩
      have hD3 : Below wi.heap.size wi w3 := by rw [← hw3]; exact (Below.refl _ _).alloc (Nat.le_refl _) _
      have hcs : w3.cell? ⟨wi.heap.size, 0, none⟩ = some (.slice a m cap) ∧ w3.cell? ⟨wi.heap.size, 1, none⟩ = some (.slice (some ⟨g, 0, none⟩) N c2) := by
        rw [← hw3]
        refine ⟨?_, ?_⟩ <;> rw [World.cell?_alloc_mark] <;> rfl
      have hlt3 : wi.heap.size < w3.heap.size := by rw [← hw3]; simp
      have hB3 := below_step hD hD3
      have hx0 := hsm.below hB3
      have hx1 := hs1.below hD3
      rw [hw3]
      clear hw3 hA hs1 hD3 hD hsm hkt
      go_loopw [52] (fun I wr => ∃ j : Nat, j ≤ 2 ∧ I = .int .i64 (j : Int) ∧ Below w3.heap.size w3 wr) (fun I _ => 2 - (intOf I).toNat)
      case atStart => exact ⟨0, by omega, rfl, Below.refl _ _⟩
      case round =>
        obtain ⟨j, hj, rfl, hE⟩ := hrel
        obtain ⟨wo, hwo⟩ : ∃ wo, wo = wr := ⟨_, rfl⟩
        subst hwo
        by_cases hlt2 : j < 2
        · obtain ⟨av, nv, cv, lv', hcell, hsl, hbl, hnv⟩ : ∃ (av : Option Addr) (nv cv : Nat) (lv' : List Int), wo.cell? ⟨wi.heap.size, j, none⟩ = some (.slice av nv cv) ∧ Sl .u8 wo av nv cv lv' ∧ Bys lv' ∧ nv ≤ 44 := by
            match j, hlt2 with
            | 0, _ => exact ⟨a, m, cap, L, (hE.cell (p := ⟨wi.heap.size, 0, none⟩) hlt3).trans hcs.1, hx0.below hE, hbm, by omega⟩
            | 1, _ => exact ⟨_, N, c2, M, (hE.cell (p := ⟨wi.heap.size, 1, none⟩) hlt3).trans hcs.2, hx1.below hE, hbM, hNl⟩
          have hown5 : (wo.alloc (.cells #[] 5)).ownsRow wo.heap.size 5 1 (.slice (some ⟨wo.heap.size, 0, none⟩) 0 0) ([] : List Int).length (([] : List Int).map (Value.int .u8)) := World.ownsRow_lit wo #[] 0 (Nat.le_refl _) (by unfold maxLen; omega) rfl
          have hD5 : Below wo.heap.size wo (wo.alloc (.cells #[] 5)) := (Below.refl _ _).alloc (Nat.le_refl _) _
          have hs5 := hsl.below hD5
          have hsz5 := hD5.size
          have hvc := hsl.2.1
          have hvm := hsl.2.2.1
          clear hx0 hx1 hcs
          go_wp2_with (at_builtin; refine wpList_append_onsl _ rfl (.tmp 56) (.tmp 57) 22 rfl .u8 wo.heap.size 5 i0 1 Tryd.underlying22 hinf hz0 hz1 hz2 _ [] av nv cv lv' rfl rfl hown5 hs5 (by unfold maxLen; simp; omega) (by simp; omega) hsz5 ?_)
          intro v6 w6 hown6 hgrow6
          have hD6 : Below wo.heap.size wo w6 := hD5.grown hgrow6 hsz5 (fun kk hk => by cases hk; exact Nat.le_refl _)
          have hown6' : w6.ownsRow wo.heap.size 5 1 v6 nv (lv'.map (Value.int .u8)) := by
            have h1 : lv'.length = nv := hsl.1
            rw [← h1]
            simpa using hown6
          obtain ⟨a6, c6, rfl⟩ := own_shape hown6'
          have hs6 := own_sl hown6'
          have hE6 := below_step hE hD6
          have hB6 := below_step hB3 hE6
          have f1 := find_fnd a6 nv c6 lv' w6 (hT.step hB6) hs6 hbl (by omega)
          have f2 := fun w' (hb : Below w6.heap.size w6 w') => rfind_fnd av nv cv lv' w' ((hsl.below hD6).below hb) hbl (by omega)
          have f3 := fun w' (hb : Below w6.heap.size w6 w') => conv_sl (hs6.below hb)
          have f4 := fun w' (hb : Below w6.heap.size w6 w') => conv_sl ((hsl.below hD6).below hb)
          obtain ⟨r, hr⟩ : ∃ r, r = fnd nv (chg lv') := ⟨_, rfl⟩
          rw [← hr] at f1
          simp only [← hr] at f2
          obtain ⟨r1, r2⟩ := r
          clear hown6 hgrow6 hown5 hs5 hD5 hsz5 hown6' hs6 hr hsl
          go_wp2_with fail
          refine f1.mono ?_
          rintro e w8 ⟨rfl, hb8⟩
          have f5 := f2 w8 hb8
          clear f1 f2
          go_wp2_with fail
          refine f5.mono ?_
          rintro e w9 ⟨rfl, hb9⟩
          have hb69 := hb8.trans (hb9.mono hb8.size)
          have f6 := f3 w9 hb69
          have f7 := f4 w9 hb69
          have hE9 := below_step hE6 hb69
          obtain ⟨T, hT'⟩ : ∃ T, T = strOfNums lv' := ⟨_, rfl⟩
          rw [← hT'] at f6 f7
          clear f3 f4 f5 hT' hb8 hb9 hb69
          go_wp2_with fail
          go_roundw
          case rel => exact ⟨j + 1, by omega, by go_num, hE9⟩
          case measure => simp [intOf]; omega
        · obtain rfl : j = 2 := by omega
          have hB9 := below_step hB3 hE
          go_wp2_with fail
          refine (awake_any _ (hT.step hB9)).mono ?_
          rintro e w' ⟨rfl, hb3⟩
          go_wp2_with fail
          go_ret
          exact ⟨rfl, below_step hB9 hb3⟩
end Go.Proofs.YtdaijbplbnkpeaaDoor
