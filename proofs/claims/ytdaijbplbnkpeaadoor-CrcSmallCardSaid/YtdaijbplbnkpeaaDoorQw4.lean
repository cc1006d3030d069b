/-
  The walk of the law CrcBursts. Where the table of the halves lies as the program's text lays it.
-/
import Derived.Test.YtdaijbplbnkpeaaDoorLng
import Derived.Test.YtdaijbplbnkpeaaDoorHsb
import Derived.Test.YtdaijbplbnkpeaaDoorCnc
import Derived.Test.YtdaijbplbnkpeaaDoorRfa
namespace Go.Proofs.YtdaijbplbnkpeaaDoor
open Go.RowKit Go.Shelf

theorem long_all (a : Option Addr) (m cap n : Nat) (l : List Int) (w : World) (hS : Sl .u8 w a m cap l) (hB : Bys l) (hn' : n ≤ 1000000) :
    Calls Tryd.prog 26 #[.slice a m cap, .int .i64 (n : Int)] w fun e w' => ∃ v L, e = .returned v ∧ Bys L ∧ L.length = n ∧ Made w L v w' := by
  by_cases h0 : m = 0
  · subst h0; exact long_none a cap n w hn'
  · exact long_any a m cap n l w hS hB (by omega) hn'
theorem ownsRow_form' {w : World} {base size n : Nat} {e : TypeId} {v : Value} {xs : List Value} (h : w.ownsRow base e size v n xs) (hn : 0 < n) : ∃ g cap, v = .slice (some ⟨g, 0, none⟩) n cap := by
  rcases h.2 with ⟨_, h0⟩ | ⟨g, cap, _, hv, _⟩
  · omega
  · exact ⟨g, cap, hv⟩
theorem ownR_apart {w : World} {b1 b2 : Nat} {e1 e2 : TypeId} {s1 s2 : Nat} {v1 v2 : Value} {n1 n2 : Nat} {x1 x2 : List Value} (h1 : w.ownsRow b1 e1 s1 v1 n1 x1) (h2 : w.ownsRow b2 e2 s2 v2 n2 x2) (hne : e1 ≠ e2) : ∀ k, v1.ownBlock = some k → v2.ownBlock ≠ some k := by
  intro k hk hk2
  rcases h1.2 with ⟨rfl, _⟩ | ⟨g1, c1, u1, rfl, _, hg1, _⟩
  · simp [Value.ownBlock] at hk
  · rcases h2.2 with ⟨rfl, _⟩ | ⟨g2, c2, u2, rfl, _, hg2, _⟩
    · simp [Value.ownBlock] at hk2
    · simp [Value.ownBlock] at hk hk2
      subst hk; subst hk2
      rw [hg1] at hg2
      simp at hg2
      exact hne hg2.2
theorem bits32_and1 (a : Nat) (ha : a < 4294967296) (x : Int) (hx : x = a) : bits .and .u32 x 1 = ((a % 2 : Nat) : Int) := by
  subst hx
  have h1 : (BitVec.ofInt 32 (a : Int)).toNat = a := by
    rw [BitVec.ofInt_natCast, BitVec.toNat_ofNat]; exact Nat.mod_eq_of_lt (by omega)
  have h2 : (BitVec.ofInt 32 (1 : Int)).toNat = 1 := by decide
  show IntKind.u32.wrap ((BitVec.ofInt 32 (a : Int) &&& BitVec.ofInt 32 1).toNat : Int) = _
  rw [BitVec.toNat_and, h1, h2, IntKind.wrap_u32', Nat.and_one_is_mod]
  omega

theorem flps_bys {l : List Int} (h : Bys l) (ks : List Nat) : Bys (ks.foldl flp l) := by
  induction ks generalizing l with
  | nil => exact h
  | cons k ks ih => exact ih (flp_bys h k)

set_option maxRecDepth 100000 in
set_option maxHeartbeats 2000000 in
theorem bursts_walk (W : World) (hT : Tab W) (a : Option Addr) (len cap : Nat) (l : List Int) (n t x : Int) (hs : Sl .u8 W a len cap l) (hf : Fits .u8 l) (wn : (Lit.int .u16 n).wf = true) (wt : (Lit.int .u16 t).wf = true) (wx : (Lit.int .u32 x).wf = true) :
    Calls Tryd.prog 8 #[.slice a len cap, .int .u16 n, .int .u16 t, .int .u32 x] W fun e w' => e = .returned (.bool true) ∧ Below W.heap.size W w' := by
  have hby := bys_fits hf
  have hn := bounds_u16 wn
  have ht := bounds_u16 wt
  have hx := bounds_u32 wx
  obtain ⟨i0, hinf, hz0, hz1, hz2⟩ := info_parts infoU8
  obtain ⟨j0, jinf, jz0, jz1, jz2⟩ := info_parts infoInt
  obtain ⟨p, hp⟩ : ∃ p : Nat, max x 1 = (p : Int) := ⟨(max x 1).toNat, by omega⟩
  have hpl : p < 4294967296 := by omega
  obtain ⟨k, hk⟩ : ∃ k : Nat, (k : Int) = n % 4093 := ⟨(n % 4093).toNat, by omega⟩
  have hkl : k ≤ 4092 := by omega
  have hkn : n.tmod 4093 = (k : Int) := by rw [hk, Int.tmod_eq_emod_of_nonneg hn.1]
  clear wn wt wx hf hk
  go_enter Tryd.func8, Tryd.ntmps8
  go_wp2_with fail
  refine (long_all a len cap k l W hs hby (by omega)).mono ?_
  rintro e w1 ⟨v1, L, rfl, hbL, hlL, hm1⟩
  obtain ⟨a1, c1, rfl, hs1, _, hB1⟩ := hm1.view k hlL
  clear hm1
  go_wp2_with fail
  refine (seal_any a1 k c1 L w1 (hT.step hB1) hs1 hbL (by omega)).mono ?_
  rintro e w2 ⟨v2, rfl, hm2⟩
  obtain ⟨N, hN⟩ : ∃ N, N = k + 4 := ⟨_, rfl⟩
  obtain ⟨a2, c2, rfl, hs2, hown2, hB2⟩ := hm2.view N (by rw [List.length_append, le4_len, hlL]; omega)
  have hsea := sealed_of hbL
  have hbS := hbL.append (le4_bys (upd 0 L))
  obtain ⟨S, hS⟩ : ∃ S, S = L ++ le4 (upd 0 L) := ⟨_, rfl⟩
  rw [← hS] at hs2 hown2 hsea hbS
  have hB := below_step hB1 hB2
  have hT2 := hT.step hB
  have q1 := sealed_any a2 N c2 S w2 hT2 hs2 hbS
  rw [seaB_yes hsea] at q1
  have hN4 : decide ((N : Int) < 4) = false := by simp; omega
  have hNl : N ≤ 4096 := by omega
  have hN4n : 4 ≤ N := by omega
  obtain ⟨b, hb⟩ : ∃ b : Nat, (b : Int) = t % (8 * (N : Int)) := ⟨(t % (8 * (N : Int))).toNat, by have := Int.emod_nonneg t (show 8 * (N : Int) ≠ 0 by omega); omega⟩
  have hbl : b < 8 * N := by have := Int.emod_lt_of_pos t (show 0 < 8 * (N : Int) by omega); omega
  have hbt : t.tmod (8 * (N : Int)) = (b : Int) := by rw [hb, Int.tmod_eq_emod_of_nonneg ht.1]
  have hnz : ¬ (8 * (N : Int)) = 0 := by omega
  clear hm2 hs1 hB1 hB2 hb hkn hS hN hkl hlL
  go_wp2_with fail
  refine q1.mono ?_
  rintro e w' ⟨rfl, rfl⟩
  clear q1
  have hown5 : (w2.alloc (.cells #[] 5)).ownsRow w2.heap.size 5 1 (.slice (some ⟨w2.heap.size, 0, none⟩) 0 0) ([] : List Int).length (([] : List Int).map (Value.int .u8)) := World.ownsRow_lit w2 #[] 0 (Nat.le_refl _) (by unfold maxLen; omega) rfl
  have hD5 : Below w2.heap.size w2 (w2.alloc (.cells #[] 5)) := (Below.refl _ _).alloc (Nat.le_refl _) _
  have hs5 := hs2.below hD5
  have hsz5 := hD5.size
  go_wp2_with (at_builtin; refine wpList_append_onsl _ rfl (.tmp 47) (.tmp 48) 22 rfl .u8 w2.heap.size 5 i0 1 Tryd.underlying22 hinf hz0 hz1 hz2 _ [] a2 N c2 S rfl rfl hown5 hs5 (by unfold maxLen; simp; omega) (by simp; omega) hsz5 ?_)
  intro v6 w6 hown6 hgrow6
  have hD6 : Below w2.heap.size w2 w6 := hD5.grown hgrow6 hsz5 (fun kk hk => by cases hk; exact Nat.le_refl _)
  have hown6' : w6.ownsRow w2.heap.size 5 1 v6 N (S.map (Value.int .u8)) := by
    have h1 : S.length = N := hs2.1
    rw [← h1]
    simpa using hown6
  obtain ⟨g, c6, rfl⟩ := ownsRow_form' hown6' (by omega)
  have hgB : w2.heap.size ≤ g := (hown6'.lt g rfl).1
  clear hown6 hgrow6 hown5 hs5 hD5 hsz5 hown2
  go_wp2_with fail
  go_loopw [13, 50] (fun v I wr => ∃ i : Nat, i ≤ 32 ∧ I = .int .i64 (i : Int) ∧ wr.ownsRow w2.heap.size 5 1 (.slice (some ⟨g, 0, none⟩) N c6) N (((kb p b N i).foldl flp S).map (Value.int .u8)) ∧ wr.ownsRow w2.heap.size 3 1 v ((kb p b N i).map (fun k : Nat => (k : Int))).length (((kb p b N i).map (fun k : Nat => (k : Int))).map (Value.int .i64)) ∧ Below w2.heap.size w2 wr) (fun v I _ => 32 - (intOf I).toNat)
  case atStart => exact ⟨0, by omega, rfl, hown6', World.ownsRow_nil _ _ _ _, hD6⟩
  case round =>
    obtain ⟨i, hi, rfl, hA, hV, hD⟩ := hrel
    clear hown6' hD6
    by_cases hlt : i < 32
    · have hpi : p / 2 ^ i < 4294967296 := Nat.lt_of_le_of_lt (Nat.div_le_self _ _) hpl
      have hand : (p : Int) / 2 ^ i % 2 = ((p / 2 ^ i % 2 : Nat) : Int) := by push_cast; rfl
      by_cases hbit : p.testBit i = true ∧ b + i < 8 * N
      · have hand1 : (p : Int) / 2 ^ i % 2 = 1 := by
          have := hbit.1
          rw [Nat.testBit_eq_decide_div_mod_eq] at this
          rw [hand, of_decide_eq_true this]; rfl
        have hand2 := bits32_and1 (p / 2 ^ i) hpi ((p : Int) / 2 ^ i) (by push_cast; rfl)
        have hand3 : bits .and .u32 ((p : Int) / 2 ^ i) 1 = 1 := by rw [hand2, ← hand]; exact hand1
        clear hand hand2
        obtain ⟨q, hq⟩ : ∃ q, q = b + i := ⟨_, rfl⟩
        have hqi : (b : Int) + (i : Int) = (q : Int) := by omega
        have hql : q < 8 * N := by have := hbit.2; omega
        have hb2 : decide ((q : Int) < 8 * (N : Int)) = true := by simp; omega
        have hSl : ((kb p b N i).foldl flp S).length = N := by have := hA.1; simpa using this
        have hSb : Bys ((kb p b N i).foldl flp S) := flps_bys hbS _
        have hk1 := kb_yes hbit.1 hbit.2
        rw [← hq] at hk1
        clear hq
        obtain ⟨ks, hks⟩ : ∃ ks, ks = kb p b N i := ⟨_, rfl⟩
        rw [← hks] at hA hV hSl hSb hk1
        obtain ⟨M, hM⟩ : ∃ M, M = ks.foldl flp S := ⟨_, rfl⟩
        rw [← hM] at hA hSl hSb
        have hq8 : q / 8 < N := by omega
        obtain ⟨y, hy, hyl⟩ : ∃ y : Nat, (y : Int) = M[q / 8]?.getD 0 ∧ y < 256 := by
          have := hSb.get (q / 8)
          exact ⟨(M[q / 8]?.getD 0).toNat, by omega, by omega⟩
        have e0 := hA.cellAt (q / 8) (by omega)
        have e0' : wr.cell? ⟨g, q / 8, none⟩ = some (.int .u8 (y : Int)) := by
          rw [e0, List.getElem?_map, hy, List.getElem?_eq_getElem (by omega : q / 8 < M.length)]; rfl
        have e1 := hA.frozenAt (q / 8)
        have hst := fun u => (hA.stored (q / 8) u)
        have h2q : 2 ^ (q % 8) < 256 := Nat.pow_lt_pow_right (n := 8) (by omega) (Nat.mod_lt _ (by omega))
        have e75 : (2 : Int) ^ (q % 8) % 256 = (2 : Int) ^ (q % 8) := Int.emod_eq_of_lt (Int.pow_nonneg (by omega)) (by exact_mod_cast h2q)
        have e76 := bits8_xor y (2 ^ (q % 8)) hyl h2q (y : Int) ((2 : Int) ^ (q % 8)) rfl (by push_cast; rfl)
        obtain ⟨z, hz⟩ : ∃ z, z = y ^^^ 2 ^ (q % 8) := ⟨_, rfl⟩
        rw [← hz] at e76
        have hflp : flp M q = M.set (q / 8) (z : Int) := by unfold flp; rw [← hy, hz]; rfl
        have hA2 : ((wr.setCell ⟨g, q / 8, none⟩ (.int .u8 (z : Int))).drew).ownsRow w2.heap.size 5 1 (.slice (some ⟨g, 0, none⟩) N c6) N ((flp M q).map (Value.int .u8)) := by
          rw [hflp, List.map_set]; exact (hst _).1.drew
        have hV2 : ((wr.setCell ⟨g, q / 8, none⟩ (.int .u8 (z : Int))).drew).ownsRow w2.heap.size 3 1 u13 (ks.map (fun k : Nat => (k : Int))).length ((ks.map (fun k : Nat => (k : Int))).map (Value.int .i64)) :=
          (hV.kept (hst (.int .u8 (z : Int))).2 (.inr (ownR_apart hA hV (by decide) g rfl))).drew
        have hD2 : Below w2.heap.size w2 ((wr.setCell ⟨g, q / 8, none⟩ (.int .u8 (z : Int))).drew) := (hD.setCell (p := ⟨g, q / 8, none⟩) hgB _).drew
        have hap : u13.ownBlock ≠ some g := ownR_apart hA hV (by decide) g rfl
        have HK1 := Lib.hid hk1
        have HKS := Lib.hid hks
        have HM := Lib.hid hM
        have HY := Lib.hid hy
        have HBIT := Lib.hid hbit
        have hkl32 : (ks.map (fun k : Nat => (k : Int))).length ≤ 32 := by rw [List.length_map, hks]; have := kb_len (p := p) (b := b) (N := N) i; omega
        obtain ⟨W3, hW3⟩ : ∃ W3, W3 = ((wr.setCell ⟨g, q / 8, none⟩ (.int .u8 (z : Int))).drew) := ⟨_, rfl⟩
        rw [← hW3] at hA2 hV2 hD2
        have HW3 := Lib.hid hW3
        have hsz3 := hD2.size
        clear e0 hk1 hks hM hy hbit hz hflp hst hA hV hD h2q hSl hSb hW3
        have i1 : (q : Int) / 8 < (N : Int) := by omega
        have i2 : (0 : Int) ≤ (q : Int) / 8 := by omega
        have i3 : (0 : Int) ≤ (q : Int) % 8 := by omega
        have i4 : ((q : Int) / 8).toNat = q / 8 := by omega
        have i5 : ((q : Int) % 8).toNat = q % 8 := by omega
        go_wp2_with fail
        go_region
        all_goals
          rw [← HW3.out]
          go_wp2_with (at_builtin; refine wpList_append_own _ rfl (.tmp 78) (.tmp 80) 27 rfl w2.heap.size 3 j0 (.int .i64 0) 1 8 Tryd.underlying27 jinf jz0 jz1 jz2 rfl (by decide) _ _ _ rfl (hV2.alloc _) ⟨W3.heap.size, 0, none⟩ 1 1 [.int .i64 (q : Int)] rfl rfl (one_cellI _ _) (one_oneI _) (by unfold maxLen; omega) (by omega) (by simp; omega) ?_)
          intro v' w7 hown' hgrow _
          have hA7 : w7.ownsRow w2.heap.size 5 1 (.slice (some ⟨g, 0, none⟩) N c6) N (((kb p b N (i + 1)).foldl flp S).map (Value.int .u8)) := by
            rw [HK1.out, List.foldl_append, List.foldl_cons, List.foldl_nil, ← HM.out]
            exact (hA2.alloc _).kept hgrow (.inr (fun h => hap h.symm))
          have hV7 : w7.ownsRow w2.heap.size 3 1 v' ((kb p b N (i + 1)).map (fun k : Nat => (k : Int))).length (((kb p b N (i + 1)).map (fun k : Nat => (k : Int))).map (Value.int .i64)) := by
            rw [HK1.out]; simpa using hown'
          have hD7 : Below w2.heap.size w2 w7 := (hD2.alloc hsz3 _).grown hgrow (by simp; omega) (fun kk hk => (hV2.lt kk hk).1)
          clear hA2 hV2 hD2 hown' hgrow
          go_wp2_with fail
          go_roundw
          case rel => exact ⟨i + 1, by omega, by go_num, hA7, hV7, hD7⟩
          case measure => simp [intOf]; omega
      · have hk0 := kb_no hbit
        have HK0 := Lib.hid hk0
        rw [← hk0] at hA hV
        clear hk0 HK0
        by_cases hb1 : p.testBit i = true
        · have hand1 : (p : Int) / 2 ^ i % 2 = 1 := by
            have := hb1
            rw [Nat.testBit_eq_decide_div_mod_eq] at this
            rw [hand, of_decide_eq_true this]; rfl
          have hand2 := bits32_and1 (p / 2 ^ i) hpi ((p : Int) / 2 ^ i) (by push_cast; rfl)
          have hand3 : bits .and .u32 ((p : Int) / 2 ^ i) 1 = 1 := by rw [hand2, ← hand]; exact hand1
          clear hand hand2
          have hge : ¬ (b + i < 8 * N) := fun hh => hbit ⟨hb1, hh⟩
          obtain ⟨q, hq⟩ : ∃ q, q = b + i := ⟨_, rfl⟩
          have hqi : (b : Int) + (i : Int) = (q : Int) := by omega
          have hb2 : decide ((q : Int) < 8 * (N : Int)) = false := by simp; omega
          have HBIT := Lib.hid hbit
          clear hbit hb1 hge hq
          go_wp2_with fail
          go_roundw
          case rel => exact ⟨i + 1, by omega, by go_num, hA, hV, hD⟩
          case measure => simp [intOf]; omega
        · have hand1 : ¬ (p : Int) / 2 ^ i % 2 = 1 := by
            have h0 : p / 2 ^ i % 2 = 0 := by
              rw [Nat.testBit_eq_decide_div_mod_eq] at hb1
              rcases Nat.mod_two_eq_zero_or_one (p / 2 ^ i) with h | h
              · exact h
              · exact absurd (by rw [h]; rfl) hb1
            rw [hand, h0]; decide
          have hand2 := bits32_and1 (p / 2 ^ i) hpi ((p : Int) / 2 ^ i) (by push_cast; rfl)
          have hand3 : ¬ bits .and .u32 ((p : Int) / 2 ^ i) 1 = 1 := by rw [hand2, ← hand]; exact hand1
          have hand4 : (bits .and .u32 ((p : Int) / 2 ^ i) 1 == 1) = false := by simpa using hand3
          clear hand hand2
          have HBIT := Lib.hid hbit
          clear hbit hb1
          go_wp2_with fail
          go_roundw
          case rel => exact ⟨i + 1, by omega, by go_num, hA, hV, hD⟩
          case measure => simp [intOf]; omega
    · obtain rfl : i = 32 := by omega
      have hbf := burst_found (p := p) (b := b) (N := N) hpl hbl
      have hkl := kb_lt (p := p) (b := b) (N := N) 32
      have hkn := kb_len (p := p) (b := b) (N := N) 32
      have hchg := chg_flps (kb p b N 32) (l := S) (by rw [hs2.1]; exact hkl)
      obtain ⟨ks, hks⟩ : ∃ ks, ks = kb p b N 32 := ⟨_, rfl⟩
      rw [← hks] at hA hV hbf hkl hkn hchg
      rw [hsea.2, Nat.zero_xor, hs2.1] at hchg
      obtain ⟨a13, c13, rfl⟩ := own_shape hV
      have hsV := own_sl hV
      have hlM : (ks.map (fun k : Nat => (k : Int))).length = ks.length := List.length_map _
      obtain ⟨m, hm⟩ : ∃ m, m = ks.length := ⟨_, rfl⟩
      rw [hlM, ← hm] at hsV
      have hsA := own_sl hA
      have hbA : Bys (ks.foldl flp S) := flps_bys hbS _
      have hTr := hT2.step hD
      have hBr := below_step hB hD
      have hdm : dmR N (ks.map (fun k : Nat => (k : Int))) = (dmg N ks != 0, 0) := by
        unfold dmR
        have h1 : inB N (ks.map (fun k : Nat => (k : Int))) = true := inB_iff.2 (fun k hk => by
          obtain ⟨j, hj, rfl⟩ := List.mem_map.1 hk
          have := hkl j hj
          omega)
        have h2 : (ks.map (fun k : Nat => (k : Int))).map Int.toNat = ks := by simp [List.map_map, Function.comp_def]
        rw [h1, h2, hlM]
        have h3 : ¬ 4096 < ks.length := by omega
        simp [h3]
      have q7 := damages_any N a13 m c13 _ wr (by omega) (by omega) hsV
      rw [hdm] at q7
      simp only [hlM, ← hm]
      by_cases hnil : ks = []
      · have hd0 : dmg N ks = 0 := hbf.2 hnil
        have hm0 : m = 0 := by rw [hm, hnil]; rfl
        rw [hd0] at q7 hchg
        have hse : Sea (ks.foldl flp S) := ⟨by have := hsA.1; omega, hchg⟩
        have q8 := fun w' (hb : Below wr.heap.size wr w') => sealed_any _ N c6 _ w' (hTr.step hb) (hsA.below hb) hbA
        rw [seaB_yes hse] at q8
        subst hm0
        clear hm hlM hsV hchg hbf hse hd0 hdm hA hV hkl hkn hks
        go_wp2_with fail
        refine q7.mono ?_
        rintro e w8 ⟨rfl, hb8⟩
        go_wp2_with fail
        refine (q8 _ hb8).mono ?_
        rintro e w' ⟨rfl, rfl⟩
        have hB8 := below_step hBr hb8
        clear q7 q8
        go_wp2_with fail
        refine (awake_any _ (hT.step hB8)).mono ?_
        rintro e w' ⟨rfl, hb3⟩
        go_wp2_with fail
        go_ret
        exact ⟨rfl, below_step hB8 hb3⟩
      · have hd0 : dmg N ks ≠ 0 := fun h => hnil (hbf.1 h)
        have hm0 : 0 < m := by rw [hm]; exact List.length_pos_iff.2 hnil
        have hne : (dmg N ks != 0) = true := by simpa using hd0
        rw [hne] at q7
        have hse : ¬ Sea (ks.foldl flp S) := fun h => hd0 (hchg.symm.trans h.2)
        have q8 := fun w' (hb : Below wr.heap.size wr w') => sealed_any _ N c6 _ w' (hTr.step hb) (hsA.below hb) hbA
        rw [seaB_no hse] at q8
        have hm1 : decide ((0 : Int) < (m : Int)) = true := by simp; omega
        clear hm hlM hsV hchg hbf hse hd0 hdm hA hV hkl hkn hks hne hnil
        go_wp2_with fail
        refine q7.mono ?_
        rintro e w8 ⟨rfl, hb8⟩
        go_wp2_with fail
        refine (q8 _ hb8).mono ?_
        rintro e w' ⟨rfl, rfl⟩
        have hB8 := below_step hBr hb8
        clear q7 q8
        go_wp2_with fail
        refine (awake_any _ (hT.step hB8)).mono ?_
        rintro e w' ⟨rfl, hb3⟩
        go_wp2_with fail
        go_ret
        exact ⟨rfl, below_step hB8 hb3⟩
end Go.Proofs.YtdaijbplbnkpeaaDoor
