/-
  The walk of the law CrcFacts. Where the table of the halves lies as the program's text lays it.
-/
import Derived.Test.YtdaijbplbnkpeaaDoorSro
import Derived.Test.YtdaijbplbnkpeaaDoorFcp
namespace Go.Proofs.YtdaijbplbnkpeaaDoor
open Go.RowKit Go.Shelf

theorem infoU32 : (Tryd.prog.info? 23).map (fun i => (i.zero, i.size, i.bytes)) = some (some (.int .u32 0), 1, 4) := by kernel_rfl
theorem one_oneU (x : Int) : ∀ u ∈ [Value.int .u32 x], u.oneCell' = true := by
  intro u hu; simp at hu; subst hu; rfl
theorem bits32_and1 (a : Nat) (ha : a < 4294967296) : bits .and .u32 (a : Int) 1 = ((a % 2 : Nat) : Int) := by
  have h1 : (BitVec.ofInt 32 (a : Int)).toNat = a := by
    rw [BitVec.ofInt_natCast, BitVec.toNat_ofNat]; exact Nat.mod_eq_of_lt (by omega)
  have h2 : (BitVec.ofInt 32 (1 : Int)).toNat = 1 := by decide
  show IntKind.u32.wrap ((BitVec.ofInt 32 (a : Int) &&& BitVec.ofInt 32 1).toNat : Int) = _
  rw [BitVec.toNat_and, h1, h2, IntKind.wrap_u32']
  have := Nat.and_two_pow_sub_one_eq_mod a 1
  simp only [show (2 : Nat) ^ 1 - 1 = 1 from rfl, show (2 : Nat) ^ 1 = 2 from rfl] at this
  rw [this]; omega
/-- The row that was collected is a row that is sorted. -/
theorem row_of {base n : Nat} {w : World} {v : Value} {M : List Int} (h : w.ownsRow base 23 1 v n (M.map (Value.int .u32))) (h0 : 0 < n) : ∃ g c, v = .slice (some ⟨g, 0, none⟩) n c ∧ Rw base g n c w M := by
  rcases h.2 with ⟨_, hn⟩ | ⟨g, cap, cur, hv, _⟩
  · omega
  · subst hv; exact ⟨g, cap, rfl, h⟩

set_option maxRecDepth 100000 in
set_option maxHeartbeats 4000000 in
theorem facts_walk (W : World) (hT : Tab W) : Calls Tryd.prog 10 #[] W fun e w' => e = .returned (.bool true) ∧ Below W.heap.size W w' := by
  obtain ⟨i0, hinf, hz0, hz1, hz2⟩ := info_parts infoU32
  have qb : ∀ (w : World) (k : Nat), k < 32768 → _ := fun w k hk => bit_any 4096 k w (by omega) (by omega)
  simp only [show ((4096 : Nat) : Int) = 4096 from rfl] at qb
  have q0 := qb W 32767 (by omega)
  rw [show ((32767 : Nat) : Int) = 32767 from rfl, show prt 4096 32767 = hn 1 1 from rfl] at q0
  have QB := Lib.hid qb
  obtain ⟨d, hd⟩ : ∃ d, d = hn 1 1 := ⟨_, rfl⟩
  rw [← hd] at q0
  have hdl : d < 4294967296 := by rw [hd]; exact hn_lt _ (by decide)
  have HD := Lib.hid hd
  clear qb hd
  go_enter Tryd.func10, Tryd.ntmps10
  go_wp2_with fail
  refine q0.mono ?_
  rintro e w1 ⟨rfl, hB⟩
  clear q0
  go_wp2_with fail
  go_loopw [1, 4, 5] (fun V C K wr => ∃ m c : Nat, m ≤ 32768 ∧ K = .int .i64 (32767 - (m : Int)) ∧ C = .int .u32 (c : Int) ∧ c = hn (m + 1) 1 ∧ wr.ownsRow W.heap.size 23 1 V m ((pl m).map (Value.int .u32)) ∧ Below W.heap.size W wr) (fun _ _ K _ => (intOf K + 1).toNat)
  case atStart => exact ⟨0, d, by omega, by go_num, rfl, HD.out, World.ownsRow_nil _ _ _ _, hB⟩
  case round =>
    clear hB
    obtain ⟨m, c, hm, rfl, rfl, hc, hown, hB⟩ := hrel
    have hcl : c < 4294967296 := by rw [hc]; exact hn_lt _ (by decide)
    by_cases hlt : m < 32768
    · have hc0 : c ≠ 0 := by rw [hc]; exact hn_one_ne _
      have hce : ((c : Int) == 0) = false := by simpa using hc0
      have hcd : decide ((c : Int) = 0) = false := by simpa using hc0
      have hnx : hs c = hn (m + 2) 1 := by rw [hc]; exact hs_hn m
      obtain ⟨k, hk⟩ : ∃ k : Nat, (k : Int) = 32767 - (m : Int) := ⟨32767 - m, by omega⟩
      have hk2 : 32768 - k = m + 1 := by omega
      have hkl : k < 32768 := by omega
      have qk : ∀ w, _ := fun w => QB.out w k hkl
      simp only [prt_hn, hk2, ← hc] at qk
      have HC := Lib.hid hc
      have HN := Lib.hid hnx
      have HK := Lib.hid hk
      have hk1 : (k : Int) - 1 = 32767 - ((m + 1 : Nat) : Int) := by omega
      have HK1 := Lib.hid hk1
      rw [← hk]
      clear hk hk2 hc hnx hk1
      have hkd : decide ((0 : Int) ≤ (k : Int)) = true := by simp
      have hpl : pl (m + 1) = pl m ++ [(c : Int)] := by rw [pl_succ, ← HC.out]
      have HPL := Lib.hid hpl
      clear hpl
      have hsz := hB.size
      obtain ⟨R, hR⟩ : ∃ R : Int, R = ((k % 64 : Nat) : Int) := ⟨_, rfl⟩
      have hR1 : (k : Int) % 64 = R := by omega
      have hR2 : (k : Int).tmod 64 = R := by rw [Int.tmod_eq_emod_of_nonneg (by omega)]; omega
      have hR3 : wrap64 R = R := by unfold wrap64; omega
      clear hR
      obtain ⟨a, cap, rfl⟩ := own_shape hown
      obtain ⟨w2, hw2⟩ : ∃ wz, wz = wr := ⟨_, rfl⟩
      subst hw2
      by_cases hRz : R = 0
      · subst hRz
        go_wp2_with fail
        refine (qk _).mono ?_
        rintro e w3 ⟨rfl, hb3⟩
        replace hown := ownsRow_below hown hb3
        replace hB := below_step hB hb3
        clear hb3 qk hsz
        have hsz := hB.size
        go_wp2_with (at_builtin; refine wpList_append_own _ rfl (.tmp 40) (.tmp 42) 52 rfl W.heap.size 23 i0 (.int .u32 0) 1 4 Tryd.underlying52 hinf hz0 hz1 hz2 rfl (by decide) _ _ _ rfl (hown.alloc _) ⟨w3.heap.size, 0, none⟩ 1 1 [.int .u32 (c : Int)] rfl rfl ?d1 ?d2 ?d3 ?d4 ?d5 ?_)
        case d1 => exact one_cell _ _ _ _
        case d2 => exact one_oneU _
        case d3 => unfold maxLen; omega
        case d4 => omega
        case d5 => simp; omega
        intro v' w5 hown' hgrow _
        have hBn : Below W.heap.size W w5 := (hB.alloc hsz _).grown hgrow (by simp; omega) (fun k hk => (hown.lt k hk).1)
        have hown2 : w5.ownsRow W.heap.size 23 1 v' (m + 1) ((pl (m + 1)).map (Value.int .u32)) := by
          rw [HPL.out]; simpa using hown'
        clear hown' hgrow hown hB hsz
        by_cases hodd : c % 2 = 1
        · have ha : bits .and .u32 (c : Int) 1 = 1 := by rw [bits32_and1 c hcl, hodd]; rfl
          have hx : bits .xor .u32 ((c : Int) / 2) 3988292384 = ((hs c : Nat) : Int) :=
            (bits32_xor (c / 2) 3988292384 (by omega) (by omega) ((c : Int) / 2) 3988292384 (by omega) rfl).trans (by unfold hs; rw [if_pos hodd])
          rw [HN.out] at hx
          clear hodd
          go_wp2_with fail
          go_roundw
          case rel => exact ⟨m + 1, hn (m + 2) 1, by omega, by rw [← HK1.out], rfl, rfl, hown2, hBn⟩
          case measure => have := HK.out; simp [intOf]
        · have ha : bits .and .u32 (c : Int) 1 = 0 := by rw [bits32_and1 c hcl, show c % 2 = 0 from by omega]; rfl
          have hx : (c : Int) / 2 = ((hn (m + 2) 1 : Nat) : Int) := by
            rw [← HN.out]; unfold hs; rw [if_neg hodd]; omega
          have HX := Lib.hid hx
          clear hodd hx
          go_wp2_with fail
          go_roundw
          case rel => exact ⟨m + 1, hn (m + 2) 1, by omega, by rw [← HK1.out], by rw [← HX.out], rfl, hown2, hBn⟩
          case measure => have := HK.out; simp [intOf]
      · have hRe : (R == 0) = false := by simpa using hRz
        have hRd : decide (R = 0) = false := by simpa using hRz
        clear qk hsz
        have hsz := hB.size
        go_wp2_with (at_builtin; refine wpList_append_own _ rfl (.tmp 40) (.tmp 42) 52 rfl W.heap.size 23 i0 (.int .u32 0) 1 4 Tryd.underlying52 hinf hz0 hz1 hz2 rfl (by decide) _ _ _ rfl (hown.alloc _) ⟨w2.heap.size, 0, none⟩ 1 1 [.int .u32 (c : Int)] rfl rfl ?d1 ?d2 ?d3 ?d4 ?d5 ?_)
        case d1 => exact one_cell _ _ _ _
        case d2 => exact one_oneU _
        case d3 => unfold maxLen; omega
        case d4 => omega
        case d5 => simp; omega
        intro v' w5 hown' hgrow _
        have hBn : Below W.heap.size W w5 := (hB.alloc hsz _).grown hgrow (by simp; omega) (fun k hk => (hown.lt k hk).1)
        have hown2 : w5.ownsRow W.heap.size 23 1 v' (m + 1) ((pl (m + 1)).map (Value.int .u32)) := by
          rw [HPL.out]; simpa using hown'
        clear hown' hgrow hown hB hsz
        by_cases hodd : c % 2 = 1
        · have ha : bits .and .u32 (c : Int) 1 = 1 := by rw [bits32_and1 c hcl, hodd]; rfl
          have hx : bits .xor .u32 ((c : Int) / 2) 3988292384 = ((hs c : Nat) : Int) :=
            (bits32_xor (c / 2) 3988292384 (by omega) (by omega) ((c : Int) / 2) 3988292384 (by omega) rfl).trans (by unfold hs; rw [if_pos hodd])
          rw [HN.out] at hx
          clear hodd
          go_wp2_with fail
          go_roundw
          case rel => exact ⟨m + 1, hn (m + 2) 1, by omega, by rw [← HK1.out], rfl, rfl, hown2, hBn⟩
          case measure => have := HK.out; simp [intOf]
        · have ha : bits .and .u32 (c : Int) 1 = 0 := by rw [bits32_and1 c hcl, show c % 2 = 0 from by omega]; rfl
          have hx : (c : Int) / 2 = ((hn (m + 2) 1 : Nat) : Int) := by
            rw [← HN.out]; unfold hs; rw [if_neg hodd]; omega
          have HX := Lib.hid hx
          clear hodd hx
          go_wp2_with fail
          go_roundw
          case rel => exact ⟨m + 1, hn (m + 2) 1, by omega, by rw [← HK1.out], by rw [← HX.out], rfl, hown2, hBn⟩
          case measure => have := HK.out; simp [intOf]
    · obtain ⟨N, hN⟩ : ∃ N, N = m := ⟨_, rfl⟩
      have hm2 : m = 32768 := by omega
      obtain ⟨K, hK⟩ : ∃ K : Int, K = 32767 - (m : Int) := ⟨_, rfl⟩
      have hK1 : K = -1 := by omega
      have hkd : decide ((0 : Int) ≤ K) = false := by simp; omega
      have hNl : N ≤ 4294967296 ∧ 0 < N ∧ N < 40000 := by omega
      have HM := Lib.hid (hN.trans hm2)
      have HPM := Lib.hid (show pl N = pl 32768 from by rw [hN, hm2])
      rw [← hK]
      rw [← hN] at hown
      clear hK hK1 hm2 hN hlt hc
      obtain ⟨g, cp, rfl, hR⟩ := row_of hown hNl.2.1
      clear hown
      go_wp2_with fail
      refine (sort_any W.heap.size g N cp (pl N) _ hR hNl.1).mono ?_
      rintro e w3 ⟨⟨v, rfl⟩, M, hP, hR, hB3⟩
      replace hB := hB.trans hB3
      clear hB3
      have hT3 := hT.below hB (by have := hT.1; omega)
      have HP := Lib.hid (show M.Perm (pl 32768) from by rw [← HPM.out]; exact hP)
      clear hP
      go_wp2_with fail
      go_loopw [56] (fun I wr => ∃ i : Nat, i ≤ N ∧ I = .int .i64 (i : Int) ∧ wr = w3) (fun I _ => N - (intOf I).toNat)
      case atStart => exact ⟨0, by omega, rfl, rfl⟩
      case round =>
        obtain ⟨i, hiN, rfl, rfl⟩ := hrel
        by_cases hlt : i < N
        · have hd : decide ((i : Int) < (N : Int)) = true := by simp; omega
          have hdn : decide (i < N) = true := by simp; omega
          have i1 : (i : Int) < (N : Int) := by omega
          have hi3 : i < 32768 := by have := HM.out; omega
          obtain ⟨e, hel, hev, hne⟩ := perm_at HP.out hi3
          have cE := hR.at hlt
          rw [hev] at cE
          have hxe : bits .xor .u32 (e : Int) (d : Int) = ((e ^^^ d : Nat) : Int) := bits32_xor e d hel hdl _ _ rfl rfl
          obtain ⟨x, hx⟩ : ∃ x, x = e ^^^ d := ⟨_, rfl⟩
          rw [← hx] at hxe
          have hne2 : ((x : Nat) : Int) ∉ M := by rw [hx, HD.out]; exact hne
          have HNE := Lib.hid hne2
          have qs := bin_any W.heap.size g N cp (x : Int) M wr hR hNl.1
          by_cases hi0 : 0 < i
          · have hd0 : decide ((0 : Int) < (i : Int)) = true := by simp; omega
            have hd0n : decide (0 < i) = true := by simp; omega
            obtain ⟨ip, hip⟩ : ∃ p : Nat, p = i - 1 := ⟨_, rfl⟩
            have eip : (i : Int) - 1 = (ip : Int) := by omega
            have i2 : (ip : Int) < (N : Int) := by omega
            have cF := hR.at (j := ip) (by omega)
            have hdf : M[ip]?.getD 0 ≠ (e : Int) := by rw [← hev]; exact perm_differ HP.out (by omega) hi3
            obtain ⟨f, hf⟩ : ∃ f, f = M[ip]?.getD 0 := ⟨_, rfl⟩
            rw [← hf] at cF hdf
            have hfe : (f == (e : Int)) = false := by simpa using hdf
            have hfd : decide (f = (e : Int)) = false := by simpa using hdf
            clear hf hip hx hev hne hne2
            go_wp2_with fail
            refine qs.mono ?_
            rintro r w4 ⟨j, fl, rfl, hfl, hw⟩
            rw [← hw]
            obtain rfl : fl = false := by
              cases fl with
              | false => rfl
              | true => exact absurd (hfl rfl) HNE.out
            clear hfl hw qs
            go_wp2_with fail
            go_roundw
            case rel => exact ⟨i + 1, by omega, by go_num, trivial⟩
            case measure => simp [intOf]; omega
          · have hd0 : decide ((0 : Int) < (i : Int)) = false := by simp; omega
            have hd0n : decide (0 < i) = false := by simp; omega
            clear hx hev hne hne2
            go_wp2_with fail
            refine qs.mono ?_
            rintro r w4 ⟨j, fl, rfl, hfl, hw⟩
            rw [← hw]
            obtain rfl : fl = false := by
              cases fl with
              | false => rfl
              | true => exact absurd (hfl rfl) HNE.out
            clear hfl hw qs
            go_wp2_with fail
            go_roundw
            case rel => exact ⟨i + 1, by omega, by go_num, trivial⟩
            case measure => simp [intOf]; omega
        · have hd : decide ((i : Int) < (N : Int)) = false := by simp; omega
          have hdn : decide (i < N) = false := by simp; omega
          go_wp2_with fail
          refine (awake_any _ hT3).mono ?_
          rintro r w4 ⟨rfl, hb4⟩
          go_wp2_with fail
          go_ret
          exact ⟨rfl, below_step hB hb4⟩
end Go.Proofs.YtdaijbplbnkpeaaDoor
