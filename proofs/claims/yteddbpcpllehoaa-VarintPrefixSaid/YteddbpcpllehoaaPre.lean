/-
  The walk of the law VarintPrefix: for any two numbers it returns true; nothing that was there is changed.
-/
import Derived.Test.YteddbpcpllehoaaOne
namespace Go.Proofs.Yteddbpcpllehoaa
open Go.RowKit Go.Shelf

theorem vform_inj (x : Int) : ∀ y, vform x = vform y → x = y := by
  refine vform_ind (P := fun x => ∀ y, vform x = vform y → x = y) ?_ ?_ x
  · intro x h y hy
    rw [vform_lt h] at hy
    by_cases h2 : 128 ≤ y
    · rw [vform_ge h2] at hy
      exact absurd (List.cons.inj hy).2.symm (vform_ne _)
    · rw [vform_lt (by omega)] at hy
      exact (List.cons.inj hy).1
  · intro x h ih y hy
    rw [vform_ge h] at hy
    by_cases h2 : 128 ≤ y
    · rw [vform_ge h2] at hy
      have h1 := (List.cons.inj hy).1
      have h3 := ih _ (List.cons.inj hy).2
      omega
    · rw [vform_lt (x := y) (by omega)] at hy
      exact absurd (List.cons.inj hy).2 (vform_ne _)

/-- Of two numbers of one size the one whose form is greater, read from its last byte on, is greater. -/
theorem form_cmp (x : Int) : ∀ (y : Int) (k : Nat), vsize x = vsize y → k < vsize x → (∀ j, k < j → j < vsize x → (vform x)[j]?.getD 0 = (vform y)[j]?.getD 0) →
    (k = 0 ∨ (vform x)[k]?.getD 0 ≠ (vform y)[k]?.getD 0) → ((vform x)[k]?.getD 0 < (vform y)[k]?.getD 0 ↔ x < y) := by
  refine vform_ind (P := fun x => ∀ (y : Int) (k : Nat), vsize x = vsize y → k < vsize x → (∀ j, k < j → j < vsize x → (vform x)[j]?.getD 0 = (vform y)[j]?.getD 0) →
    (k = 0 ∨ (vform x)[k]?.getD 0 ≠ (vform y)[k]?.getD 0) → ((vform x)[k]?.getD 0 < (vform y)[k]?.getD 0 ↔ x < y)) ?_ ?_ x
  · intro x h y k hs hk _ _
    rw [vsize_lt h] at hs hk
    obtain rfl : k = 0 := by omega
    have hy : y < 128 := by
      by_cases h2 : 128 ≤ y
      · rw [vsize_ge h2] at hs; have := vsize_pos (y / 128); omega
      · omega
    rw [vform_lt h, vform_lt hy]
    simp
  · intro x h ih y k hs hk hj hn
    have h2 : 128 ≤ y := by
      by_cases h2 : 128 ≤ y
      · exact h2
      · rw [vsize_ge h, vsize_lt (by omega : y < 128)] at hs; have := vsize_pos (x / 128); omega
    rw [vsize_ge h, vsize_ge h2] at hs
    rw [vsize_ge h] at hk hj
    rw [vform_ge h, vform_ge h2] at hj hn ⊢
    cases k with
    | zero =>
      have ht : vform (x / 128) = vform (y / 128) := by
        apply List.ext_getElem?
        intro i
        by_cases hi : i < vsize (x / 128)
        · have := hj (i + 1) (by omega) (by omega)
          simp only [List.getElem?_cons_succ] at this
          have hi2 : i < (vform (x / 128)).length := hi
          have hi3 : i < (vform (y / 128)).length := by show i < vsize (y / 128); omega
          rw [List.getElem?_eq_getElem hi2, List.getElem?_eq_getElem hi3] at this ⊢
          simpa using this
        · rw [List.getElem?_eq_none (show (vform (x / 128)).length ≤ i from by show vsize (x / 128) ≤ i; omega), List.getElem?_eq_none (show (vform (y / 128)).length ≤ i from by show vsize (y / 128) ≤ i; omega)]
      have := vform_inj _ _ ht
      simp
      omega
    | succ k =>
      simp only [List.getElem?_cons_succ] at hn ⊢
      have hne : (vform (x / 128))[k]?.getD 0 ≠ (vform (y / 128))[k]?.getD 0 := hn.resolve_left (by omega)
      have := ih (y / 128) k (by omega) (by omega) (fun j h1 h2 => by
        have := hj (j + 1) (by omega) (by omega)
        simpa using this) (.inr hne)
      have hxy : x / 128 ≠ y / 128 := fun e => hne (by rw [e])
      rw [this]
      omega

theorem form_prefix {x y : Int} (hx0 : 0 ≤ x) (hx1 : x ≤ 18446744073709551615) (hy0 : 0 ≤ y) (hy1 : y ≤ 18446744073709551615) (hne : x ≠ y) : vform x ≠ (vform y).take (vform x).length := by
  intro h
  have e : vform y = vform x ++ (vform y).drop (vform x).length := by
    conv => lhs; rw [← List.take_append_drop (vform x).length (vform y), ← h]
  have h1 := vread_form x ((vform y).drop (vform x).length) hx0 hx1
  have h2 := vread_form y [] hy0 hy1
  rw [List.append_nil, e, h1] at h2
  simp only [Prod.mk.injEq] at h2
  exact hne h2.1

theorem Sl.at {k : IntKind} {w : World} {a : Option Addr} {len cap : Nat} {l : List Int} (h : Sl k w a len cap l) {i : Nat} (hi : i < len) : ∃ b off, a = some ⟨b, off, none⟩ ∧ w.cell? ⟨b, off + i, none⟩ = some (.int k (l[i]?.getD 0)) := by
  obtain ⟨_, _, _, h4⟩ := h
  rcases h4 with ⟨h5, _⟩ | ⟨b, off, ha, _, hc⟩
  · omega
  · exact ⟨b, off, ha, hc i hi⟩

set_option maxHeartbeats 1600000 in
theorem prefix_walk (w : World) (x y : Int) (wx : (Lit.int .u64 x).wf = true) (wy : (Lit.int .u64 y).wf = true) :
    Calls Try.prog 9 #[.int .u64 x, .int .u64 y] w fun e w' => e = .returned (.bool true) ∧ Below w.heap.size w w' := by
  obtain ⟨hx0, hx1⟩ := bounds_u64 wx
  obtain ⟨hy0, hy1⟩ := bounds_u64 wy
  clear wx wy
  have hxp := vform_pos x
  have hx10 : (vform x).length ≤ 10 := vsize_10 hx1
  have hyp := vform_pos y
  have hy10 : (vform y).length ≤ 10 := vsize_10 hy1
  go_enter Try.func9, Try.ntmps9
  go_wp2_with fail
  refine (awake_any w).mono ?_
  rintro e w1 ⟨rfl, hB1⟩
  go_wp2_with fail
  refine (write_any x w1 hx0 hx1).mono ?_
  rintro e w2 ⟨a, capa, rfl, hown2, hB2⟩
  go_wp2_with fail
  refine (write_any y w2 hy0 hy1).mono ?_
  rintro e w3 ⟨b, capb, rfl, hown3, hB3⟩
  have hsa := (own_sl hown2).below hB3
  have hsb := own_sl hown3
  have hcapa := hsa.2.1
  have hcapb := hsb.2.1
  have hma := hsa.2.2.1
  have hmb := hsb.2.2.1
  have hBB := (hB1.trans (hB2.mono hB1.size))
  have hBB3 := hBB.trans (hB3.mono hBB.size)
  clear hown2 hown3 hB1 hB2 hB3 hBB
  go_wp2_with fail
  go_loopw [20] (fun i wr => ∃ k : Nat, i = .int .i64 k ∧ k ≤ (vform x).length ∧ Below w3.heap.size w3 wr) (fun i _ => (vform x).length - (intOf i).toNat)
  case atStart => exact ⟨0, rfl, by omega, Below.refl _ _⟩
  case round =>
    obtain ⟨k, rfl, hk, hBr⟩ := hrel
    by_cases hlt : k < (vform x).length
    · have hres := readRes_eq (vread_cut x k hx0 hx1 hlt)
      have HRS := Lib.hid hres
      have hska := (hsa.below hBr).upto k (by omega)
      have hkI : (k : Int) < ((vform x).length : Int) := by omega
      have hkc : (k : Int) ≤ (capa : Int) := by omega
      have hbb := (Bytes.form hx0).take k
      clear hres
      go_wp2_with fail
      refine (read_any a k capa _ wr hska hbb).mono ?_
      rw [HRS.out]
      rintro e w4 ⟨rfl, hB4⟩
      have hBr4 := hBr.trans (hB4.mono hBr.size)
      clear hska hB4 hBr hbb
      go_wp2_with fail
      go_roundw
      case rel => exact ⟨k + 1, by go_num, by omega, hBr4⟩
      case measure => simp [intOf]; omega
    · obtain rfl : k = (vform x).length := by omega
      have hsa4 := hsa.below hBr
      have hsb4 := hsb.below hBr
      have hBB4 := hBB3.trans (hBr.mono hBB3.size)
      clear hsa hsb hBB3 hBr
      have hmx := vsize_mono x y
      have hmy := vsize_mono y x
      unfold vsize at hmx hmy
      rcases Nat.lt_trichotomy (vform x).length (vform y).length with hAB | hAB | hAB
      · have hxy : x < y := by
          rcases Int.lt_or_le x y with h | h
          · exact h
          · have := hmy h; omega
        have hne : (x != y) = true := by simp; omega
        have HP := Lib.hid (form_prefix hx0 hx1 hy0 hy1 (by omega))
        have hpb := hsb4.upto (vform x).length (by omega)
        have hAI : ((vform x).length : Int) < ((vform y).length : Int) := by omega
        have hAne : (((vform x).length : Int) != ((vform y).length : Int)) = true := by simp; omega
        have hAc : ((vform x).length : Int) ≤ (capb : Int) := by omega
        clear hmx hmy
        go_wp2_with fail
        refine (sameBytes_no wr _ _ _ _ _ _ _ _ hsa4 hpb HP.out).mono ?_
        rintro e w5 ⟨rfl, hD⟩
        have hBB5 := hBB4.trans (hD.below.mono hBB4.size)
        clear hsa4 hsb4 hpb hD hBB4
        go_wp2_with fail
        go_ret
        exact ⟨rfl, hBB5⟩
      · have hAne : (((vform x).length : Int) != ((vform y).length : Int)) = false := by simp; omega
        have hAI : ((vform x).length : Int) ≤ ((vform y).length : Int) := by omega
        have hAI2 : ((vform y).length : Int) ≤ ((vform x).length : Int) := by omega
        have hAc : ((vform x).length : Int) ≤ (capb : Int) := by omega
        have HCMP := Lib.hid (form_cmp x y)
        have HAB := Lib.hid hAB
        clear hmx hmy hAB
        by_cases hxy : x = y
        have hne : (x != y) = false := by simp; exact hxy
        have hBB5 := hBB4
        have hsa5 := hsa4
        have hsb5 := hsb4
        have HXY := Lib.hid hxy
        clear hxy hsa4 hsb4 hBB4
        go_wp2_with fail
        rotate_left
        have hne : (x != y) = true := by simp; omega
        have HP := Lib.hid (form_prefix hx0 hx1 hy0 hy1 hxy)
        have hpb := hsb4.upto (vform x).length (by omega)
        go_wp2_with fail
        refine (sameBytes_no wr _ _ _ _ _ _ _ _ hsa4 hpb HP.out).mono ?_
        rintro e w5 ⟨rfl, hD⟩
        have hBB5 := hBB4.trans (hD.below.mono hBB4.size)
        have hsa5 := hsa4.below hD.below
        have hsb5 := hsb4.below hD.below
        have HXY := Lib.hid hxy
        clear hxy hsa4 hsb4 hpb hD hBB4 HP
        go_wp2_with fail
        all_goals
          go_loopw [11] (fun i wr => ∃ k : Nat, i = .int .i64 k ∧ k < (vform x).length ∧ Aside (∀ j, k < j → j < (vform x).length → (vform x)[j]?.getD 0 = (vform y)[j]?.getD 0) ∧ Below w.heap.size w wr ∧ Sl .u8 wr a (vform x).length capa (vform x) ∧ Sl .u8 wr b (vform y).length capb (vform y)) (fun i _ => (intOf i).toNat)
          case atStart => exact ⟨(vform x).length - 1, by go_num, by omega, fun j h1 h2 => by omega, hBB5, hsa5, hsb5⟩
          case round =>
            obtain ⟨k, rfl, hk, hall, hBk, hsak, hsbk⟩ := hrel
            have hkA : (k : Int) < ((vform x).length : Int) := by omega
            have hkB : (k : Int) < ((vform y).length : Int) := by omega
            have hka := Sl.at hsak hk
            have hkb := Sl.at hsbk (show k < (vform y).length by omega)
            obtain ⟨ba, oa, rfl, eca⟩ := hka
            obtain ⟨bb, ob, rfl, ecb⟩ := hkb
            obtain ⟨p, hp⟩ : ∃ p, p = (vform x)[k]?.getD 0 := ⟨_, rfl⟩
            obtain ⟨q, hq⟩ : ∃ q, q = (vform y)[k]?.getD 0 := ⟨_, rfl⟩
            rw [← hp] at eca
            rw [← hq] at ecb
            have HPQ := Lib.hid (And.intro hp hq)
            clear hp hq
            have hk0' : decide ((k : Int) < 0) = false := by simp
            have HS := Lib.hid (And.intro hsak hsbk)
            clear hsa5 hsb5 hsak hsbk
            by_cases hk0 : k = 0
            · have hkd : decide (0 < k) = false := by simp; omega
              have hc := HCMP.out k HAB.out hk hall.out (.inl hk0)
              rw [← HPQ.out.1, ← HPQ.out.2] at hc
              have hcb : (decide (p < q) == decide (x < y)) = true := by simp only [hc, beq_self_eq_true]
              clear hk0 hc
              go_wp2_with fail
              go_quiet (fail)
              go_wp2_with fail
              go_quiet (fail)
              go_wp2_with fail
              go_ret
              exact ⟨rfl, below_drewN (below_drewN hBk _) _⟩
            · have hkd : decide (0 < k) = true := by simp; omega
              have hk1 : (1 : Int) ≤ (k : Int) := by omega
              by_cases hab : p = q
              · have hbq : (p == q) = true := by simp; exact hab
                have HEQ := Lib.hid hab
                clear hab hk0
                go_wp2_with fail
                go_quiet (fail)
                go_wp2_with fail
                go_roundw
                case rel =>
                  refine ⟨k - 1, by go_num, by omega, fun j h1 h2 => ?_, below_drewN hBk _, HS.out.1.below (below_drewN (Below.refl _ _) _), HS.out.2.below (below_drewN (Below.refl _ _) _)⟩
                  by_cases hjk : j = k
                  · subst hjk; rw [← HPQ.out.1, ← HPQ.out.2]; exact HEQ.out
                  · exact hall.out j (by omega) h2
                case measure => simp [intOf]; omega
              · have hbq : (p == q) = false := by simp; exact hab
                have hc := HCMP.out k HAB.out hk hall.out (.inr (by rw [← HPQ.out.1, ← HPQ.out.2]; exact hab))
                rw [← HPQ.out.1, ← HPQ.out.2] at hc
                have hcb : (decide (p < q) == decide (x < y)) = true := by simp only [hc, beq_self_eq_true]
                clear hk0 hc hab
                go_wp2_with fail
                go_quiet (fail)
                go_wp2_with fail
                go_quiet (fail)
                go_wp2_with fail
                go_ret
                exact ⟨rfl, below_drewN (below_drewN hBk _) _⟩
      · have hxy : y < x := by
          rcases Int.lt_or_le y x with h | h
          · exact h
          · have := hmx h; omega
        have hAI : ((vform y).length : Int) < ((vform x).length : Int) := by omega
        have hAne : (((vform x).length : Int) != ((vform y).length : Int)) = true := by simp; omega
        clear hmx hmy
        go_wp2_with fail
        go_ret
        exact ⟨rfl, hBB4⟩
end Go.Proofs.Yteddbpcpllehoaa
