/-
  The contracts of the reference's Order and Irreducible, and the walk of the law on orders. No condition but those in each statement.
-/
import Derived.Test.YtjajojdlgpmpfaaDoorRft
import Derived.Test.YtjajojdlgpmpfaaDoorFer
namespace Go.Proofs.YtjajojdlgpmpfaaDoor
open Go.RowKit Go.Shelf

theorem ord_bit {a D m : Nat} (hD : bl m = D + 1) (h : bl a < bl m) : decide (a * 2 / 2 ^ D % 2 = 1) = decide (bl (2 * a) = bl m) := by
  have hlt : a < 2 ^ D := bl_le.1 (by omega)
  have h2 : a * 2 < 2 ^ (D + 1) := by rw [Nat.pow_succ]; omega
  have hp := Nat.two_pow_pos D
  have h3 : a * 2 / 2 ^ D < 2 := by rw [Nat.div_lt_iff_lt_mul hp]; rw [Nat.pow_succ] at h2; omega
  have hle : bl (2 * a) ≤ D + 1 := bl_le.2 (by omega)
  rw [decide_eq_decide]
  constructor
  · intro hh
    have h4 : 2 ^ D ≤ 2 * a := by
      have : 1 ≤ a * 2 / 2 ^ D := by
        generalize a * 2 / 2 ^ D = X at hh
        omega
      rw [Nat.le_div_iff_mul_le hp] at this; omega
    have := lt_bl.2 h4; omega
  · intro hh
    have h4 : 2 ^ D ≤ 2 * a := lt_bl.1 (by omega)
    have : 1 ≤ a * 2 / 2 ^ D := by rw [Nat.le_div_iff_mul_le hp]; omega
    generalize a * 2 / 2 ^ D = X at this h3 ⊢
    omega
theorem bit_forms2 (a k : Nat) (b : Bool) (h : decide (a * 2 / 2 ^ k % 2 = 1) = b) : ((a : Int) * 2 / 2 ^ k % 2 == 1) = b ∧ (((a : Int) * 2 / 2 ^ k).tmod 2 == 1) = b := by
  have := bit_forms (a * 2) k b h
  rwa [show ((a * 2 : Nat) : Int) = (a : Int) * 2 from by omega] at this

set_option maxRecDepth 100000 in
set_option maxHeartbeats 2000000 in
theorem rorder_any (w : World) (m K : Nat) (h1 : 2 ≤ bl m) (h2 : bl m ≤ 21) (ho : m % 2 = 1) (hK : IsOrd m K) (hK2 : K ≤ 2 ^ (bl m - 1)) :
    Calls Tryd.prog 36 #[.int .u64 (m : Int)] w fun e w' => e = .returned (.tuple #[.int .i64 (K : Int), .int .i64 0]) ∧ Below w.heap.size w w' := by
  have hm : m < 18446744073709551616 := (bl_le (k := 64)).1 (by omega)
  have hm0 : m ≠ 0 := by omega
  have hKb : K ≤ 1048576 := by
    have : 2 ^ (bl m - 1) ≤ 2 ^ 20 := Nat.pow_le_pow_right (by omega) (by omega)
    omega
  obtain ⟨D, hD⟩ : ∃ D, bl m = D + 1 := ⟨bl m - 1, by omega⟩
  have hodd : ((m : Int) % 2 == 0) = false := by simp; omega
  have hone := pm_one_big h1
  have hD1 : 1 ≤ D := by omega
  have hD20 : D ≤ 20 := by omega
  have hd1 : decide ((D : Int) < 1) = false := by simp; omega
  have hd2 : decide (20 < (D : Int)) = false := by simp; omega
  have HK := Lib.hid hK
  have HO := Lib.hid hone
  have HD := Lib.hid hD
  have hof := of_any w m hm
  unfold GivesP at hof
  rw [hD] at hof
  have hpw : ∀ w : World, Calls Tryd.prog 34 #[.int .i64 0, .int .u64 (m : Int)] w fun e w' => (∃ r : Nat, r = pm (2 ^ 0) m ∧ e = .returned (.tuple #[.int .u64 (r : Int), .int .i64 0])) ∧ Below w.heap.size w w' := fun w => rpower_any w 0 m (by omega) hm hm0
  clear hK hone hK2 ho h1 h2 hD
  go_enter Tryd.func36, Tryd.ntmps36
  go_wp2_with fail
  (with_reducible refine hof.mono ?_)
  rintro e w1 ⟨a1, c1, rfl, hA, hB1⟩
  clear hA hof
  go_wp2_with fail
  (with_reducible refine (hpw _).mono ?_)
  rintro e w2 ⟨⟨r, hr, rfl⟩, hB2⟩
  rw [Nat.pow_zero, HO.out] at hr
  subst hr
  have hb2 := below_step hB1 hB2
  clear hB1 hB2 hpw
  go_wp2_with fail
  go_loop [7, 8] (fun at' n => ∃ (k a : Nat), 1 ≤ k ∧ k ≤ K ∧ n = .int .i64 (k : Int) ∧ at' = .int .u64 (a : Int) ∧ a = pm (2 ^ (k - 1)) m) (fun _ n => K + 1 - (intOf n).toNat)
  case atStart => exact ⟨1, 1, Nat.le_refl _, HK.out.1, rfl, rfl, by rw [Nat.sub_self, Nat.pow_zero, HO.out]⟩
  case round =>
    obtain ⟨k, a, hk1, hkK, rfl, rfl, ha⟩ := hrel
    have hab : bl a < bl m := by rw [ha]; exact pm_bl _ hm0
    have hbit := ord_bit HD.out hab
    have hdbl := pm_dbl hab hm0
    have hnx : pm (2 * a) m = pm (2 ^ k) m := by rw [ha, pw_next hm0, show k - 1 + 1 = k from by omega]
    have ha20 : a < 1048576 := by
      have h5 : a < 2 ^ D := bl_le.1 (by have := HD.out; omega)
      have : 2 ^ D ≤ 2 ^ 20 := Nat.pow_le_pow_right (by omega) hD20
      omega
    have hend : (pm (2 * a) m = 1) ↔ k = K := by
      rw [hnx]
      constructor
      · intro hh
        by_cases he : k = K
        · exact he
        · exact absurd (by rw [hh, HO.out]) (HK.out.2.2 k hk1 (by omega))
      · intro hh
        rw [hh, HK.out.2.1, HO.out]
    clear ha
    by_cases hq : bl (2 * a) = bl m
    · obtain ⟨f1, f2⟩ := bit_forms2 a D true (by rw [hbit]; simpa using hq)
      rw [if_pos hq] at hdbl
      have hxo := xor_u64 (2 * a) m (by omega) hm ((a : Int) * 2) m (by omega) rfl
      rw [← hdbl] at hxo
      obtain ⟨b, hb⟩ : ∃ b, b = pm (2 * a) m := ⟨_, rfl⟩
      rw [← hb] at hxo hnx hend
      clear hq hdbl hbit hab hb
      by_cases he : k = K
      · have hb1 := hend.2 he
        subst hb1
        have HE := Lib.hid he
        clear he hend hnx
        go_wp2_with fail
        go_ret2
        exact ⟨by rw [← HE.out]; rfl, hb2⟩
      · have hv : ((b : Int) == 1) = false := by simp; exact fun h => he (hend.1 (by omega))
        have HN := Lib.hid hnx
        have HL : k + 1 ≤ K := by omega
        clear he hend hnx
        go_wp2_with fail
        go_round
        case rel => exact ⟨k + 1, b, by omega, HL, by go_num, rfl, HN.out⟩
        case measure => simp [intOf]; omega
    · obtain ⟨f1, f2⟩ := bit_forms2 a D false (by rw [hbit]; simpa using hq)
      rw [if_neg hq] at hdbl
      have hxo : (a : Int) * 2 = ((pm (2 * a) m : Nat) : Int) := by rw [hdbl]; omega
      obtain ⟨b, hb⟩ : ∃ b, b = pm (2 * a) m := ⟨_, rfl⟩
      rw [← hb] at hxo hnx hend
      rw [hxo] at f1 f2
      clear hq hdbl hbit hab hb
      by_cases he : k = K
      · have hb1 := hend.2 he
        subst hb1
        have HE := Lib.hid he
        clear he hend hnx
        go_wp2_with fail
        all_goals (go_ret2; exact ⟨by rw [← HE.out]; rfl, hb2⟩)
      · have hv : ((b : Int) == 1) = false := by simp; exact fun h => he (hend.1 (by omega))
        have HN := Lib.hid hnx
        have HL : k + 1 ≤ K := by omega
        clear he hend hnx
        go_wp2_with fail
        go_round
        case rel => exact ⟨k + 1, b, by omega, HL, by go_num, rfl, HN.out⟩
        case measure => simp [intOf]; omega

/-- Looked through from 2 on, up to half of the degree. -/
theorem irr_trial {p : Nat} (h2 : 2 ≤ bl p) (h : ∀ c, 2 ≤ c → bl c - 1 ≤ (bl p - 1) / 2 → ¬ Dv c p) : Irr p := by
  refine ⟨h2, fun a b hab => ?_⟩
  by_cases ha1 : a = 1
  · exact .inl ha1
  by_cases hb1 : b = 1
  · exact .inr hb1
  exfalso
  have hp0 : p ≠ 0 := fun e => by subst e; simp at h2
  have ha0 : a ≠ 0 := fun e => by subst e; simp at hab; exact hp0 hab
  have hb0 : b ≠ 0 := fun e => by subst e; simp at hab; exact hp0 hab
  have hl := (bl_cm ha0 hb0).1
  rw [← hab] at hl
  by_cases hc : bl a ≤ bl b
  · exact h a (by omega) (by omega) (by rw [hab]; exact Dv.self_right a b)
  · exact h b (by omega) (by omega) (by rw [hab]; exact Dv.self_left b a)
theorem irr_found {p c : Nat} (h2 : 2 ≤ bl p) (hc : 2 ≤ c) (hl : bl c - 1 ≤ (bl p - 1) / 2) (hd : Dv c p) : ¬ Irr p := fun hi => by
  rcases hi.dv hd with h | h
  · omega
  · subst h; omega

set_option maxRecDepth 100000 in
set_option maxHeartbeats 2000000 in
theorem rirr_any (w : World) (p : Nat) (hl : bl p ≤ 17) :
    Calls Tryd.prog 37 #[.int .u64 (p : Int)] w fun e w' => (∃ b : Bool, b = irB p ∧ e = .returned (.bool b)) ∧ Below w.heap.size w w' := by
  have hp : p < 18446744073709551616 := (bl_le (k := 64)).1 (by omega)
  have hof := of_any w p hp
  unfold GivesP at hof
  by_cases hlow : bl p ≤ 1
  · have hd1 : decide ((bl p : Int) - 1 < 1) = true := by simp; omega
    have hf : irB p = false := by unfold irB; rw [decide_eq_false (by omega)]; rfl
    rw [hf]
    clear hf
    go_enter Tryd.func37, Tryd.ntmps37
    go_wp2_with fail
    (with_reducible refine hof.mono ?_)
    rintro e w1 ⟨a1, c1, rfl, hA, hB1⟩
    clear hA hof
    go_wp2_with fail
    go_ret
    exact ⟨⟨false, rfl, rfl⟩, hB1⟩
  · have h2 : 2 ≤ bl p := by omega
    have hp0 : p ≠ 0 := fun e => by subst e; simp at h2
    obtain ⟨D, hD⟩ : ∃ D, bl p = D + 1 := ⟨bl p - 1, by omega⟩
    rw [hD] at hof
    obtain ⟨H, hH⟩ : ∃ H, H = D / 2 := ⟨_, rfl⟩
    have hHi : (D : Int) / 2 = (H : Int) := by omega
    have hD1 : decide ((D : Int) < 1) = false := by simp; omega
    have hH8 : H ≤ 8 := by omega
    have hDpos : 1 ≤ D := by omega
    have hD16 : D ≤ 16 := by omega
    have hpow : 2 ^ (H + 1) ≤ 2 ^ 9 := Nat.pow_le_pow_right (by omega) (by omega)
    have hyes : (∀ c, 2 ≤ c → c < 2 ^ (H + 1) → ¬ Dv c p) → irB p = true := fun h => irB_of_irr (irr_trial h2 fun c hc hb => h c hc (bl_le.1 (by omega)))
    have hno : ∀ c, 2 ≤ c → c < 2 ^ (H + 1) → Dv c p → irB p = false := fun c hc hb hd => by
      refine Bool.eq_false_iff.2 fun hh => irr_found h2 hc ?_ hd (irr_of_irB hh)
      have := bl_le.2 hb; omega
    have HY := Lib.hid hyes
    have HN := Lib.hid hno
    have HI := Lib.hid hHi
    clear hyes hno hD hlow h2 hH hHi
    go_enter Tryd.func37, Tryd.ntmps37
    go_wp2_with fail
    (with_reducible refine hof.mono ?_)
    rintro e w1 ⟨a1, c1, rfl, hA, hB1⟩
    clear hA hof
    go_wp2_with fail
    go_loopw [4] (fun v wr => ∃ b : Nat, 2 ≤ b ∧ b ≤ 2 ^ (H + 1) ∧ v = .int .u64 (b : Int) ∧ (∀ c, 2 ≤ c → c < b → ¬ Dv c p) ∧ Below w.heap.size w wr) (fun v _ => 2 ^ (H + 1) - (intOf v).toNat)
    case atStart =>
      have : 2 ^ 1 ≤ 2 ^ (H + 1) := Nat.pow_le_pow_right (by omega) (by omega)
      exact ⟨2, Nat.le_refl _, by omega, rfl, fun c h1 h2 => absurd h1 (by omega), hB1⟩
    case round =>
      clear hB1
      obtain ⟨b, hb2, hbP, rfl, hall, hBl⟩ := hrel
      have hb64 : b < 18446744073709551616 := by omega
      have hbb := of_any wr b hb64
      unfold GivesP at hbb
      have hb0 : b ≠ 0 := by omega
      have hb512 : b ≤ 512 := by omega
      by_cases hlt : b < 2 ^ (H + 1)
      · have hbl : bl b ≤ H + 1 := bl_le.2 hlt
        have hle : decide ((bl b : Int) - 1 ≤ (D : Int) / 2) = true := by rw [HI.out]; simp; omega
        have hbl64 := bl_64 hb64
        have hdv := fun w => rdiv_any w p b hp hb64 hb0
        by_cases hz : pm p b = 0
        · have hres := HN.out b hb2 hlt ((pm_eq0 hb0).1 hz)
          have HRES := Lib.hid hres
          rw [hz] at hdv
          obtain ⟨q, hq⟩ : ∃ q, q = pq p b := ⟨_, rfl⟩
          simp only [← hq] at hdv
          clear hres hz hq hall hlt hpow hbP
          go_wp2_with fail
          (with_reducible refine hbb.mono ?_)
          rintro e w2 ⟨a2, c2, rfl, hA, hB2⟩
          have hb2' := below_step hBl hB2
          clear hA hbb hB2 hBl
          go_wp2_with fail
          (with_reducible refine (hdv _).mono ?_)
          rintro e w3 ⟨rfl, hB3⟩
          have hb3 := below_step hb2' hB3
          clear hdv hB3 hb2'
          go_wp2_with fail
          go_ret
          exact ⟨⟨false, HRES.out.symm, rfl⟩, hb3⟩
        · have hnd : ∀ c, 2 ≤ c → c < b + 1 → ¬ Dv c p := fun c h1 h2 => by
            by_cases e : c = b
            · subst e; exact fun hd => hz ((pm_eq0 hb0).2 hd)
            · exact hall c h1 (by omega)
          have HND := Lib.hid hnd
          have HLT := Lib.hid hlt
          obtain ⟨q, hq⟩ : ∃ q, q = pq p b := ⟨_, rfl⟩
          obtain ⟨r, hr⟩ : ∃ r, r = pm p b := ⟨_, rfl⟩
          simp only [← hq, ← hr] at hdv
          rw [← hr] at hz
          have hv : ((r : Int) == 0) = false := by simpa using hz
          clear hnd hz hq hr hall hpow hlt hbP
          go_wp2_with fail
          (with_reducible refine hbb.mono ?_)
          rintro e w2 ⟨a2, c2, rfl, hA, hB2⟩
          have hb2' := below_step hBl hB2
          clear hA hbb hB2 hBl
          go_wp2_with fail
          (with_reducible refine (hdv _).mono ?_)
          rintro e w3 ⟨rfl, hB3⟩
          have hb3 := below_step hb2' hB3
          clear hdv hB3 hb2'
          go_wp2_with fail
          go_roundw
          case rel => exact ⟨b + 1, by omega, HLT.out, by go_num, HND.out, hb3⟩
          case measure => have := HLT.out; simp [intOf]; omega
      · have hbe : b = 2 ^ (H + 1) := by omega
        have hres := HY.out (by rw [← hbe]; exact hall)
        have HRES := Lib.hid hres
        have hblb : bl b = H + 2 := by rw [hbe, bl_two_pow]
        have hle : decide ((bl b : Int) - 1 ≤ (D : Int) / 2) = false := by rw [HI.out, hblb]; simp; omega
        have hbl64 := bl_64 hb64
        clear hres hbe hblb hall hpow hlt hbP
        go_wp2_with fail
        (with_reducible refine hbb.mono ?_)
        rintro e w2 ⟨a2, c2, rfl, hA, hB2⟩
        have hb2' := below_step hBl hB2
        clear hA hbb hB2 hBl
        go_wp2_with fail
        go_ret
        exact ⟨⟨true, HRES.out.symm, rfl⟩, hb2'⟩

theorem order_small (m : Nat) (hm : m < 131072) : ∃ x e : Int, 0 ≤ e ∧ e ≤ 100 ∧
    (∀ w : World, Calls Tryd.prog 26 #[.int .u64 (m : Int)] w fun en w' => en = .returned (.tuple #[.int .i64 x, .int .i64 e]) ∧ Below w.heap.size w w') ∧
    (∀ w : World, Calls Tryd.prog 36 #[.int .u64 (m : Int)] w fun en w' => en = .returned (.tuple #[.int .i64 x, .int .i64 e]) ∧ Below w.heap.size w w') := by
  have hb : bl m ≤ 17 := bl_le.2 (by omega)
  have hm64 : m < 18446744073709551616 := by omega
  by_cases h1 : bl m ≤ 1
  · refine ⟨0, 2, by omega, by omega, fun w => below_of_eq (order_arg m w hm64 (.inl h1)), fun w => ?_⟩
    have hd1 : decide ((bl m : Int) - 1 < 1) = true := by simp; omega
    have hof := of_any w m hm64
    unfold GivesP at hof
    go_enter Tryd.func36, Tryd.ntmps36
    go_wp2_with fail
    (with_reducible refine hof.mono ?_)
    rintro e w1 ⟨a1, c1, rfl, hA, hB1⟩
    clear hA hof
    go_wp2_with fail
    go_ret2
    exact ⟨rfl, hB1⟩
  · by_cases ho : m % 2 = 1
    · obtain ⟨K, hK, hKl⟩ := ord_some (by omega) ho
      exact ⟨_, 0, by omega, by omega, fun w => below_of_eq (order_any m K w (by omega) (by omega) ho hK hKl), fun w => rorder_any w m K (by omega) (by omega) ho hK hKl⟩
    · refine ⟨0, 6, by omega, by omega, fun w => below_of_eq (order_none m w (by omega) (by omega) (by omega)), fun w => ?_⟩
      obtain ⟨D, hD⟩ : ∃ D, bl m = D + 1 := ⟨bl m - 1, by omega⟩
      have hD1 : 1 ≤ D := by omega
      have hD20 : D ≤ 16 := by omega
      have hd1 : decide ((D : Int) < 1) = false := by simp; omega
      have hd2 : decide (20 < (D : Int)) = false := by simp; omega
      have hev : ((m : Int) % 2 == 0) = true := by simp; omega
      have hof := of_any w m hm64
      unfold GivesP at hof
      rw [hD] at hof
      clear hD hb h1 ho
      go_enter Tryd.func36, Tryd.ntmps36
      go_wp2_with fail
      (with_reducible refine hof.mono ?_)
      rintro e w1 ⟨a1, c1, rfl, hA, hB1⟩
      clear hA hof
      go_wp2_with fail
      go_ret2
      exact ⟨rfl, hB1⟩

set_option maxRecDepth 100000 in
set_option maxHeartbeats 2000000 in
theorem orders_any (W : World) (m : Nat) (hm : m < 18446744073709551616) :
    Calls Tryd.prog 15 #[.int .u64 (m : Int)] W fun e w' => e = .returned (.bool true) ∧ Below W.heap.size W w' := by
  by_cases h17 : m < 131072
  · obtain ⟨x, e, f, g, p1, r1⟩ := order_small m h17
    have hd : decide (131072 ≤ (m : Int)) = false := by simp; omega
    have hb : bl m ≤ 17 := bl_le.2 (by omega)
    have q1 := fun w => irr_any m w hm
    have q2 := fun w => rirr_any w m hb
    obtain ⟨B, hB⟩ : ∃ B, B = irB m := ⟨_, rfl⟩
    simp only [← hB] at q1 q2
    clear hB h17 hb
    go_enter Tryd.func15, Tryd.ntmps15
    go_wp2_with fail
    (with_reducible refine (p1 _).mono ?_)
    rintro en w1 ⟨rfl, hB1⟩
    go_wp2_with fail
    (with_reducible refine (r1 _).mono ?_)
    rintro en w2 ⟨rfl, hB2⟩
    have hb2 := below_step hB1 hB2
    clear hB1 hB2
    go_wp2_with fail
    (with_reducible refine (q1 _).mono ?_)
    rintro en w3 ⟨⟨b1, hb1, rfl⟩, hB3⟩
    have hb3 := below_step hb2 hB3
    subst hb1
    clear hb2 hB3
    go_wp2_with fail
    (with_reducible refine (q2 _).mono ?_)
    rintro en w4 ⟨⟨b2, hb2, rfl⟩, hB4⟩
    have hb4 := below_step hb3 hB4
    subst hb2
    clear hb3 hB4
    go_wp2_with fail
    go_ret
    exact ⟨rfl, hb4⟩
  · have hd : decide (131072 ≤ (m : Int)) = true := by simp; omega
    by_cases h21 : m < 2097152
    · have hd2 : decide (2097152 ≤ (m : Int)) = false := by simp; omega
      clear h17 h21
      go_enter Tryd.func15, Tryd.ntmps15
      go_wp2_with fail
      go_ret
      exact ⟨rfl, Below.refl _ _⟩
    · have hd2 : decide (2097152 ≤ (m : Int)) = true := by simp; omega
      have hb : 22 ≤ bl m := lt_bl.2 (by omega)
      clear h17 h21
      go_enter Tryd.func15, Tryd.ntmps15
      go_wp2_with fail
      (with_reducible refine (order_arg m _ hm (.inr hb)).mono ?_)
      rintro e w' ⟨rfl, rfl⟩
      go_wp2_with fail
      go_ret
      exact ⟨rfl, Below.refl _ _⟩

set_option maxHeartbeats 1000000 in
theorem orders_walk (W : World) (m : Int) (wm : (Lit.int .u64 m).wf = true) :
    Calls Tryd.prog 4 #[.int .u64 m] W fun e w' => e = .returned (.bool true) ∧ Below W.heap.size W w' := by
  obtain ⟨m, rfl, hm⟩ := nat_u64 wm
  clear wm
  go_enter Tryd.func4, Tryd.ntmps4
  go_wp2_with fail
  (with_reducible refine (orders_any _ m hm).mono ?_)
  rintro e w1 ⟨rfl, hB1⟩
  go_wp2_with fail
  (with_reducible refine (awake_any _).mono ?_)
  rintro e w2 ⟨rfl, hB2⟩
  have hb2 := below_step hB1 hB2
  go_wp2_with fail
  go_ret
  exact ⟨rfl, hb2⟩
end Go.Proofs.YtjajojdlgpmpfaaDoor
