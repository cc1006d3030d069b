/-
  The contract of the reference's Read; for every string.
-/
import Derived.Test.YtjajojdlgpmpfaaDoorRta
import Derived.Deep.RegionHeld3
namespace Go.Proofs.YtjajojdlgpmpfaaDoor
open Go.RowKit Go.Shelf

theorem rtext_as (x : Int) (p : Nat) (T : ByteArray) (hx : x = (p : Int)) (hp : p < 18446744073709551616) (hT : T.data.toList = textT p) (w : World) :
    Calls Tryd.prog 19 #[.int .u64 x] w fun e w' => e = .returned (.string T) ∧ Below w.heap.size w w' := by
  subst hx; exact rtext_any p T hp hT w
theorem textT_pow (i : Nat) : textT (2 ^ i) = termT i := by
  rw [text_cons (Nat.ne_of_gt (Nat.two_pow_pos i)), bl_two_pow, Nat.add_sub_cancel, Nat.xor_self, if_pos rfl, List.append_nil]

set_option maxHeartbeats 4000000 in
theorem rread_loop (s : ByteArray) (l : List UInt8) (R : Nat) (A : Nat) (E : Int) (T : ByteArray) (w : World) (hA : (if textT R = l then (R, 0) else (0, 30)) = (A, E)) (hl : s.data.toList = l) (h4 : s.size ≤ 400) (hR : par l.length l 0 = R) (hT : T.data.toList = textT R) :
    Calls Tryd.prog 17 #[.string s] w fun e w' => e = .returned (.tuple #[.int .u64 (A : Int), .int .i64 E]) ∧ Below w.heap.size w w' := by
  have hd1 : decide (400 < (s.size : Int)) = false := by simp; omega
  have hll : l.length = s.size := by rw [← hl]; simp
  have HL := Lib.hid hl
  have HLL := Lib.hid hll
  have HR := Lib.hid hR
  have HT := Lib.hid hT
  have HA := Lib.hid hA
  clear hl hll hR hT hA
  go_enter Tryd.func17, Tryd.ntmps17
  go_wp2_with fail
  go_loopg [4, 5] s.size (fun g P A wx => ∃ (p a : Nat), p < 18446744073709551616 ∧ P = .int .u64 (p : Int) ∧ A = .int .i64 (a : Int) ∧ a ≤ s.size + 1 ∧ Aside ((l.drop a).length ≤ g ∧ par g (l.drop a) p = R) ∧ Below w.heap.size w wx)
  case atStart => exact ⟨0, 0, by decide, rfl, rfl, by omega, ⟨by rw [← HLL.out]; simp, by rw [← HLL.out]; exact HR.out⟩, Below.refl _ _⟩
  case round =>
    obtain ⟨p, a, hp, rfl, rfl, ha, HO, hB⟩ := hrel
    by_cases hlt : a < s.size
    · have hd : decide ((a : Int) < (s.size : Int)) = true := by simp; omega
      have hd2 : decide (a < s.size) = true := by simp; omega
      obtain ⟨f, rfl⟩ : ∃ f, gk = f + 1 := by
        have := HO.out.1
        have e := HLL.out
        simp at this
        exact ⟨gk - 1, by omega⟩
      have hmax : s.size ≤ 400 := h4
      go_wp2_with fail
      go_loopg [6] (s.size - a) (fun g2 A wx => ∃ t : Nat, g2 + t = s.size ∧ a ≤ t ∧ A = .int .i64 (t : Int) ∧ Aside (t + cl (l.drop t) = a + cl (l.drop a)) ∧ wx = wr)
      case atStart => exact ⟨a, by omega, Nat.le_refl _, rfl, rfl, rfl⟩
      case round =>
        obtain ⟨t, hgt, hat, rfl, hcl, rfl⟩ := hrel
        cases gk with
        | zero =>
          have hts0 : t = s.size := by omega
          have hdt : decide ((t : Int) < (s.size : Int)) = false := by simp; omega
          have hdt2 : decide (t < s.size) = false := by simp; omega
          have hc0 : Aside (cl (l.drop t) = 0) := by
            have e := HLL.out
            rw [List.drop_eq_nil_of_le (by omega)]; rfl
          have htl : t ≤ s.size := by omega
          clear hts0
          have hta : t = a + cl (l.drop a) := by have := hcl.out; have := hc0.out; omega
          obtain ⟨C, hC⟩ : ∃ C, s.extract a t = C := ⟨_, rfl⟩
          have hCl : C.data.toList = (l.drop a).take (cl (l.drop a)) := by
            rw [← hC, ByteArray.data_extract, Array.toList_extract, List.extract_eq_take_drop, HL.out]
            congr 1; omega
          obtain ⟨c, hcdef⟩ : ∃ c, c = (l.drop a).take (cl (l.drop a)) := ⟨_, rfl⟩
          rw [← hcdef] at hCl
          have hnx : par f (l.drop (t + 1)) (p ||| ors c 64) = R ∧ (l.drop (t + 1)).length ≤ f := by
            have h1 := HO.out.1
            have h2 := HO.out.2
            have e := HLL.out
            rw [par, if_neg (fun h => by have := congrArg List.length h; simp at this; omega), List.drop_drop, ← Nat.add_assoc, ← hta, ← hcdef] at h2
            refine ⟨h2, ?_⟩
            simp at h1 ⊢; omega
          have HNX := Lib.hid hnx
          have HCL := Lib.hid hCl
          have HTA := Lib.hid hta
          have hat1 : decide ((a : Int) ≤ (t : Int)) = true := by simp; omega
          have hat2 : (a : Int) ≤ (t : Int) := by omega
          have hts : (t : Int) ≤ (s.size : Int) := by omega
          clear hnx hCl hta hcdef hcl
          go_wp2_with fail
          go_loopg [4, 7] 64 (fun g3 P I wx => ∃ (i q : Nat), i + g3 = 64 ∧ q < 18446744073709551616 ∧ P = .int .u64 (q : Int) ∧ I = .int .i64 (i : Int) ∧ Aside (q = p ||| ors c i) ∧ Below w.heap.size w wx)
          case atStart => exact ⟨0, p, by omega, hp, rfl, rfl, (Nat.or_zero p).symm, hB⟩
          case round =>
            obtain ⟨i, q, hi, hq, rfl, rfl, hqe, hB'⟩ := hrel
            cases gk with
            | zero =>
              obtain rfl : i = 64 := by omega
              have hR2 : par f (l.drop (t + 1)) q = R := by rw [hqe.out]; exact HNX.out.1
              have HR2 := Lib.hid hR2
              clear hR2
              go_wp2_with fail
              go_roundg f
              case measure => omega
              case rel => exact ⟨q, t + 1, hq, rfl, by go_num, by omega, ⟨HNX.out.2, HR2.out⟩, hB'⟩
            | succ g3 =>
              have hi64 : i < 64 := by omega
              have hdi : decide ((i : Int) < 64) = true := by simp; omega
              have hdi2 : decide (i < 64) = true := by simp; omega
              obtain ⟨D, hD⟩ : ∃ D, D = 2 ^ i := ⟨_, rfl⟩
              have l2 : D < 18446744073709551616 := by rw [hD]; exact (bl_le (k := 64)).1 (by rw [bl_two_pow]; omega)
              have hE2 : (2 : Int) ^ i = (D : Int) := by rw [hD]; push_cast; rfl
              have E2 : IntKind.u64.wrap (D : Int) = (D : Int) := wrapN _ l2 (D : Int) rfl
              obtain ⟨TI, hTI⟩ := some_text (textT D)
              have hTI2 : TI.data.toList = termT i := by rw [hTI, hD]; exact textT_pow i
              have hcall := fun w => rtext_as (D : Int) D TI rfl l2 hTI w
              have HD := Lib.hid hD
              have HTI := Lib.hid hTI2
              have hBd : Below w.heap.size w wr.drew := hB'.drew
              have eor := or_u64 q D hq l2 _ _ rfl rfl
              have hlt : q ||| D < 18446744073709551616 := Nat.or_lt_two_pow (n := 64) hq l2
              have horr : ors c (i + 1) = if C.data.toList = TI.data.toList then ors c i ||| D else ors c i := by rw [ors, HCL.out, hTI2, hD]
              have HLT := Lib.hid hlt
              have EOR := Lib.hid eor
              have HORR := Lib.hid horr
              clear hD hTI hTI2 eor hlt horr l2
              go_wp2_with fail
              go_region_held3 (fun _ => True) (trivial) (first
                | (go_at_call 19; refine (hcall _).mono ?_; rintro e w1 ⟨rfl, hB1⟩))
              have hb1 := below_step hBd hB1
              clear hBd hB1 hB' hcall
              have hqi := hqe.out
              generalize hmb : (C.toList == TI.toList) = bb
              rw [toL, toL] at hmb
              cases bb with
              | true =>
                have hstep : q ||| D = p ||| ors c (i + 1) := by rw [HORR.out, if_pos (by simpa using hmb), ← Nat.or_assoc, ← hqi]
                have HST := Lib.hid hstep
                clear hstep hmb hqi
                go_wp2_with fail
                go_roundg g3
                case measure => omega
                case rel => exact ⟨i + 1, q ||| D, by omega, HLT.out, by first | rfl | rw [EOR.out], by go_num, HST.out, hb1⟩
              | false =>
                have hstep : q = p ||| ors c (i + 1) := by rw [HORR.out, if_neg (by simpa using hmb), ← hqi]
                have HST := Lib.hid hstep
                clear hstep hmb hqi
                go_wp2_with fail
                go_roundg g3
                case measure => omega
                case rel => exact ⟨i + 1, q, by omega, hq, rfl, by go_num, HST.out, hb1⟩
        | succ g2 =>
          have htl : t < s.size := by omega
          have hdt : decide ((t : Int) < (s.size : Int)) = true := by simp; omega
          have hdt2 : decide (t < s.size) = true := by simp; omega
          have hlq : l[t]? = some s[t] := by
            rw [← HL.out, List.getElem?_eq_getElem (by simpa using htl)]
            rfl
          have hcs := cl_step hlq
          by_cases h43 : s[t] = 43
          · rw [if_pos h43] at hcs
            have hch : (((s[t]'htl).toNat : Int) != 43) = false := by rw [h43]; rfl
            have hc0 : Aside (cl (l.drop t) = 0) := hcs
            clear hcs h43 hlq
            have hta : t = a + cl (l.drop a) := by have := hcl.out; have := hc0.out; omega
            obtain ⟨C, hC⟩ : ∃ C, s.extract a t = C := ⟨_, rfl⟩
            have hCl : C.data.toList = (l.drop a).take (cl (l.drop a)) := by
              rw [← hC, ByteArray.data_extract, Array.toList_extract, List.extract_eq_take_drop, HL.out]
              congr 1; omega
            obtain ⟨c, hcdef⟩ : ∃ c, c = (l.drop a).take (cl (l.drop a)) := ⟨_, rfl⟩
            rw [← hcdef] at hCl
            have hnx : par f (l.drop (t + 1)) (p ||| ors c 64) = R ∧ (l.drop (t + 1)).length ≤ f := by
              have h1 := HO.out.1
              have h2 := HO.out.2
              have e := HLL.out
              rw [par, if_neg (fun h => by have := congrArg List.length h; simp at this; omega), List.drop_drop, ← Nat.add_assoc, ← hta, ← hcdef] at h2
              refine ⟨h2, ?_⟩
              simp at h1 ⊢; omega
            have HNX := Lib.hid hnx
            have HCL := Lib.hid hCl
            have HTA := Lib.hid hta
            have hat1 : decide ((a : Int) ≤ (t : Int)) = true := by simp; omega
            have hat2 : (a : Int) ≤ (t : Int) := by omega
            have hts : (t : Int) ≤ (s.size : Int) := by omega
            clear hnx hCl hta hcdef hcl
            go_wp2_with fail
            go_loopg [4, 7] 64 (fun g3 P I wx => ∃ (i q : Nat), i + g3 = 64 ∧ q < 18446744073709551616 ∧ P = .int .u64 (q : Int) ∧ I = .int .i64 (i : Int) ∧ Aside (q = p ||| ors c i) ∧ Below w.heap.size w wx)
            case atStart => exact ⟨0, p, by omega, hp, rfl, rfl, (Nat.or_zero p).symm, hB⟩
            case round =>
              obtain ⟨i, q, hi, hq, rfl, rfl, hqe, hB'⟩ := hrel
              cases gk with
              | zero =>
                obtain rfl : i = 64 := by omega
                have hR2 : par f (l.drop (t + 1)) q = R := by rw [hqe.out]; exact HNX.out.1
                have HR2 := Lib.hid hR2
                clear hR2
                go_wp2_with fail
                go_roundg f
                case measure => omega
                case rel => exact ⟨q, t + 1, hq, rfl, by go_num, by omega, ⟨HNX.out.2, HR2.out⟩, hB'⟩
              | succ g3 =>
                have hi64 : i < 64 := by omega
                have hdi : decide ((i : Int) < 64) = true := by simp; omega
                have hdi2 : decide (i < 64) = true := by simp; omega
                obtain ⟨D, hD⟩ : ∃ D, D = 2 ^ i := ⟨_, rfl⟩
                have l2 : D < 18446744073709551616 := by rw [hD]; exact (bl_le (k := 64)).1 (by rw [bl_two_pow]; omega)
                have hE2 : (2 : Int) ^ i = (D : Int) := by rw [hD]; push_cast; rfl
                have E2 : IntKind.u64.wrap (D : Int) = (D : Int) := wrapN _ l2 (D : Int) rfl
                obtain ⟨TI, hTI⟩ := some_text (textT D)
                have hTI2 : TI.data.toList = termT i := by rw [hTI, hD]; exact textT_pow i
                have hcall := fun w => rtext_as (D : Int) D TI rfl l2 hTI w
                have HD := Lib.hid hD
                have HTI := Lib.hid hTI2
                have hBd : Below w.heap.size w wr.drew := hB'.drew
                have eor := or_u64 q D hq l2 _ _ rfl rfl
                have hlt : q ||| D < 18446744073709551616 := Nat.or_lt_two_pow (n := 64) hq l2
                have horr : ors c (i + 1) = if C.data.toList = TI.data.toList then ors c i ||| D else ors c i := by rw [ors, HCL.out, hTI2, hD]
                have HLT := Lib.hid hlt
                have EOR := Lib.hid eor
                have HORR := Lib.hid horr
                clear hD hTI hTI2 eor hlt horr l2
                go_wp2_with fail
                go_region_held3 (fun _ => True) (trivial) (first
                  | (go_at_call 19; refine (hcall _).mono ?_; rintro e w1 ⟨rfl, hB1⟩))
                have hb1 := below_step hBd hB1
                clear hBd hB1 hB' hcall
                have hqi := hqe.out
                generalize hmb : (C.toList == TI.toList) = bb
                rw [toL, toL] at hmb
                cases bb with
                | true =>
                  have hstep : q ||| D = p ||| ors c (i + 1) := by rw [HORR.out, if_pos (by simpa using hmb), ← Nat.or_assoc, ← hqi]
                  have HST := Lib.hid hstep
                  clear hstep hmb hqi
                  go_wp2_with fail
                  go_roundg g3
                  case measure => omega
                  case rel => exact ⟨i + 1, q ||| D, by omega, HLT.out, by first | rfl | rw [EOR.out], by go_num, HST.out, hb1⟩
                | false =>
                  have hstep : q = p ||| ors c (i + 1) := by rw [HORR.out, if_neg (by simpa using hmb), ← hqi]
                  have HST := Lib.hid hstep
                  clear hstep hmb hqi
                  go_wp2_with fail
                  go_roundg g3
                  case measure => omega
                  case rel => exact ⟨i + 1, q, by omega, hq, rfl, by go_num, HST.out, hb1⟩
          · rw [if_neg h43] at hcs
            have hch : (((s[t]'htl).toNat : Int) != 43) = true := by
              have : (s[t]'htl).toNat ≠ 43 := fun h => h43 (UInt8.toNat_inj.1 h)
              simp; omega
            have HC := Lib.hid (show t + 1 + cl (l.drop (t + 1)) = a + cl (l.drop a) by have := hcl.out; omega)
            clear hcs h43 hlq
            go_wp2_with fail
            go_roundg g2
            case measure => omega
            case rel => exact ⟨t + 1, by omega, by omega, by go_num, HC.out, rfl⟩
    · have hd : decide ((a : Int) < (s.size : Int)) = false := by simp; omega
      have hd2 : decide (a < s.size) = false := by simp; omega
      have hRp : p = R := by
        have h2 := HO.out.2
        rw [List.drop_eq_nil_of_le (by rw [HLL.out]; omega), par_nil] at h2
        exact h2
      have HRp := Lib.hid hRp
      clear hRp
      have hc := fun w => rtext_as (p : Int) p T rfl hp (by rw [HRp.out]; exact HT.out) w
      by_cases he : textT R = l
      · have hq : (T.toList == s.toList) = true := by rw [toL, toL, HT.out, HL.out, he]; simp
        have e1 : R = A ∧ 0 = E := by have := HA.out; rw [if_pos he] at this; simpa using this
        have HA1 := Lib.hid e1.1
        obtain rfl := e1.2
        clear he e1
        go_wp2_with fail
        refine (hc _).mono ?_
        rintro e w1 ⟨rfl, hB1⟩
        have hb1 := below_step hB hB1
        clear hB hB1
        go_wp2_with fail
        go_ret2
        exact ⟨by rw [← HA1.out, ← HRp.out]; rfl, hb1⟩
      · have hq : (T.toList == s.toList) = false := by rw [toL, toL, HT.out, HL.out]; simpa using he
        have e1 : 0 = A ∧ 30 = E := by have := HA.out; rw [if_neg he] at this; simpa using this
        obtain rfl := e1.1
        obtain rfl := e1.2
        clear he e1
        go_wp2_with fail
        refine (hc _).mono ?_
        rintro e w1 ⟨rfl, hB1⟩
        have hb1 := below_step hB hB1
        clear hB hB1
        go_wp2_with fail
        go_ret2
        exact ⟨rfl, hb1⟩

set_option maxHeartbeats 400000 in
theorem rread_long (s : ByteArray) (w : World) (h4 : 400 < s.size) :
    Calls Tryd.prog 17 #[.string s] w fun e w' => e = .returned (.tuple #[.int .u64 0, .int .i64 3]) ∧ Below w.heap.size w w' := by
  have hd1 : decide (400 < (s.size : Int)) = true := by simp; omega
  go_enter Tryd.func17, Tryd.ntmps17
  go_wp2_with fail
  go_ret2
  exact ⟨rfl, Below.refl _ _⟩
/-- The reference's Read, for every string. -/
theorem rread_as (s : ByteArray) (l : List UInt8) (P : Nat) (E : Int) (hl : s.data.toList = l) (hP : readR l = (P, E)) (w : World) :
    Calls Tryd.prog 17 #[.string s] w fun e w' => e = .returned (.tuple #[.int .u64 (P : Int), .int .i64 E]) ∧ Below w.heap.size w w' := by
  rw [← refR_eq] at hP
  unfold refR at hP
  have hll : l.length = s.size := by rw [← hl]; simp
  by_cases h4 : 400 < s.size
  · rw [if_pos (by omega)] at hP
    obtain ⟨rfl, rfl⟩ := Prod.mk.inj hP
    exact rread_long s w h4
  · rw [if_neg (by omega)] at hP
    obtain ⟨T, hT⟩ := some_text (textT (par l.length l 0))
    exact rread_loop s l _ P E T w hP hl (by omega) rfl hT
end Go.Proofs.YtjajojdlgpmpfaaDoor
