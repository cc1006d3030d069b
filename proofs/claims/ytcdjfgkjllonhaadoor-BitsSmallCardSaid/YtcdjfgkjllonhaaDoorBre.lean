/-
  The contract of the reference's Join: the set of the numbers that are wanted.
-/
import Derived.Test.YtcdjfgkjllonhaaDoorBrd
namespace Go.Proofs.YtcdjfgkjllonhaaDoor
open Go.RowKit Go.Shelf

/-- Whether a number is wanted. -/
def jn (zero one two three x y : Bool) : Bool := !x && !y && zero || x && !y && one || !x && y && two || x && y && three
theorem filt_succ (n : Nat) (p : Nat → Bool) : (List.range (n + 1)).filter p = if p n then (List.range n).filter p ++ [n] else (List.range n).filter p := by
  rw [List.range_succ, List.filter_append]
  by_cases h : p n <;> simp [h]
theorem filt_has (n : Nat) (p : Nat → Bool) (i : Nat) : ((List.range n).filter p).contains i = (decide (i < n) && p i) := by
  rw [Bool.eq_iff_iff]; simp
theorem SetR.congr {w : World} {n : Nat} {p q : Nat → Bool} {e : Ending} {w' : World} (h : SetR w n p e w') (hpq : ∀ i, p i = q i) : SetR w n q e w' := by
  have : p = q := funext hpq
  rwa [this] at h

set_option maxRecDepth 100000 in
set_option maxHeartbeats 8000000 in
theorem rjoin_any (w : World) (n : Nat) (a b : Option Addr) (ma ca mb cb : Nat) (la lb : List Int) (zero one two three : Bool) (hs : Sl .u64 w a ma ca la) (ht : Sl .u64 w b mb cb lb) (hwa : Wds la) (hwb : Wds lb) (hn : n ≤ 65536) :
    Calls Tryd.prog 17 #[.int .i64 (n : Int), .slice a ma ca, .slice b mb cb, .bool zero, .bool one, .bool two, .bool three] w (SetR w n fun i => decide (i < n) && jn zero one two three (bt la i) (bt lb i)) := by
  obtain ⟨i0, hinf, hz0, hz1, hz2⟩ := info_parts infoI
  obtain ⟨p, hp⟩ : ∃ p : Nat → Bool, ∀ i, p i = jn zero one two three (bt la i) (bt lb i) := ⟨_, fun _ => rfl⟩
  have hq : (fun i => decide (i < n) && jn zero one two three (bt la i) (bt lb i)) = fun i => decide (i < n) && p i := funext fun i => by rw [hp]
  rw [hq]
  clear hq
  have HP := Lib.hid hp
  clear hp
  have hB1 : Below w.heap.size w (w.alloc (.cells #[.int .i64 0, .slice none 0 0] 31)) := (Below.refl _ w).alloc (Nat.le_refl _) _
  have hQ1 : Two (w.alloc (.cells #[.int .i64 0, .slice none 0 0] 31)) w.heap.size 31 (.int .i64 0) (.slice none 0 0) := Two.new w _ _ _
  have hs1 := hs.below hB1
  have ht1 := ht.below hB1
  clear hs ht
  go_enter Tryd.func17, Tryd.ntmps17
  go_wp2_with fail
  obtain ⟨w1, hw1⟩ : ∃ wz, wz = w.alloc (.cells #[.int .i64 0, .slice none 0 0] 31) := ⟨_, rfl⟩
  rw [← hw1] at hB1 hQ1 hs1 ht1 ⊢
  have hl1 : w.heap.size < w1.heap.size := hQ1.lt
  clear hw1
  go_loopw [15, 16] (fun V K wr => ∃ k : Nat, k ≤ n ∧ K = .int .i64 (k : Int) ∧ wr.ownsRow w1.heap.size 3 1 V ((List.range k).filter p).length ((ints ((List.range k).filter p)).map (Value.int .i64)) ∧ Below w1.heap.size w1 wr) (fun _ K _ => n - (intOf K).toNat)
  case atStart => exact ⟨0, by omega, rfl, World.ownsRow_nil w1 w1.heap.size 3 1, Below.refl _ _⟩
  case round =>
    obtain ⟨k, hk, rfl, hown, hB⟩ := hrel
    obtain ⟨ga, gc, rfl⟩ := own_shape hown
    by_cases hlt : k < n
    · have hd : decide ((k : Int) < (n : Int)) = true := by simp; omega
      have hdn : decide (k < n) = true := by simp; omega
      have qa := fun w hs => rbit_any w a ma ca la (k : Int) hs hwa (by omega) (by omega)
      have qb := fun w hs => rbit_any w b mb cb lb (k : Int) hs hwb (by omega) (by omega)
      simp only [Int.toNat_natCast] at qa qb
      have hs3 := hs1.below hB
      have ht3 := ht1.below hB
      have hpk := HP.out k
      obtain ⟨x, hx⟩ : ∃ x, x = bt la k := ⟨_, rfl⟩
      obtain ⟨y, hy⟩ : ∃ y, y = bt lb k := ⟨_, rfl⟩
      rw [← hx, ← hy] at hpk
      simp only [← hx] at qa
      simp only [← hy] at qb
      obtain ⟨L, hL⟩ : ∃ L, L = (List.range k).filter p := ⟨_, rfl⟩
      have hll : L.length ≤ k := by rw [hL]; exact Nat.le_trans (List.length_filter_le _ _) (by simp)
      have hmu := filt_succ k p
      rw [← hL] at hown hmu ⊢
      have HM := Lib.hid hmu
      have HPK := Lib.hid hpk
      clear hL hmu hx hy hpk
      have hsz := hB.size
      go_wp2_with fail
      refine (qa _ hs3).mono ?_
      rintro e w' ⟨rfl, hw'⟩
      rw [hw']
      clear hw' qa hs3
      go_wp2_with fail
      refine (qb _ ht3).mono ?_
      rintro e w' ⟨rfl, hw'⟩
      rw [hw']
      clear hw' qb ht3
      cases x with
      | true =>
        cases y with
        | true =>
          first | rw [b01_true] | skip
          first | rw [b01_false] | skip
          cases three with
          | true =>
            have hmu2 : (List.range (k + 1)).filter p = L ++ [k] := by rw [HM.out, HPK.out]; rfl
            have HM2 := Lib.hid hmu2
            clear hmu2
            go_wp2_with (at_builtin; refine wpList_append_own _ rfl (.tmp 70) (.tmp 72) 27 rfl w1.heap.size 3 i0 (.int .i64 0) 1 8 Tryd.underlying27 hinf hz0 hz1 hz2 rfl (by decide) _ _ _ rfl (hown.alloc _) ⟨wr.heap.size, 0, none⟩ 1 1 [.int .i64 (k : Int)] rfl rfl ?d1 ?d2 ?d3 ?d4 ?d5 ?_)
            case d1 => exact one_cellI2 _ _
            case d2 => exact one_oneI2 _
            case d3 => unfold maxLen; omega
            case d4 => omega
            case d5 => simp; omega
            intro v' w5 hown' hgrow _
            have hBn : Below w1.heap.size w1 w5 := (hB.alloc hsz _).grown hgrow (by simp; omega) (fun k hk => (hown.lt k hk).1)
            have hown2 : w5.ownsRow w1.heap.size 3 1 v' ((List.range (k + 1)).filter p).length ((ints ((List.range (k + 1)).filter p)).map (Value.int .i64)) := by
              rw [HM2.out, ints_snoc, List.length_append]; simpa using hown'
            clear hown' hgrow hown hB hsz
            go_wp2_with fail
            go_roundw
            case rel => exact ⟨k + 1, by omega, by go_num, hown2, hBn⟩
            case measure => simp [intOf]; omega
          | false =>
            have hmu2 : (List.range (k + 1)).filter p = L := by rw [HM.out, HPK.out]; rfl
            have HM2 := Lib.hid hmu2
            clear hmu2
            go_wp2_with fail
            go_roundw
            case rel => exact ⟨k + 1, by omega, by go_num, by rw [HM2.out]; exact hown, hB⟩
            case measure => simp [intOf]; omega
        | false =>
          first | rw [b01_true] | skip
          first | rw [b01_false] | skip
          cases one with
          | true =>
            have hmu2 : (List.range (k + 1)).filter p = L ++ [k] := by rw [HM.out, HPK.out]; rfl
            have HM2 := Lib.hid hmu2
            clear hmu2
            go_wp2_with (at_builtin; refine wpList_append_own _ rfl (.tmp 70) (.tmp 72) 27 rfl w1.heap.size 3 i0 (.int .i64 0) 1 8 Tryd.underlying27 hinf hz0 hz1 hz2 rfl (by decide) _ _ _ rfl (hown.alloc _) ⟨wr.heap.size, 0, none⟩ 1 1 [.int .i64 (k : Int)] rfl rfl ?d1 ?d2 ?d3 ?d4 ?d5 ?_)
            case d1 => exact one_cellI2 _ _
            case d2 => exact one_oneI2 _
            case d3 => unfold maxLen; omega
            case d4 => omega
            case d5 => simp; omega
            intro v' w5 hown' hgrow _
            have hBn : Below w1.heap.size w1 w5 := (hB.alloc hsz _).grown hgrow (by simp; omega) (fun k hk => (hown.lt k hk).1)
            have hown2 : w5.ownsRow w1.heap.size 3 1 v' ((List.range (k + 1)).filter p).length ((ints ((List.range (k + 1)).filter p)).map (Value.int .i64)) := by
              rw [HM2.out, ints_snoc, List.length_append]; simpa using hown'
            clear hown' hgrow hown hB hsz
            go_wp2_with fail
            go_roundw
            case rel => exact ⟨k + 1, by omega, by go_num, hown2, hBn⟩
            case measure => simp [intOf]; omega
          | false =>
            have hmu2 : (List.range (k + 1)).filter p = L := by rw [HM.out, HPK.out]; rfl
            have HM2 := Lib.hid hmu2
            clear hmu2
            go_wp2_with fail
            go_roundw
            case rel => exact ⟨k + 1, by omega, by go_num, by rw [HM2.out]; exact hown, hB⟩
            case measure => simp [intOf]; omega
      | false =>
        cases y with
        | true =>
          first | rw [b01_true] | skip
          first | rw [b01_false] | skip
          cases two with
          | true =>
            have hmu2 : (List.range (k + 1)).filter p = L ++ [k] := by rw [HM.out, HPK.out]; rfl
            have HM2 := Lib.hid hmu2
            clear hmu2
            go_wp2_with (at_builtin; refine wpList_append_own _ rfl (.tmp 70) (.tmp 72) 27 rfl w1.heap.size 3 i0 (.int .i64 0) 1 8 Tryd.underlying27 hinf hz0 hz1 hz2 rfl (by decide) _ _ _ rfl (hown.alloc _) ⟨wr.heap.size, 0, none⟩ 1 1 [.int .i64 (k : Int)] rfl rfl ?d1 ?d2 ?d3 ?d4 ?d5 ?_)
            case d1 => exact one_cellI2 _ _
            case d2 => exact one_oneI2 _
            case d3 => unfold maxLen; omega
            case d4 => omega
            case d5 => simp; omega
            intro v' w5 hown' hgrow _
            have hBn : Below w1.heap.size w1 w5 := (hB.alloc hsz _).grown hgrow (by simp; omega) (fun k hk => (hown.lt k hk).1)
            have hown2 : w5.ownsRow w1.heap.size 3 1 v' ((List.range (k + 1)).filter p).length ((ints ((List.range (k + 1)).filter p)).map (Value.int .i64)) := by
              rw [HM2.out, ints_snoc, List.length_append]; simpa using hown'
            clear hown' hgrow hown hB hsz
            go_wp2_with fail
            go_roundw
            case rel => exact ⟨k + 1, by omega, by go_num, hown2, hBn⟩
            case measure => simp [intOf]; omega
          | false =>
            have hmu2 : (List.range (k + 1)).filter p = L := by rw [HM.out, HPK.out]; rfl
            have HM2 := Lib.hid hmu2
            clear hmu2
            go_wp2_with fail
            go_roundw
            case rel => exact ⟨k + 1, by omega, by go_num, by rw [HM2.out]; exact hown, hB⟩
            case measure => simp [intOf]; omega
        | false =>
          first | rw [b01_true] | skip
          first | rw [b01_false] | skip
          cases zero with
          | true =>
            have hmu2 : (List.range (k + 1)).filter p = L ++ [k] := by rw [HM.out, HPK.out]; rfl
            have HM2 := Lib.hid hmu2
            clear hmu2
            go_wp2_with (at_builtin; refine wpList_append_own _ rfl (.tmp 70) (.tmp 72) 27 rfl w1.heap.size 3 i0 (.int .i64 0) 1 8 Tryd.underlying27 hinf hz0 hz1 hz2 rfl (by decide) _ _ _ rfl (hown.alloc _) ⟨wr.heap.size, 0, none⟩ 1 1 [.int .i64 (k : Int)] rfl rfl ?d1 ?d2 ?d3 ?d4 ?d5 ?_)
            case d1 => exact one_cellI2 _ _
            case d2 => exact one_oneI2 _
            case d3 => unfold maxLen; omega
            case d4 => omega
            case d5 => simp; omega
            intro v' w5 hown' hgrow _
            have hBn : Below w1.heap.size w1 w5 := (hB.alloc hsz _).grown hgrow (by simp; omega) (fun k hk => (hown.lt k hk).1)
            have hown2 : w5.ownsRow w1.heap.size 3 1 v' ((List.range (k + 1)).filter p).length ((ints ((List.range (k + 1)).filter p)).map (Value.int .i64)) := by
              rw [HM2.out, ints_snoc, List.length_append]; simpa using hown'
            clear hown' hgrow hown hB hsz
            go_wp2_with fail
            go_roundw
            case rel => exact ⟨k + 1, by omega, by go_num, hown2, hBn⟩
            case measure => simp [intOf]; omega
          | false =>
            have hmu2 : (List.range (k + 1)).filter p = L := by rw [HM.out, HPK.out]; rfl
            have HM2 := Lib.hid hmu2
            clear hmu2
            go_wp2_with fail
            go_roundw
            case rel => exact ⟨k + 1, by omega, by go_num, by rw [HM2.out]; exact hown, hB⟩
            case measure => simp [intOf]; omega
    · have hd : decide ((k : Int) < (n : Int)) = false := by simp; omega
      have hdn : decide (k < n) = false := by simp; omega
      obtain rfl : k = n := by omega
      obtain ⟨L, hL⟩ : ∃ L, L = (List.range k).filter p := ⟨_, rfl⟩
      have hLn : ∀ x ∈ L, x < k := fun x hx => by rw [hL] at hx; exact List.mem_range.1 (List.mem_filter.1 hx).1
      have hLc : ∀ i, L.contains i = (decide (i < k) && p i) := fun i => by rw [hL]; exact filt_has k p i
      rw [← hL] at hown ⊢
      have HLC := Lib.hid hLc
      clear hL hLc
      have q := rof_any wr k ga L.length gc L (own_sl hown) hn hLn
      have hQ2 := hQ1.below hB hl1
      have hlw : w.heap.size < wr.heap.size := hQ2.lt
      have hB2 : Below w.heap.size w wr := hB1.trans (hB.mono (by omega))
      have HLN := Lib.hid hLn
      clear hown hs1 ht1 hB hB1 hQ1 hLn
      go_wp2_with fail
      refine q.mono ?_
      rintro e w3 ⟨g, c3, R, rfl, hown3, hWd, hbt, hB3⟩
      clear q
      have hQ3 := hQ2.below hB3 hlw
      have hB4 := bstep hB2 hB3
      have hgo := hown3
      obtain ⟨W, hW⟩ : ∃ W, W = (k + 63) / 64 := ⟨_, rfl⟩
      rw [← hW] at hown3 hgo ⊢
      have HW := Lib.hid hW
      have HBT := Lib.hid hbt
      clear hbt hW
      have q0 := hQ3.c0
      have q1 := hQ3.c1
      have q2 := hQ3.f0
      have q3 := hQ3.f1
      have hQ5 := hQ3.range_set (.int .i64 (k : Int)) (.slice g W c3)
      have hB5 := (hB4.setCell (p := ⟨w.heap.size, 0, none⟩) (Nat.le_refl _) (.int .i64 (k : Int))).setCell (p := ⟨w.heap.size, 1, none⟩) (Nat.le_refl _) (.slice g W c3)
      have hown5 : ((w3.setCell ⟨w.heap.size, 0, none⟩ (.int .i64 (k : Int))).setCell ⟨w.heap.size, 1, none⟩ (.slice g W c3)).ownsRow w.heap.size 30 1 (.slice g W c3) W (R.map (Value.int .u64)) :=
        own_base (own_set (own_set hown3 _ 0 _ hlw) _ 1 _ hlw) (Nat.le_of_lt hlw)
      clear hown3 hgo hB2 hB3 hB4 hQ2
      go_wp2_with fail
      refine bodyPost_cell1 rfl w.heap.size rfl _ _ hQ5 Tryd.underlying31 rfl (by kernel_rfl) rfl ?_
      unfold SetR
      rw [← HW.out]
      exact ⟨g, c3, R, rfl, hown5, hWd, fun i => by rw [HBT.out, HLC.out], hB5⟩
end Go.Proofs.YtcdjfgkjllonhaaDoor
