/-
  The contracts of a writer's Byte, Number and Fixed. No condition but those in each statement.
-/
import Derived.Test.YtakpockkagfphaaCwr
import Derived.Test.YtakpockkagfphaaPf
namespace Go.Proofs.Ytakpockkagfphaa
open Go.RowKit Go.Shelf

theorem WRes.pre {r : Nat} {lim : Int} {v : Value} {l m : List Int} {w w1 : World} {e : Ending} {w' : World} (h : WRes r lim v l m w1 e w') (hb : Below w.heap.size w w1) : WRes r lim v l m w e w' := by
  unfold WRes at *
  split
  · next hf => rw [if_pos hf] at h; exact ⟨h.1, hb.trans (h.2.mono hb.size)⟩
  · next hf =>
    rw [if_neg hf] at h
    obtain ⟨h1, v', h2, h3, h4⟩ := h
    refine ⟨h1, v', h2, (Bx.of hb).trans h3, fun k hk => ?_⟩
    rcases h4 k hk with h5 | h5
    · exact .inl h5
    · exact .inr (Nat.le_trans hb.size h5)
theorem WRes.full {r : Nat} {lim : Int} {v : Value} {l m : List Int} {w w' : World} {e : Ending} (h : WRes r lim v l m w e w') (hf : lim < (l.length : Int) + m.length) : e = .returned (.int .i64 4) ∧ Below w.heap.size w w' := by
  unfold WRes at h; rwa [if_pos hf] at h
theorem WRes.fits {r : Nat} {lim : Int} {v : Value} {l m : List Int} {w w' : World} {e : Ending} (h : WRes r lim v l m w e w') (hf : ¬ lim < (l.length : Int) + m.length) : e = .returned (.int .i64 0) ∧ ∃ v', Wr w' r lim v' (l ++ m) ∧ Bx (Mine r v) w w' ∧ (∀ k, v'.ownBlock = some k → v.ownBlock = some k ∨ w.heap.size ≤ k) := by
  unfold WRes at h; rwa [if_neg hf] at h
/-- Whatever is answered, it is one number. -/
theorem WRes.num {r : Nat} {lim : Int} {v : Value} {l m : List Int} {w w' : World} {e : Ending} (h : WRes r lim v l m w e w') : ∃ q, e = .returned (.int .i64 q) := by
  by_cases hf : lim < (l.length : Int) + m.length
  · exact ⟨_, (h.full hf).1⟩
  · exact ⟨_, (h.fits hf).1⟩

set_option maxRecDepth 100000 in
set_option maxHeartbeats 1000000 in
theorem wbyte_any (w : World) (r : Nat) (lim : Int) (v : Value) (l : List Int) (x : Int) (h : Wr w r lim v l) :
    Calls Try.prog 31 #[.pointer (some ⟨r, 0, none⟩), .int .u8 x] w (WRes r lim v l [x] w) := by
  have hB0 : Below w.heap.size w (w.alloc (.cells #[.int .u8 x] 5)) := (Below.refl _ _).alloc (Nat.le_refl _) _
  have hsl := (Blk.new .u8 5 w [x]).sl (by simp)
  have hN := Lib.hid (wbytes_any _ r lim v l [x] _ _ (h.below hB0) hsl (by simp))
  clear hsl
  go_enter Try.func31, Try.ntmps31
  go_wp2_with fail
  refine hN.out.mono ?_
  intro e w2 hW
  obtain ⟨q, rfl⟩ := hW.num
  go_wp2_with fail
  go_ret
  exact hW.pre hB0

set_option maxRecDepth 100000 in
set_option maxHeartbeats 1000000 in
theorem wnumber_any (w : World) (r : Nat) (lim : Int) (v : Value) (l : List Int) (x : Int) (h : Wr w r lim v l) (h0 : 0 ≤ x) (h1 : x ≤ 18446744073709551615) :
    Calls Try.prog 34 #[.pointer (some ⟨r, 0, none⟩), .int .u64 x] w (WRes r lim v l (vform x) w) := by
  have hln := vsize_10 h1
  go_enter Try.func34, Try.ntmps34
  go_wp2_with fail
  refine (write_any x _ h0 h1).mono ?_
  rintro e w1 ⟨a1, c1, rfl, hown1, hB1⟩
  have hN := Lib.hid (wbytes_any w1 r lim v l (vform x) a1 c1 (h.below hB1) (own_sl hown1) (by unfold vsize at hln; omega))
  go_wp2_with fail
  refine hN.out.mono ?_
  intro e w2 hW
  obtain ⟨q, rfl⟩ := hW.num
  go_wp2_with fail
  go_ret
  exact hW.pre hB1

set_option maxRecDepth 100000 in
set_option maxHeartbeats 1000000 in
theorem wfixed_arg (w : World) (r : Nat) (lim : Int) (v : Value) (l : List Int) (x n : Int) (h : Wr w r lim v l) (hn : n < 1 ∨ 8 < n) :
    Calls Try.prog 29 #[.pointer (some ⟨r, 0, none⟩), .int .u64 x, .int .i64 n] w fun e w' => e = .returned (.int .i64 2) ∧ w = w' := by
  by_cases h1 : n < 1
  · have hb : decide (n < 1) = true := by simp; omega
    clear hn h1
    go_enter Try.func29, Try.ntmps29
    go_wp2_with (go_at_call 46; refine (none_wr _ r lim _ l h).mono ?_; rintro e w' ⟨rfl, rfl⟩)
    go_ret
    exact ⟨rfl, rfl⟩
  · have hb : decide (n < 1) = false := by simp; omega
    have hb2 : decide (8 < n) = true := by simp; omega
    clear hn h1
    go_enter Try.func29, Try.ntmps29
    go_wp2_with (go_at_call 46; refine (none_wr _ r lim _ l h).mono ?_; rintro e w' ⟨rfl, rfl⟩)
    go_ret
    exact ⟨rfl, rfl⟩

theorem pow_256 (n : Nat) : (2 : Int) ^ (8 * n) = 256 ^ n := by rw [Int.pow_mul]; rfl

set_option maxRecDepth 100000 in
set_option maxHeartbeats 1000000 in
theorem wfixed_over (w : World) (r : Nat) (lim : Int) (v : Value) (l : List Int) (x : Int) (n : Nat) (h : Wr w r lim v l) (hn1 : 1 ≤ n) (hn8 : n ≤ 8) (ho : 0 < x / 256 ^ n) :
    Calls Try.prog 29 #[.pointer (some ⟨r, 0, none⟩), .int .u64 x, .int .i64 n] w fun e w' => e = .returned (.int .i64 2) ∧ w = w' := by
  have hb : decide ((n : Int) < 1) = false := by simp; omega
  have hb2 : decide (8 < (n : Int)) = false := by simp; omega
  have hb3 : (x / 2 ^ (8 * n) != 0) = true := by rw [pow_256]; simp; omega
  clear ho
  go_enter Try.func29, Try.ntmps29
  go_wp2_with (go_at_call 46; refine (none_wr _ r lim _ l h).mono ?_; rintro e w' ⟨rfl, rfl⟩)
  go_ret
  exact ⟨rfl, rfl⟩

theorem take_set {ys : List Value} {j : Nat} {u : Value} (h : j < ys.length) : (ys.set j u).take (j + 1) = ys.take j ++ [u] := by
  rw [List.take_succ_eq_append_getElem (by simpa using h), List.take_set, List.set_eq_of_length_le (by simp; omega)]
  simp

set_option maxRecDepth 100000 in
set_option maxHeartbeats 2000000 in
theorem wfixed_fit (w : World) (r : Nat) (lim : Int) (v : Value) (l : List Int) (x : Int) (n : Nat) (h : Wr w r lim v l) (hn1 : 1 ≤ n) (hn8 : n ≤ 8) (h0 : 0 ≤ x) (ho : ¬ 0 < x / 256 ^ n) :
    Calls Try.prog 29 #[.pointer (some ⟨r, 0, none⟩), .int .u64 x, .int .i64 n] w (WRes r lim v l (leB n x) w) := by
  have hb : decide ((n : Int) < 1) = false := by simp; omega
  have hb2 : decide (8 < (n : Int)) = false := by simp; omega
  have hb3 : (x / 2 ^ (8 * n) != 0) = false := by
    rw [pow_256]
    have : 0 ≤ x / 256 ^ n := Int.ediv_nonneg h0 (Int.pow_nonneg (by omega))
    simp; omega
  obtain ⟨i0, hinf, hz0, hz1, hz2⟩ := info_parts infoU8
  clear ho
  go_enter Try.func29, Try.ntmps29
  go_wp2_with (first
    | (go_at_call 46; refine (none_wr _ r lim _ l h).mono ?_; rintro e w' ⟨rfl, rfl⟩)
    | (at_make; refine wpList_make_full _ rfl _ _ 22 rfl w.heap.size 5 i0 (.int .u8 0) 1 Try.underlying22 hinf hz0 hz1 .i64 .i64 _ _ n rfl rfl rfl rfl (by rw [hz2]; omega) (by unfold maxLen; omega) (Nat.le_refl _) ?_; intro w0 hown0 hgrow0))
  have hB0 : Below w.heap.size w w0 := (Below.refl _ _).grown hgrow0 (Nat.le_refl _) (fun _ hk => by cases hk)
  go_loopw [28] (fun i wr => ∃ (j : Nat) (ys : List Value), i = .int .i64 j ∧ j ≤ n ∧ wr.ownsRow w.heap.size 5 1 (.slice (some ⟨w.heap.size, 0, none⟩) n n) n ys ∧ ys.take j = (leB j x).map (Value.int .u8) ∧ Below w.heap.size w wr) (fun i _ => n - (intOf i).toNat)
  case atStart => exact ⟨0, _, rfl, by omega, hown0, by simp [leB], hB0⟩
  case round =>
    obtain ⟨j, ys, rfl, hj, hown, hys, hbel⟩ := hrel
    have hyl := hown.1
    by_cases hlt : j < n
    · obtain ⟨y, hy⟩ : ∃ y, ys[j]? = some y := ⟨ys[j], List.getElem?_eq_getElem (by omega)⟩
      have e0 := hown.cellAt j (by omega)
      rw [hy] at e0
      have e1 := hown.frozenAt j
      have hst := fun u => (hown.stored j u).1
      have hbl := fun u => hbel.setCell (p := ⟨w.heap.size, j, none⟩) (Nat.le_refl _) u
      have hts := fun u => take_set (ys := ys) (j := j) (u := u) (by omega)
      have HN := Lib.hid (leB_succ j x)
      have HT := Lib.hid hts
      have HY := Lib.hid hys
      clear hyl hown hys hts
      go_wp2_with fail
      go_roundw
      case rel => exact ⟨j + 1, _, by go_num, by omega, hst _, by rw [HT.out, HY.out, HN.out, pow_256]; simp, hbl _⟩
      case measure => simp [intOf]; omega
    · obtain rfl : j = n := by omega
      have hye : ys = (leB j x).map (Value.int .u8) := by rw [← hys, List.take_of_length_le (by omega)]
      rw [hye] at hown
      have hW := wbytes_any wr r lim v l (leB j x) (some ⟨w.heap.size, 0, none⟩) j (h.below hbel) (by rw [leB_length]; exact own_sl hown) (by rw [leB_length]; omega)
      rw [leB_length] at hW
      have HW := Lib.hid hW
      clear hW hye hys hown hyl
      go_wp2_with fail
      refine HW.out.mono ?_
      intro e w2 hW2
      obtain ⟨q, rfl⟩ := hW2.num
      go_wp2_with fail
      go_ret
      exact hW2.pre hbel
end Go.Proofs.Ytakpockkagfphaa
