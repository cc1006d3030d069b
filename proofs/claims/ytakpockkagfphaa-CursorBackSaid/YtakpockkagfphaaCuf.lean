/-
  The contract of a reader's step that takes a number of fixed bytes. No condition but those in each statement.
-/
import Derived.Test.YtakpockkagfphaaCur
import Derived.Test.YtakpockkagfphaaLe
import Derived.Lib.EndianBits
import Derived.Lib.VarintBits
namespace Go.Proofs.Ytakpockkagfphaa
open Go.RowKit Go.Shelf

theorem leV_snoc (l : List Int) (c : Int) : leV (l ++ [c]) = leV l + c * 256 ^ l.length := by
  induction l with
  | nil => simp [leV]
  | cons a r ih =>
    show a + 256 * leV (r ++ [c]) = a + 256 * leV r + c * 256 ^ (r.length + 1)
    rw [ih, Int.pow_succ, Int.mul_add, ← Int.mul_assoc, ← Int.mul_assoc, Int.mul_comm 256 c, Int.add_assoc, Int.mul_assoc c 256, Int.mul_comm 256, Int.mul_comm 256, Int.mul_assoc]

theorem or_at (y c K : Int) (hK : 0 < K) (hw : K * 256 ≤ 18446744073709551616) (hor : ∀ x : Int, 0 ≤ x → x % K = 0 → x < 18446744073709551616 → bits .or .u64 y x = y + x) (hc0 : 0 ≤ c) (hc1 : c ≤ 255) :
    bits .or .u64 y (IntKind.u64.wrap (c * K)) = y + c * K := by
  have h0 : 0 ≤ c * K := Int.mul_nonneg hc0 (by omega)
  have h1 : c * K ≤ 255 * K := Int.mul_le_mul_of_nonneg_right hc1 (by omega)
  have h2 : IntKind.u64.wrap (c * K) = c * K := by rw [IntKind.wrap_u64]; exact Int.emod_eq_of_lt h0 (by omega)
  rw [h2]
  exact hor _ h0 (Int.mul_emod_left _ _) (by omega)

theorem or_step (y c : Int) (j : Nat) (hj : j < 8) (hy0 : 0 ≤ y) (hy1 : y < 256 ^ j) (hc0 : 0 ≤ c) (hc1 : c ≤ 255) :
    bits .or .u64 y (IntKind.u64.wrap (c * 2 ^ (8 * j))) = y + c * 256 ^ j := by
  match j, hj with
  | 0, _ => exact or_at y c 1 (by omega) (by omega) (fun x a b d => u64_orv0 _ _ hy0 (by simpa using hy1) a b d) hc0 hc1
  | 1, _ => exact or_at y c 256 (by omega) (by omega) (fun x a b d => u64_or8 _ _ hy0 (by simpa using hy1) a b d) hc0 hc1
  | 2, _ => exact or_at y c 65536 (by omega) (by omega) (fun x a b d => u64_or16 _ _ hy0 (by simpa using hy1) a b d) hc0 hc1
  | 3, _ => exact or_at y c 16777216 (by omega) (by omega) (fun x a b d => u64_or24 _ _ hy0 (by simpa using hy1) a b d) hc0 hc1
  | 4, _ => exact or_at y c 4294967296 (by omega) (by omega) (fun x a b d => u64_or32 _ _ hy0 (by simpa using hy1) a b d) hc0 hc1
  | 5, _ => exact or_at y c 1099511627776 (by omega) (by omega) (fun x a b d => u64_or40 _ _ hy0 (by simpa using hy1) a b d) hc0 hc1
  | 6, _ => exact or_at y c 281474976710656 (by omega) (by omega) (fun x a b d => u64_or48 _ _ hy0 (by simpa using hy1) a b d) hc0 hc1
  | 7, _ => exact or_at y c 72057594037927936 (by omega) (by omega) (fun x a b d => u64_or56 _ _ hy0 (by simpa using hy1) a b d) hc0 hc1

def StRes (r : Nat) (l : List Int) (ix : Nat) (R : Nat × Int × Int) (w : World) (e : Ending) (w' : World) : Prop :=
  e = .returned (.tuple #[.int .u64 R.2.1, .int .i64 R.2.2]) ∧ (∃ ix2, Rd w' r l ix2 ∧ (R.2.2 = 0 → ix2 = ix + R.1)) ∧ Bx (Only r) w w'

set_option maxRecDepth 100000 in
set_option maxHeartbeats 1000000 in
theorem fixed_rd (w : World) (r : Nat) (l : List Int) (ix n : Nat) (h : Rd w r l ix) (hby : Bytes l) (hn1 : 1 ≤ n) (hn8 : n ≤ 8) :
    Calls Try.prog 55 #[.pointer (some ⟨r, 0, none⟩), .int .u64 n] w (StRes r l ix (fxR l ix n) w) := by
  have hle := h.le
  go_enter Try.func55, Try.ntmps55
  go_wp2_with fail
  go_loopw [6, 9] (fun x i wr => ∃ j p : Nat, p = ix + j ∧ x = .int .u64 (leV ((l.drop ix).take j)) ∧ i = .int .u64 j ∧ j ≤ n ∧ ix + j ≤ l.length ∧ Rd wr r l p ∧ Bx (Only r) w wr) (fun _ i _ => n - (intOf i).toNat)
  case atStart => exact ⟨0, ix, by omega, by simp [leV], rfl, by omega, by simpa using hle, h, Bx.refl _ _⟩
  case round =>
    obtain ⟨j, p, hp, rfl, rfl, hj, hjl, hR, hX⟩ := hrel
    by_cases hlt : j < n
    · have hR0 := hR
      obtain ⟨a, cap, h1, h2, h3, h4, h5⟩ := hR0
      have c0 := h1.c0
      by_cases hend : ix + j = l.length
      · have hb : ((l.length : Int) - p == 0) = true := by simp; omega
        have hE : fxR l ix n = (0, 0, 20) := by
          rw [fxR_go (by omega)]
          have e1 : tkE l.length ix n = 20 := tkE_end (by omega) (by omega)
          have e2 : tkL l ix n = [] := by unfold tkL; rw [e1]; rfl
          rw [e1, e2]; rfl
        have HE := Lib.hid hE
        clear hE hend hp
        go_wp2_with fail
        go_ret2
        exact ⟨by rw [HE.out]; rfl, ⟨_, hR, by rw [HE.out]; intro hh; cases hh⟩, hX⟩
      · have hb : ((l.length : Int) - p == 0) = false := by simp; omega
        go_wp2_with fail
        refine (take_rd _ r l p 1 hR (by omega)).mono ?_
        rintro e w2 ⟨a2, c2, rfl, hs2, hbk, hR2, hX2⟩
        obtain ⟨b, off, rfl, hcell⟩ := hs2.view (by omega)
        have e0 : w2.cell? ⟨b, off, none⟩ = some (.int .u8 (l[p]?.getD 0)) := by
          have := hcell 0 (by omega)
          simpa [List.getElem?_take, List.getElem?_drop] using this
        have hcb := hby.at p (by omega)
        have hnx := take_next (l := l) (ix := ix) (j := j) (by omega)
        rw [← hp] at hnx
        obtain ⟨c, hcd⟩ : ∃ c, c = l[p]?.getD 0 := ⟨_, rfl⟩
        rw [← hcd] at e0 hcb hnx
        have HN := Lib.hid hnx
        have hj8 : j < 8 := by omega
        have hX3 := hX.trans hX2
        clear hcell hX hX2 hR c0 h1 h2 h3 hnx hcd
        go_wp2_with fail
        go_roundw
        case measure => simp [intOf]; omega
        case rel =>
          refine ⟨j + 1, p + 1, by omega, ?_, by go_num, by omega, by omega, hR2, hX3⟩
          have hlen : ((l.drop ix).take j).length = j := by simp; omega
          have hlv := leV_lt ((l.drop ix).take j) j ((hby.drop ix).take j) (by omega)
          rw [or_step _ _ _ hj8 hlv.1 hlv.2 hcb.1 hcb.2, HN.out, leV_snoc, hlen]
    · obtain rfl : j = n := by omega
      have hE : fxR l ix (j : Int) = (j, leV ((l.drop ix).take j), 0) := by
        rw [fxR_go (by omega)]
        have e1 : tkE l.length ix (j : Int) = 0 := tkE_ok (by omega) (by omega)
        have e2 : tkL l ix (j : Int) = (l.drop ix).take j := by unfold tkL; rw [e1]; rfl
        rw [e1, e2, List.length_take, List.length_drop]
        congr 1
        omega
      have HE := Lib.hid hE
      clear hE
      go_wp2_with fail
      go_ret2
      exact ⟨by rw [HE.out]; rfl, ⟨_, hR, by rw [HE.out]; intro _; exact hp⟩, hX⟩
end Go.Proofs.Ytakpockkagfphaa
