/-
  The contracts of the reference on lists of coefficients: trim, Of, Sum; for all lists that are short enough. No condition but those in each statement.
-/
import Derived.Test.YtdaijbplbnkpeaaDoorPaw
import Derived.OwnWalk
namespace Go.Proofs.YtdaijbplbnkpeaaDoor
open Go.RowKit Go.Shelf

/-- A coefficient. -/
def cf (p i : Nat) : Int := if p.testBit i then 1 else 0
theorem cf_range (p i : Nat) : 0 ≤ cf p i ∧ cf p i ≤ 1 := by unfold cf; split <;> omega
theorem cf_top {p : Nat} (h : p ≠ 0) : cf p (bl p - 1) = 1 := by
  have := bl_pos h
  unfold cf; rw [top_of_bl (k := bl p - 1) (by omega)]; rfl
theorem cf_high {p i : Nat} (h : bl p ≤ i) : cf p i = 0 := by
  unfold cf
  rw [Nat.testBit_lt_two_pow (Nat.lt_of_lt_of_le (bl_hi p) (Nat.pow_le_pow_right (by omega) h))]
  rfl
theorem cf_div (p i : Nat) : ((p / 2 ^ i % 2 : Nat) : Int) = cf p i := by
  unfold cf
  rw [Nat.testBit_eq_decide_div_mod_eq]
  by_cases h : p / 2 ^ i % 2 = 1
  · simp [h]
  · have : p / 2 ^ i % 2 = 0 := by omega
    simp [this]
theorem cf_xor (a b i : Nat) : cf (a ^^^ b) i = (cf a i + cf b i) % 2 := by
  unfold cf
  rw [Nat.testBit_xor]
  cases a.testBit i <;> cases b.testBit i <;> decide
theorem cf_shift (b k i : Nat) : cf (b * 2 ^ k) i = if k ≤ i then cf b (i - k) else 0 := by
  unfold cf
  rw [Nat.testBit_mul_two_pow]
  by_cases h : k ≤ i
  · simp [h]
  · simp [h]

/-- A slice of n coefficients of p; above them p has none. -/
def Cfs (w : World) (a : Option Addr) (n cap : Nat) (p : Nat) : Prop :=
  bl p ≤ n ∧ n ≤ cap ∧ cap ≤ 9223372036854775807 ∧ (n = 0 ∨ ∃ b off, a = some ⟨b, off, none⟩ ∧ b < w.heap.size ∧ ∀ i, i < n → w.cell? ⟨b, off + i, none⟩ = some (.int .i64 (cf p i)))
theorem Cfs.below {w w' : World} {a : Option Addr} {n cap p : Nat} (h : Cfs w a n cap p) (hb : Below w.heap.size w w') : Cfs w' a n cap p := by
  obtain ⟨h1, h2, h3, h4⟩ := h
  refine ⟨h1, h2, h3, ?_⟩
  rcases h4 with h4 | ⟨b, off, ha, hlt, hc⟩
  · exact .inl h4
  · exact .inr ⟨b, off, ha, Nat.lt_of_lt_of_le hlt hb.size, fun i hi => (hb.cell (p := ⟨b, off + i, none⟩) hlt).trans (hc i hi)⟩
theorem Cfs.view {w : World} {a : Option Addr} {n cap p : Nat} (h : Cfs w a n cap p) (h0 : n ≠ 0) : ∃ b off, a = some ⟨b, off, none⟩ ∧ b < w.heap.size ∧ ∀ i, i < n → w.cell? ⟨b, off + i, none⟩ = some (.int .i64 (cf p i)) := by
  rcases h.2.2.2 with h4 | h4
  · exact absurd h4 h0
  · exact h4
theorem Cfs.cut {w : World} {a : Option Addr} {n cap p : Nat} (h : Cfs w a (n + 1) cap p) (hz : cf p n = 0) : Cfs w a n cap p := by
  obtain ⟨b, off, ha, hlt, hc⟩ := h.view (by omega)
  obtain ⟨h1, h2, h3, _⟩ := h
  refine ⟨?_, by omega, h3, .inr ⟨b, off, ha, hlt, fun i hi => hc i (by omega)⟩⟩
  by_cases hp : p = 0
  · subst hp; simp
  · have := cf_top hp
    by_cases he : bl p = n + 1
    · rw [he, Nat.add_sub_cancel] at this; omega
    · omega

set_option maxHeartbeats 1000000 in
theorem trim_any (w : World) (a : Option Addr) (n cap p : Nat) (h : Cfs w a n cap p) :
    Calls Tryd.prog 76 #[.slice a n cap] w fun e w' => (e = .returned (.slice a (bl p) cap) ∧ Cfs w a (bl p) cap p) ∧ w = w' := by
  have hcapn := h.2.2.1
  have hnc := h.2.1
  go_enter Tryd.func76, Tryd.ntmps76
  go_wp2_with fail
  go_loop [0] (fun s => ∃ n : Nat, s = .slice a n cap ∧ Cfs w a n cap p) (fun s => match s with | .slice _ n _ => n | _ => 0)
  case atStart => exact ⟨n, rfl, h⟩
  case round =>
    clear h hnc
    obtain ⟨n, rfl, h⟩ := hrel
    have hb := h.1
    have hnc := h.2.1
    by_cases h0 : n = 0
    · subst h0
      have hp0 : bl p = 0 := by omega
      rw [← hp0] at h
      have HH := Lib.hid h
      have HP := Lib.hid hp0
      clear h hp0 hb
      go_wp2_with fail
      go_ret
      rw [HP.out]
      exact ⟨⟨rfl, by have := HH.out; rwa [HP.out] at this⟩, rfl⟩
    · obtain ⟨m, rfl⟩ : ∃ m, n = m + 1 := ⟨n - 1, by omega⟩
      obtain ⟨b, off, rfl, hlt, hcell⟩ := h.view (by omega)
      have hc := hcell m (by omega)
      by_cases hz : cf p m = 0
      · have hcut := h.cut hz
        rw [hz] at hc
        have HH := Lib.hid hcut
        clear h hcell hz hcut hb h0
        go_wp2_with fail
        exact ⟨⟨m, rfl, HH.out⟩, Nat.lt_succ_self m⟩
      · have hz1 : cf p m = 1 := by have := cf_range p m; omega
        have hbl : bl p = m + 1 := by
          by_cases hh : bl p ≤ m
          · exact absurd (cf_high hh) hz
          · omega
        rw [hz1] at hc
        rw [← hbl] at h
        have HH := Lib.hid h
        have HP := Lib.hid hbl
        clear h hcell hz hz1 hbl hb h0
        go_wp2_with fail
        go_ret
        exact ⟨⟨by rw [HP.out]; rfl, HH.out⟩, rfl⟩

/-- The coefficients as values. -/
def cfV (p n : Nat) : List Value := (List.range n).map fun i => .int .i64 (cf p i)
theorem cfV_succ (p n : Nat) : cfV p (n + 1) = cfV p n ++ [.int .i64 (cf p n)] := by simp [cfV, List.range_succ]
theorem own_cfs {w : World} {base : Nat} {v : Value} {n p : Nat} (h : w.ownsRow base 3 1 v n (cfV p n)) (hb : bl p ≤ n) : ∃ a cap, v = .slice a n cap ∧ Cfs w a n cap p := by
  rcases h.2 with ⟨rfl, rfl⟩ | ⟨g, cap, cur, rfl, hbg, hg, hn, hm, hc, ht⟩
  · exact ⟨none, 0, rfl, hb, Nat.le_refl _, by omega, .inl rfl⟩
  · refine ⟨_, cap, rfl, hb, hn, by unfold maxLen at hm; omega, .inr ⟨g, 0, rfl, (Array.getElem?_eq_some_iff.1 hg).1, fun i hi => ?_⟩⟩
    have hx := h.cellAt i (by omega)
    rw [Nat.zero_add, hx]
    simp [cfV, hi]
theorem infoInt : (Tryd.prog.info? 3).map (fun i => (i.zero, i.size, i.bytes)) = some (some (.int .i64 0), 1, 8) := by kernel_rfl
theorem one_cellI (w : World) (x : Int) : ∀ j u, [Value.int .i64 x][j]? = some u → (w.alloc (.cells #[.int .i64 x] 3)).cell? ((⟨w.heap.size, 0, none⟩ : Addr).add j) = some u := by
  intro j u hj
  match j, hj with
  | 0, hj => simp at hj; subst hj; simp [Addr.add]
theorem one_oneI (x : Int) : ∀ u ∈ [Value.int .i64 x], u.oneCell' = true := by
  intro u hu; simp at hu; subst hu; rfl
/-- What a call of the reference hands back: a polynomial in new memory. -/
def GivesP (w : World) (p : Nat) (e : Ending) (w' : World) : Prop := ∃ a cap, e = .returned (.slice a (bl p) cap) ∧ Cfs w' a (bl p) cap p ∧ Below w.heap.size w w'

set_option maxHeartbeats 1000000 in
theorem of_any (w : World) (p : Nat) (hp : p < 18446744073709551616) :
    Calls Tryd.prog 59 #[.int .u64 (p : Int)] w (GivesP w p) := by
  have hb := bl_64 hp
  obtain ⟨i0, hi, hz0, hz1, hz2⟩ := info_parts infoInt
  go_enter Tryd.func59, Tryd.ntmps59
  go_wp2_with fail
  go_loopw [3, 4] (fun v i wr => ∃ k : Nat, k ≤ 64 ∧ i = .int .i64 (k : Int) ∧ wr.ownsRow w.heap.size 3 1 v k (cfV p k) ∧ Below w.heap.size w wr) (fun _ i _ => 64 - (intOf i).toNat)
  case atStart => exact ⟨0, by omega, rfl, World.ownsRow_nil _ _ _ _, Below.refl _ _⟩
  case round =>
    obtain ⟨k, hk, rfl, hown, hB⟩ := hrel
    obtain ⟨a, cap, rfl⟩ := own_shape' hown
    by_cases hlt : k < 64
    · have hd : decide ((k : Int) < 64) = true := by simp; omega
      have hsz := hB.size
      have hcf := cf_div p k
      rw [Int.natCast_emod, Int.natCast_ediv, Int.natCast_pow] at hcf
      have hcf2 : (p : Int) / 2 ^ k % 2 = cf p k := hcf
      have hcf3 : wrap64 (((p : Int) / 2 ^ k).tmod 2) = cf p k := by
        have hnn : 0 ≤ (p : Int) / 2 ^ k := Int.ediv_nonneg (Int.natCast_nonneg p) (Int.pow_nonneg (by omega))
        rw [Int.tmod_eq_emod_of_nonneg hnn, hcf2]
        have := cf_range p k
        unfold wrap64; omega
      have HS := Lib.hid (cfV_succ p k)
      have hr := cf_range p k
      clear hcf hcf2
      go_wp2_with (at_builtin; refine wpList_append_own _ rfl _ _ 82 rfl w.heap.size 3 i0 (.int .i64 0) 1 8 Tryd.underlying82 hi hz0 hz1 hz2 rfl (by decide) _ _ _ rfl (hown.alloc _) ⟨wr.heap.size, 0, none⟩ 1 1 [.int .i64 (cf p k)] rfl rfl ?c1 ?c2 ?c3 ?c4 ?c5 ?_)
      case c1 => exact one_cellI _ _
      case c2 => exact one_oneI _
      case c3 => unfold maxLen; omega
      case c4 => omega
      case c5 => simp; omega
      · intro v' w1 hown' hgrow _
        have hb1 : Below w.heap.size w w1 := (hB.alloc hsz _).grown hgrow (by simp; omega) (fun k hk => (hown.lt k hk).1)
        clear hown hgrow
        go_wp2_with fail
        go_roundw
        case rel => exact ⟨k + 1, by omega, by go_num, by rw [HS.out]; exact hown', hb1⟩
        case measure => simp [intOf]; omega
    · obtain rfl : k = 64 := by omega
      obtain ⟨a', cap', hv, hC⟩ := own_cfs hown hb
      cases hv
      clear hown
      go_wp2_with fail
      (with_reducible refine (trim_any _ _ _ _ _ hC).mono ?_)
      rintro e w' ⟨⟨rfl, hC2⟩, rfl⟩
      go_wp2_with fail
      go_ret
      exact ⟨_, _, rfl, hC2, hB⟩
end Go.Proofs.YtdaijbplbnkpeaaDoor
