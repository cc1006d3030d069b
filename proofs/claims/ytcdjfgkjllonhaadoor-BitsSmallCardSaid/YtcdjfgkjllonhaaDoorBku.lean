/-
  The contract of the laws' sameRuns: whether two lists of pairs read alike.
-/
import Derived.Test.YtcdjfgkjllonhaaDoorBkt
import Derived.Deep.MidRow
import Derived.Laws.StructEq
import Derived.BigRegion
namespace Go.Proofs.YtcdjfgkjllonhaaDoor
open Go.RowKit Go.Shelf

/-- Whether two lists of pairs are one; it is not unfolded. -/
def eqR (R S : List (Nat × Nat)) : Bool := decide (R = S)
theorem eqR_yes {R S : List (Nat × Nat)} (h : R = S) : eqR R S = true := by unfold eqR; simpa using h
theorem eqR_no {R S : List (Nat × Nat)} (h : R ≠ S) : eqR R S = false := by unfold eqR; simpa using h
attribute [irreducible] eqR
theorem pcs_at {R : List (Nat × Nat)} {i : Nat} (h : i < R.length) : (pcs R)[i * 2]? = some (.int .i64 ((R[i].1 : Nat) : Int)) ∧ (pcs R)[i * 2 + 1]? = some (.int .i64 ((R[i].2 : Nat) : Int)) := by
  induction R generalizing i with
  | nil => simp at h
  | cons p R ih =>
    cases i with
    | zero => exact ⟨rfl, rfl⟩
    | succ i =>
      have := ih (i := i) (by simpa using h)
      have e : pcs (p :: R) = .int .i64 (p.1 : Int) :: .int .i64 (p.2 : Int) :: pcs R := by simp [pcs]
      rw [e, show (i + 1) * 2 = i * 2 + 1 + 1 by omega, show i * 2 + 1 + 1 + 1 = i * 2 + 1 + 1 + 1 from rfl]
      simpa using this
/-- A row of pairs, where one of them lies. -/
theorem own_pair {w : World} {base : Nat} {a : Option Addr} {N c n : Nat} {R : List (Nat × Nat)} (h : w.ownsRow base 50 2 (.slice a N c) n (pcs R)) {i : Nat} (hi : i < n) : ∃ g, a = some ⟨g, 0, none⟩ ∧ w.rangeAt g (i * 2) [.int .i64 ((R[i]?.getD (0, 0)).1 : Nat), .int .i64 ((R[i]?.getD (0, 0)).2 : Nat)] := by
  have hl : R.length = n := by have h1 := h.1; rw [pcs_len] at h1; omega
  rcases h.2 with ⟨_, h0⟩ | ⟨g, cap, cur, hv, hb, hh, hn, hm, hc, ht⟩
  · omega
  · cases hv
    refine ⟨g, rfl, fun j v hj => ?_⟩
    have hp := pcs_at (R := R) (i := i) (by omega)
    rw [List.getElem?_eq_getElem (by omega : i < R.length)] at hj
    have hcell : ∀ k x, k < N * 2 → (pcs R)[k]? = some x → w.cell? ⟨g, k, none⟩ = some x := fun k x hk hx => by
      rw [← ht, List.getElem?_take, if_pos hk, Array.getElem?_toList] at hx
      simp [World.cell?, hh, hx]
    match j, hj with
    | 0, hj => simp at hj; subst hj; exact hcell _ _ (by omega) hp.1
    | 1, hj => simp at hj; subst hj; exact hcell _ _ (by omega) hp.2

/-- Whether two pairs differ. -/
theorem neq_pair (x1 x2 y1 y2 : Int) (w : World) : (binOp .neq 50 (.agg #[.int .i64 x1, .int .i64 x2]) (.agg #[.int .i64 y1, .int .i64 y2])).run Tryd.prog w = .ok (.bool (!(x1 == y1 && x2 == y2))) w := by
  have u3 := Tryd.underlying3
  have a3 := Tryd.isAgg3
  have z3 := Tryd.sizeOf3
  rw [run_neq_struct, show (10000 : Nat) = 9999 + 1 from rfl, Op.equalIn]
  simp only [Sem.run_bind, run_underlying Tryd.underlying50, Result.andThen_ok]
  simp only [Std.Legacy.Range.forIn_eq_forIn_range', Std.Legacy.Range.size, Nat.sub_zero, Nat.add_sub_cancel, Nat.div_one, List.range'_succ, List.range'_zero, List.forIn_cons, List.forIn_nil]
  go_simp
  by_cases h1 : x1 = y1 <;> by_cases h2 : x2 = y2 <;> simp [h1, h2]

set_option maxRecDepth 100000 in
set_option maxHeartbeats 2000000 in
theorem sameRuns_any (w : World) (b1 b2 : Nat) (a1 a2 : Option Addr) (n1 c1 n2 c2 : Nat) (R S : List (Nat × Nat)) (h1 : w.ownsRow b1 50 2 (.slice a1 n1 c1) n1 (pcs R)) (h2 : w.ownsRow b2 50 2 (.slice a2 n2 c2) n2 (pcs S)) (hb1 : n1 ≤ 1000000) :
    Calls Tryd.prog 47 #[.slice a1 n1 c1, .slice a2 n2 c2] w fun e w' => e = .returned (.bool (eqR R S)) ∧ Draws w w' := by
  have hl1 : R.length = n1 := by have h := h1.1; rw [pcs_len] at h; omega
  have hl2 : S.length = n2 := by have h := h2.1; rw [pcs_len] at h; omega
  by_cases hn : n1 = n2
  · subst hn
    have hne : ((n1 : Int) != (n1 : Int)) = false := by simp
    have HL1 := Lib.hid hl1
    have HL2 := Lib.hid hl2
    have H1 := Lib.hid h1
    have H2 := Lib.hid h2
    clear hl1 hl2 h1 h2
    go_enter Tryd.func47, Tryd.ntmps47
    go_wp2_with fail
    go_loopw [13] (fun I wr => ∃ (j q : Nat), j ≤ n1 ∧ I = .int .i64 (j : Int) ∧ wr = w.drewN q ∧ R.take j = S.take j) (fun I _ => n1 - (intOf I).toNat)
    case atStart => exact ⟨0, 0, by omega, rfl, rfl, by simp⟩
    case round =>
      obtain ⟨j, q, hj, rfl, hw, ht⟩ := hrel
      have HT := Lib.hid ht
      have HW := Lib.hid hw
      clear ht hw
      by_cases hlt : j < n1
      · have hd : decide ((j : Int) < (n1 : Int)) = true := by simp; omega
        have hdn : decide (j < n1) = true := by simp; omega
        have i1 : (j : Int) < (n1 : Int) := by omega
        obtain ⟨g1, rfl, r1⟩ := own_pair H1.out hlt
        obtain ⟨g2, rfl, r2⟩ := own_pair H2.out hlt
        have r1' : wr.rangeAt g1 (j * 2) [.int .i64 ((R[j]?.getD (0, 0)).1 : Nat), .int .i64 ((R[j]?.getD (0, 0)).2 : Nat)] := by rw [HW.out]; exact r1
        have r2' : wr.rangeAt g2 (j * 2) [.int .i64 ((S[j]?.getD (0, 0)).1 : Nat), .int .i64 ((S[j]?.getD (0, 0)).2 : Nat)] := by rw [HW.out]; exact r2
        obtain ⟨x1, hx1⟩ : ∃ x, x = (R[j]?.getD (0, 0)).1 := ⟨_, rfl⟩
        obtain ⟨x2, hx2⟩ : ∃ x, x = (R[j]?.getD (0, 0)).2 := ⟨_, rfl⟩
        obtain ⟨y1, hy1⟩ : ∃ x, x = (S[j]?.getD (0, 0)).1 := ⟨_, rfl⟩
        obtain ⟨y2, hy2⟩ : ∃ x, x = (S[j]?.getD (0, 0)).2 := ⟨_, rfl⟩
        rw [← hx1, ← hx2] at r1'
        rw [← hy1, ← hy2] at r2'
        have l1 := run_loadVar_mid (P := Tryd.prog) wr g1 (j * 2) 50 _ _ r1' Tryd.underlying50 rfl (by kernel_rfl)
        have l2 := run_loadVar_mid (P := Tryd.prog) wr g2 (j * 2) 50 _ _ r2' Tryd.underlying50 rfl (by kernel_rfl)
        have e1 : wr.cell? ⟨g1, j * 2, none⟩ = some (.int .i64 (x1 : Int)) := r1' 0 _ rfl
        have e2 : wr.cell? ⟨g1, j * 2 + 1, none⟩ = some (.int .i64 (x2 : Int)) := r1' 1 _ rfl
        have e3 : wr.cell? ⟨g2, j * 2, none⟩ = some (.int .i64 (y1 : Int)) := r2' 0 _ rfl
        have e4 : wr.cell? ⟨g2, j * 2 + 1, none⟩ = some (.int .i64 (y2 : Int)) := r2' 1 _ rfl
        clear r1' r2'
        have ej : (j : Int) * 2 = ((j * 2 : Nat) : Int) := by omega
        by_cases hv : x1 = y1 ∧ x2 = y2
        · have hlR : j < R.length := by rw [HL1.out]; exact hlt
          have hlS : j < S.length := by rw [HL2.out]; exact hlt
          have hn : R.take (j + 1) = S.take (j + 1) := by
            rw [List.take_succ_eq_append_getElem hlR, List.take_succ_eq_append_getElem hlS, HT.out]
            rw [List.getElem?_eq_getElem hlR] at hx1 hx2
            rw [List.getElem?_eq_getElem hlS] at hy1 hy2
            simp only [Option.getD_some] at hx1 hx2 hy1 hy2
            congr 2
            exact Prod.ext (by rw [← hx1, ← hy1]; exact hv.1) (by rw [← hx2, ← hy2]; exact hv.2)
          have HNX := Lib.hid hn
          have hq := fun w => neq_pair (x1 : Int) (x2 : Int) (y1 : Int) (y2 : Int) w
          have hb : (((x1 : Int) == (y1 : Int)) && ((x2 : Int) == (y2 : Int))) = true := by rw [hv.1, hv.2]; simp
          simp only [hb, Bool.not_true] at hq
          clear r1 r2 hx1 hx2 hy1 hy2 hn ej hb hv
          go_wp2_with fail
          go_quiet (fail)
          go_wp2_with fail
          go_roundw
          case rel => exact ⟨j + 1, q + nq, by omega, by go_num, by rw [HW.out, drewN_add], HNX.out⟩
          case measure => simp [intOf]; omega
        · have hq := fun w => neq_pair (x1 : Int) (x2 : Int) (y1 : Int) (y2 : Int) w
          have hb : (((x1 : Int) == (y1 : Int)) && ((x2 : Int) == (y2 : Int))) = false := by
            rw [Bool.and_eq_false_iff]
            by_cases h1 : x1 = y1
            · right; simp; exact fun h => hv ⟨h1, by omega⟩
            · left; simp; omega
          simp only [hb, Bool.not_false] at hq
          have hR : R ≠ S := fun e => by subst e; exact hv ⟨by rw [hx1, hy1], by rw [hx2, hy2]⟩
          have HR := Lib.hid (eqR_no hR)
          clear r1 r2 hx1 hx2 hy1 hy2 ej hb hv hR
          go_wp2_with fail
          go_quiet (fail)
          go_wp2_with fail
          go_ret
          exact ⟨by rw [HR.out]; rfl, q + nq, by rw [HW.out, drewN_add]⟩
      · have hd : decide ((j : Int) < (n1 : Int)) = false := by simp; omega
        have hdn : decide (j < n1) = false := by simp; omega
        have hR : R = S := by
          have h := HT.out
          rwa [List.take_of_length_le (by rw [HL1.out]; omega), List.take_of_length_le (by rw [HL2.out]; omega)] at h
        have HR := Lib.hid (eqR_yes hR)
        clear hR
        go_wp2_with fail
        go_ret
        exact ⟨by rw [HR.out]; rfl, q, HW.out⟩
  · have hne : ((n1 : Int) != (n2 : Int)) = true := by simp; omega
    have hR : R ≠ S := fun e => by subst e; omega
    rw [eqR_no hR]
    clear hR hl1 hl2 h1 h2
    go_enter Tryd.func47, Tryd.ntmps47
    go_wp2_with fail
    go_ret
    exact ⟨rfl, 0, rfl⟩
end Go.Proofs.YtcdjfgkjllonhaaDoor
