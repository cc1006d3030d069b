/-
  The contract of the second reference's Count.
-/
import Derived.Test.YtakpockkagfphaaNb
import Derived.Laws.NewBlocks
namespace Go.Proofs.Ytakpockkagfphaa
open Go.RowKit Go.Shelf

theorem rnumber_at (w : World) (a : Option Addr) (len cap ix : Nat) (l : List Int) (top : Int) (m : Nat) (z er : Int) (hr : nbR l ix top = (m, z, er)) (hs : Sl .u8 w a len cap l) (hby : Bytes l) (hi : ix ≤ len) (hc : len ≤ 140737488355000) :
    Calls Try.prog 59 #[.agg #[.slice a len cap, .int .i64 ix], .int .u64 top] w fun e w' => e = .returned (.tuple #[.agg #[.slice a len cap, .int .i64 ((ix : Int) + m)], .int .u64 z, .int .i64 er]) ∧ Below w.heap.size w w' := by
  refine (rnumber_any w a len cap ix l top hs hby hi hc).mono ?_
  rintro e w' ⟨rfl, hB⟩
  rw [hr]
  exact ⟨by simp, hB⟩

/-- What Count returns: how many bytes it takes, the count, the error. -/
def ctR (l : List Int) (ix : Nat) (top size : Int) : Nat × Int × Int :=
  if top < 0 ∨ size < 1 then (0, 0, 2) else
  let r := nbR l ix top
  if r.2.2 ≠ 0 then (0, 0, r.2.2) else if (l.length : Int) - (ix + r.1) < r.2.1 * size then (0, 0, 20) else r

theorem ctR_arg {l : List Int} {ix : Nat} {top size : Int} (h : top < 0 ∨ size < 1) : ctR l ix top size = (0, 0, 2) := by unfold ctR; rw [if_pos h]
theorem ctR_err {l : List Int} {ix : Nat} {top size z er : Int} {m : Nat} (h : ¬ (top < 0 ∨ size < 1)) (hr : nbR l ix top = (m, z, er)) (he : er ≠ 0) : ctR l ix top size = (0, 0, er) := by
  unfold ctR; rw [if_neg h, hr]; simp [he]
theorem ctR_end {l : List Int} {ix : Nat} {top size z : Int} {m : Nat} (h : ¬ (top < 0 ∨ size < 1)) (hr : nbR l ix top = (m, z, 0)) (he : (l.length : Int) - (ix + m) < z * size) : ctR l ix top size = (0, 0, 20) := by
  unfold ctR; rw [if_neg h, hr]; simp [he]
theorem ctR_ok {l : List Int} {ix : Nat} {top size z : Int} {m : Nat} (h : ¬ (top < 0 ∨ size < 1)) (hr : nbR l ix top = (m, z, 0)) (he : ¬ (l.length : Int) - (ix + m) < z * size) : ctR l ix top size = (m, z, 0) := by
  unfold ctR; rw [if_neg h, hr]; simp [he]

theorem nbR_good {l : List Int} {ix : Nat} {top z : Int} {m : Nat} (hB : Bytes l) (h : nbR l ix top = (m, z, 0)) (hi : ix ≤ l.length) : ix + m ≤ l.length ∧ 0 ≤ z ∧ z ≤ top := by
  unfold nbR at h
  obtain ⟨z1, m1, e1, hv⟩ : ∃ z m er, vread (l.drop ix) = (z, m, er) := ⟨_, _, _, rfl⟩
  rw [hv] at h
  simp only at h
  split at h
  · rename_i h1; simp at h; exact absurd h.2.2 h1
  · rename_i h1
    have he : e1 = 0 := by omega
    subst he
    split at h
    · simp at h
    · simp at h
      obtain ⟨rfl, rfl⟩ := h
      have hp := vread_pos (l := l.drop ix) (by rw [hv]) (hB.drop ix)
      rw [hv] at hp
      obtain ⟨b, hz0, _, _, _⟩ := vread_inv (hB.drop ix) hv
      exact ⟨by have := hp.2; simp at this; omega, hz0, by omega⟩

def CtRes (l : List Int) (a : Option Addr) (len cap ix : Nat) (top size : Int) (w : World) (e : Ending) (w' : World) : Prop :=
  e = .returned (.tuple #[.agg #[.slice a len cap, .int .i64 ((ix : Int) + (ctR l ix top size).1)], .int .i64 (ctR l ix top size).2.1, .int .i64 (ctR l ix top size).2.2]) ∧ Below w.heap.size w w'

set_option maxRecDepth 100000 in
set_option maxHeartbeats 2000000 in
theorem rcount_arg (w : World) (a : Option Addr) (len cap ix : Nat) (l : List Int) (top size : Int) (h : top < 0 ∨ size < 1) :
    Calls Try.prog 60 #[.agg #[.slice a len cap, .int .i64 ix], .int .i64 top, .int .i64 size] w (CtRes l a len cap ix top size w) := by
  have HR := Lib.hid (ctR_arg (l := l) (ix := ix) h)
  by_cases ht : top < 0
  · have hb1 : decide (top < 0) = true := by simp; omega
    clear h
    go_enter Try.func60, Try.ntmps60
    go_wp2_with fail
    refine bodyPost_cell3 rfl (w.heap.size + 1) rfl _ _ (Two.new2 _ _ _ _ _).range Try.underlying71 rfl (by kernel_rfl) rfl ?_
    exact ⟨by rw [HR.out]; simp, ((Below.refl _ _).alloc (Nat.le_refl _) _).alloc (by simp) _⟩
  · have hb1 : decide (top < 0) = false := by simp; omega
    have hb2 : decide (size < 1) = true := by simp; omega
    clear h
    go_enter Try.func60, Try.ntmps60
    go_wp2_with fail
    refine bodyPost_cell3 rfl (w.heap.size + 1) rfl _ _ (Two.new2 _ _ _ _ _).range Try.underlying71 rfl (by kernel_rfl) rfl ?_
    exact ⟨by rw [HR.out]; simp, ((Below.refl _ _).alloc (Nat.le_refl _) _).alloc (by simp) _⟩

theorem count_end {L b y size z : Int} {j : Nat} (h : y = L - b - j * size) (hj : (j : Int) < z) (hy : y < size) (hs : 1 ≤ size) : L - b < z * size := by
  have h1 : ((j : Int) + 1) * size ≤ z * size := Int.mul_le_mul_of_nonneg_right (by omega) (by omega)
  rw [Int.add_mul, Int.one_mul] at h1
  omega
theorem count_step {L b y size : Int} {j : Nat} (h : y = L - b - j * size) : y - size = L - b - ((j + 1 : Nat) : Int) * size := by
  have : ((j + 1 : Nat) : Int) * size = j * size + size := by rw [Int.natCast_add, Int.add_mul]; simp
  omega
theorem count_ok {L b y size z : Int} {j : Nat} (h : y = L - b - j * size) (hj : (j : Int) = z) (hy : 0 ≤ y) : ¬ L - b < z * size := by
  rw [← hj]; omega

set_option maxRecDepth 100000 in
set_option maxHeartbeats 4000000 in
theorem rcount_go (w : World) (a : Option Addr) (len cap ix : Nat) (l : List Int) (top size : Int) (hs : Sl .u8 w a len cap l) (hby : Bytes l) (hi : ix ≤ len) (hc : len ≤ 140737488355000)
    (h : ¬ (top < 0 ∨ size < 1)) (htm : top ≤ 9223372036854775807) (hsm : size ≤ 9223372036854775807) :
    Calls Try.prog 60 #[.agg #[.slice a len cap, .int .i64 ix], .int .i64 top, .int .i64 size] w (CtRes l a len cap ix top size w) := by
  have hb1 : decide (top < 0) = false := by simp; omega
  have hb2 : decide (size < 1) = false := by simp; omega
  have hcl := hs.2.1
  obtain ⟨m, z, er, hv⟩ : ∃ m z er, nbR l ix top = (m, z, er) := ⟨_, _, _, rfl⟩
  have hrr := Lib.hid hv
  have HH := Lib.hid h
  have hB0 : Below w.heap.size w ((w.alloc (.cells #[.slice a len cap, .int .i64 ix] 71)).alloc (.cells #[.slice none 0 0, .int .i64 0] 71)) := ((Below.refl _ _).alloc (Nat.le_refl _) _).alloc (by simp) _
  have hT1 := (Two.new w 71 (.slice a len cap) (.int .i64 ix)).alloc (.cells #[.slice none 0 0, .int .i64 0] 71)
  have hT2 := Two.new2 w (.cells #[.slice a len cap, .int .i64 ix] 71) 71 (.slice none 0 0) (.int .i64 0)
  have hs2 := hs.below hB0
  have ht0 : 0 ≤ top := by omega
  have hs1 : 1 ≤ size := by omega
  clear h hv
  by_cases her : er = 0
  · subst her
    have hgd := nbR_good hby hrr.out (by rw [hs.1]; exact hi)
    obtain ⟨hm, hz0, hzt⟩ := hgd
    rw [hs.1] at hm
    have hbe : ((0 : Int) != 0) = false := rfl
    have hll := Lib.hid hs.1
    go_enter Try.func60, Try.ntmps60
    go_wp2_with fail
    refine (rnumber_at _ _ _ _ _ l _ m z _ hrr.out hs2 hby hi hc).mono ?_
    rintro e w1 ⟨rfl, hB1⟩
    have hsz := hB1.size
    simp only [World.size_alloc] at hsz
    have hU1 := hT1.below hB1 (by simp; omega)
    have hU2 := hT2.below hB1 (by simp)
    have e0 := hU1.c0
    have e1 := hU1.c1
    have e2 := hU2.c0
    have e3 := hU2.c1
    have e4 := hU2.f0
    have e5 := hU2.f1
    have g0 : ∀ o, (w1.alloc o).cell? ⟨w.heap.size, 0, none⟩ = some (.slice a len cap) := fun o => (hU1.alloc o).c0
    have g1 : ∀ o, (w1.alloc o).cell? ⟨w.heap.size, 1, none⟩ = some (.int .i64 ix) := fun o => (hU1.alloc o).c1
    have g2 : ∀ o, (w1.alloc o).cell? ⟨w.heap.size + 1, 0, none⟩ = some (.slice none 0 0) := fun o => (hU2.alloc o).c0
    have g3 : ∀ o, (w1.alloc o).cell? ⟨w.heap.size + 1, 1, none⟩ = some (.int .i64 0) := fun o => (hU2.alloc o).c1
    have g4 : ∀ o, (w1.alloc o).frozen? ⟨w.heap.size + 1, 0, none⟩ = false := fun o => (hU2.alloc o).f0
    have g5 : ∀ o, (w1.alloc o).frozen? ⟨w.heap.size + 1, 1, none⟩ = false := fun o => (hU2.alloc o).f1
    have hV2 := hU2.alloc (.cells #[.slice a len cap, .int .i64 ((ix : Int) + m)] 71)
    have hBw := hB0.trans (hB1.mono (by simp; omega))
    clear hB1 hB0 hT1 hT2
    go_wp2_with fail
    go_loop [12, 13] (fun x k => ∃ (y : Int) (j : Nat), x = .int .i64 y ∧ k = .int .u64 j ∧ 0 ≤ y ∧ (j : Int) + y ≤ (len : Int) - (ix + m) ∧ (j : Int) ≤ z ∧ Aside (y = (len : Int) - (ix + m) - j * size)) (fun x _ => (intOf x).toNat)
    case atStart => exact ⟨(len : Int) - (ix + m), 0, rfl, rfl, by omega, by omega, by omega, by simp [Aside]⟩
    case round =>
      obtain ⟨y, j, rfl, rfl, hy0, hyj, hjz, HY⟩ := hrel
      by_cases hlt : (j : Int) < z
      · have hc1 : decide ((j : Int) < z) = true := by simp; omega
        by_cases hys : y < size
        · have hc2 : decide (y < size) = true := by simp; omega
          have HR := Lib.hid (ctR_end HH.out hrr.out (count_end (by rw [hll.out]; exact HY.out) hlt hys hs1))
          go_wp2_with fail
          refine bodyPost_cell3 rfl (w.heap.size + 1) rfl _ _ (hV2.range_set _ _) Try.underlying71 rfl (by kernel_rfl) rfl ?_
          exact ⟨by rw [HR.out]; simp, ((hBw.alloc (by omega) _).setCell (p := ⟨w.heap.size + 1, 0, none⟩) (by simp) _).setCell (p := ⟨w.heap.size + 1, 1, none⟩) (by simp) _⟩
        · have hc2 : decide (y < size) = false := by simp; omega
          go_wp2_with fail
          go_round
          case rel => exact ⟨y - size, j + 1, by go_num, by go_num, by omega, by omega, by omega, count_step HY.out⟩
          case measure => simp [intOf]; omega
      · have hc1 : decide ((j : Int) < z) = false := by simp; omega
        have HR := Lib.hid (ctR_ok HH.out hrr.out (count_ok (by rw [hll.out]; exact HY.out) (by omega) hy0))
        go_wp2_with fail
        refine bodyPost_cell3 rfl (w.heap.size + 1) rfl _ _ (hV2.range_set _ _) Try.underlying71 rfl (by kernel_rfl) rfl ?_
        exact ⟨by rw [HR.out]; simp, ((hBw.alloc (by omega) _).setCell (p := ⟨w.heap.size + 1, 0, none⟩) (by simp) _).setCell (p := ⟨w.heap.size + 1, 1, none⟩) (by simp) _⟩
  · have hbe : (er != 0) = true := by simp; exact her
    have HR := Lib.hid (ctR_err HH.out hrr.out her)
    go_enter Try.func60, Try.ntmps60
    go_wp2_with fail
    refine (rnumber_at _ _ _ _ _ l _ m z er hrr.out hs2 hby hi hc).mono ?_
    rintro e w1 ⟨rfl, hB1⟩
    have hsz := hB1.size
    simp only [World.size_alloc] at hsz
    have hU1 := hT1.below hB1 (by simp; omega)
    have hU2 := hT2.below hB1 (by simp)
    have e0 := hU1.c0
    have e1 := hU1.c1
    have e2 := hU2.c0
    have e3 := hU2.c1
    have e4 := hU2.f0
    have e5 := hU2.f1
    have g0 : ∀ o, (w1.alloc o).cell? ⟨w.heap.size, 0, none⟩ = some (.slice a len cap) := fun o => (hU1.alloc o).c0
    have g1 : ∀ o, (w1.alloc o).cell? ⟨w.heap.size, 1, none⟩ = some (.int .i64 ix) := fun o => (hU1.alloc o).c1
    have g2 : ∀ o, (w1.alloc o).cell? ⟨w.heap.size + 1, 0, none⟩ = some (.slice none 0 0) := fun o => (hU2.alloc o).c0
    have g3 : ∀ o, (w1.alloc o).cell? ⟨w.heap.size + 1, 1, none⟩ = some (.int .i64 0) := fun o => (hU2.alloc o).c1
    have g4 : ∀ o, (w1.alloc o).frozen? ⟨w.heap.size + 1, 0, none⟩ = false := fun o => (hU2.alloc o).f0
    have g5 : ∀ o, (w1.alloc o).frozen? ⟨w.heap.size + 1, 1, none⟩ = false := fun o => (hU2.alloc o).f1
    have hV2 := hU2.alloc (.cells #[.slice a len cap, .int .i64 ((ix : Int) + m)] 71)
    have hBw := hB0.trans (hB1.mono (by simp; omega))
    clear hB1 hB0 hT1 hT2
    go_wp2_with fail
    refine bodyPost_cell3 rfl (w.heap.size + 1) rfl _ _ (hV2.range_set _ _) Try.underlying71 rfl (by kernel_rfl) rfl ?_
    exact ⟨by rw [HR.out]; simp, ((hBw.alloc (by omega) _).setCell (p := ⟨w.heap.size + 1, 0, none⟩) (by simp) _).setCell (p := ⟨w.heap.size + 1, 1, none⟩) (by simp) _⟩
end Go.Proofs.Ytakpockkagfphaa
