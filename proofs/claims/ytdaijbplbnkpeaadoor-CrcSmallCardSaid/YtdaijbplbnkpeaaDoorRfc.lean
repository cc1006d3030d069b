/-
  The contracts of the reference's Product, Divide, Number and number; for all lists that are short enough. No condition but those in each statement.
-/
import Derived.Test.YtdaijbplbnkpeaaDoorRfb
namespace Go.Proofs.YtdaijbplbnkpeaaDoor
open Go.RowKit Go.Shelf

theorem mod_bit (B i : Nat) : B % 2 ^ (i + 1) = if B.testBit i then B % 2 ^ i ^^^ 2 ^ i else B % 2 ^ i := by
  refine Nat.eq_of_testBit_eq fun j => ?_
  by_cases hb : B.testBit i = true
  · rw [if_pos hb, Nat.testBit_xor, Nat.testBit_mod_two_pow, Nat.testBit_mod_two_pow, Nat.testBit_two_pow]
    by_cases hj : i = j
    · subst hj; simp [hb]
    · have : decide (j < i + 1) = decide (j < i) := by simp; omega
      rw [this]; simp [hj]
  · rw [if_neg hb, Nat.testBit_mod_two_pow, Nat.testBit_mod_two_pow]
    by_cases hj : i = j
    · subst hj; simp at hb; simp [hb]
    · have : decide (j < i + 1) = decide (j < i) := by simp; omega
      rw [this]
theorem prod_step1 {A B i : Nat} (h : cf B i = 1) : cm A (B % 2 ^ (i + 1)) = cm A (B % 2 ^ i) ^^^ A * 2 ^ i := by
  have hb : B.testBit i = true := by unfold cf at h; split at h <;> simp_all
  rw [mod_bit, if_pos hb, cm_xor_right, cm_pow]
theorem prod_step0 {A B i : Nat} (h : cf B i ≠ 1) : cm A (B % 2 ^ (i + 1)) = cm A (B % 2 ^ i) := by
  have hb : ¬ B.testBit i = true := by unfold cf at h; split at h <;> simp_all
  rw [mod_bit, if_neg hb]
theorem prod_bl (A B i : Nat) : bl (cm A (B % 2 ^ i)) ≤ bl A + i := by
  have h1 := bl_cm_le A (B % 2 ^ i)
  have h2 : bl (B % 2 ^ i) ≤ i := bl_le.2 (Nat.mod_lt _ (Nat.two_pow_pos i))
  omega
theorem Cfs.nil (w : World) : Cfs w none 0 0 0 := ⟨by simp, Nat.le_refl _, by omega, .inl rfl⟩

theorem cfs_one {n : Nat} (w : World) (h : w.heap[n]? = some (.cells #[.int .i64 1] 3 (0, 0))) : Cfs w (some ⟨n, 0, none⟩) 1 1 1 := by
  refine ⟨by simp, Nat.le_refl _, by omega, .inr ⟨n, 0, rfl, (Array.getElem?_eq_some_iff.1 h).1, fun i hi => ?_⟩⟩
  obtain rfl : i = 0 := by omega
  simp only [World.cell?]; rw [h]; rfl

set_option maxHeartbeats 2000000 in
theorem divide_any (w : World) (aa ab : Option Addr) (ca cb A B : Nat) (hA : Cfs w aa (bl A) ca A) (hB : Cfs w ab (bl B) cb B) (hla : bl A ≤ 10000) (hB0 : B ≠ 0) (hlb : bl B ≤ 10000) :
    Calls Tryd.prog 57 #[.slice aa (bl A) ca, .slice ab (bl B) cb] w fun e w' => ∃ a1 c1 a2 c2, e = .returned (.tuple #[.slice a1 (bl (pq A B)) c1, .slice a2 (bl (pm A B)) c2]) ∧ Cfs w' a1 (bl (pq A B)) c1 (pq A B) ∧ Cfs w' a2 (bl (pm A B)) c2 (pm A B) ∧ Below w.heap.size w w' := by
  have cb1 := hB.2.1
  have cb2 := hB.2.2.1
  have hbq0 := pq_bl A hB0
  go_enter Tryd.func57, Tryd.ntmps57
  go_wp2_with fail
  go_loopw [0, 6, 7] (fun va vq _ wr => ∃ (x q : Nat) (a1 : Option Addr) (c1 : Nat) (a2 : Option Addr) (c2 : Nat), va = .slice a2 (bl x) c2 ∧ vq = .slice a1 (bl q) c1 ∧ Cfs wr a2 (bl x) c2 x ∧ Cfs wr a1 (bl q) c1 q ∧ bl x ≤ bl A ∧ pm x B = pm A B ∧ q ^^^ pq x B = pq A B ∧ Below w.heap.size w wr) (fun va _ _ _ => match va with | .slice _ n _ => n | _ => 0)
  case atStart => exact ⟨A, 0, none, 0, aa, ca, rfl, by simp, hA, by simpa using Cfs.nil w, Nat.le_refl _, rfl, by simp, Below.refl _ _⟩
  case round =>
    obtain ⟨x, q, a1, c1, a2, c2, rfl, rfl, hx, hq, hxA, h1, h2, hBl⟩ := hrel
    have cx1 := hx.2.1
    have cx2 := hx.2.2.1
    have cq1 := hq.2.1
    have cq2 := hq.2.2.1
    by_cases hge : bl B ≤ bl x
    · have hd : decide (bl B ≤ bl x) = true := by simp; omega
      have hst := step_lt hB0 hge
      have hps := pm_step hB0 hge
      have hqs := pq_step hB0 hge
      have hql : bl q ≤ 10001 := by
        have h3 : bl q ≤ max (bl (pq A B)) (bl (pq x B)) := by
          have := bl_xor_le (q ^^^ pq x B) (pq x B)
          rw [xor_cr, h2] at this; exact this
        have := pq_bl x hB0
        have := bl_pos hB0
        omega
      obtain ⟨i, hi⟩ : ∃ i, i = bl x - bl B := ⟨_, rfl⟩
      have hii : (bl x : Int) - (bl B : Int) = (i : Int) := by omega
      have g1 : pm (x ^^^ B * 2 ^ i) B = pm A B := by rw [hi, ← hps, h1]
      have g2 : (q ^^^ 2 ^ i) ^^^ pq (x ^^^ B * 2 ^ i) B = pq A B := by rw [hi, Nat.xor_assoc, ← hqs, h2]
      rw [← hi] at hst
      have hil : i ≤ 10000 := by omega
      have G1 := Lib.hid g1
      have G2 := Lib.hid g2
      have HI := Lib.hid hii
      clear g1 g2 h1 h2 hps hqs hi hii
      have hB1w := fun o => (Below.refl wr.heap.size wr).alloc (Nat.le_refl _) o
      have s1 := sum_any (wr.alloc (.cells #[.int .i64 1] 3)) a1 (some ⟨wr.heap.size, 0, none⟩) (bl q) c1 1 1 q 1 i (hq.below (hB1w _)) (cfs_one _ (World.alloc_heap_new wr _)) (by omega) (by omega)
      rw [Nat.one_mul] at s1
      go_wp2_with fail
      rw [HI.out]
      (with_reducible refine s1.mono ?_)
      rintro e w1 ⟨a1', c1', rfl, hq', hBq⟩
      have hb1 : Below wr.heap.size wr w1 := (hB1w _).trans (hBq.mono (by simp))
      have s2 := sum_any w1 a2 ab (bl x) c2 (bl B) cb x B i (hx.below hb1) ((hB.below hBl).below hb1) (by omega) (by omega)
      clear s1 hBq
      go_wp2_with fail
      (with_reducible refine s2.mono ?_)
      rintro e w2 ⟨a2', c2', rfl, hx', hBx⟩
      have hq2 := hq'.below hBx
      have hb2 := below_step (below_step hBl hb1) hBx
      clear s2 hBx hq' hx hq hb1
      go_wp2_with fail
      go_roundw
      case rel => exact ⟨_, _, a1', c1', a2', c2', rfl, rfl, hx', hq2, by omega, G1.out, G2.out, hb2⟩
      case measure => exact hst
    · have hd : decide (bl B ≤ bl x) = false := by simp; omega
      rw [pm_lt0 (by omega)] at h1
      rw [pq_lt0 (by omega), Nat.xor_zero] at h2
      have H1 := Lib.hid h1
      have H2 := Lib.hid h2
      clear h1 h2
      go_wp2_with fail
      go_ret2
      rw [← H1.out, ← H2.out]
      exact ⟨a1, c1, a2, c2, rfl, hq, hx, hBl⟩

theorem num_add {p i : Nat} (h : p.testBit i = true) : p % 2 ^ (i + 1) = p % 2 ^ i + 2 ^ i := by
  rw [Nat.testBit_eq_decide_div_mod_eq] at h
  have h1 : p / 2 ^ i % 2 = 1 := by simpa using h
  rw [Nat.mod_pow_succ, h1, Nat.mul_one]
theorem num_same {p i : Nat} (h : p.testBit i = false) : p % 2 ^ (i + 1) = p % 2 ^ i := by
  rw [Nat.testBit_eq_decide_div_mod_eq] at h
  have h1 : p / 2 ^ i % 2 = 0 := by have : ¬ p / 2 ^ i % 2 = 1 := by simpa using h
                                    omega
  rw [Nat.mod_pow_succ, h1, Nat.mul_zero, Nat.add_zero]
/-- What Number tells of a polynomial. -/
def NumOf (p : Nat) (e : Ending) : Prop := ∃ (v : Nat) (b : Bool), (bl p ≤ 64 → v = p ∧ b = true) ∧ (64 < bl p → v = 0 ∧ b = false) ∧ e = .returned (.tuple #[.int .u64 (v : Int), .bool b])

end Go.Proofs.YtdaijbplbnkpeaaDoor
