/-
  The contracts of the second reference's End and Number.
-/
import Derived.Test.YtakpockkagfphaaTk
namespace Go.Proofs.Ytakpockkagfphaa
open Go.RowKit Go.Shelf

/-- The error of End. -/
def endE (len ix : Nat) : Int := if ix < len then 22 else 0

set_option maxRecDepth 100000 in
set_option maxHeartbeats 1000000 in
theorem rend_any (w : World) (a : Option Addr) (len cap ix : Nat) :
    Calls Try.prog 39 #[.agg #[.slice a len cap, .int .i64 ix]] w fun e w' => e = .returned (.int .i64 (endE len ix)) ∧ Below w.heap.size w w' := by
  by_cases h : ix < len
  · have hb : decide ((ix : Int) < len) = true := by simp; omega
    have he : endE len ix = 22 := by unfold endE; rw [if_pos h]
    have HE := Lib.hid he
    clear he
    go_enter Try.func39, Try.ntmps39
    go_wp2_with fail
    go_ret
    exact ⟨ret_num HE.out.symm, (Below.refl _ _).alloc (Nat.le_refl _) _⟩
  · have hb : decide ((ix : Int) < len) = false := by simp; omega
    have he : endE len ix = 0 := by unfold endE; rw [if_neg h]
    have HE := Lib.hid he
    clear he
    go_enter Try.func39, Try.ntmps39
    go_wp2_with fail
    go_ret
    exact ⟨ret_num HE.out.symm, (Below.refl _ _).alloc (Nat.le_refl _) _⟩

/-- What Number returns: how many bytes it takes, the number, the error. -/
def nbR (l : List Int) (ix : Nat) (top : Int) : Nat × Int × Int :=
  let r := vread (l.drop ix)
  if r.2.2 ≠ 0 then (0, 0, r.2.2) else if top < r.1 then (0, 0, 21) else (r.2.1, r.1, 0)

def NbRes (l : List Int) (a : Option Addr) (len cap ix : Nat) (top : Int) (w : World) (e : Ending) (w' : World) : Prop :=
  e = .returned (.tuple #[.agg #[.slice a len cap, .int .i64 ((ix + (nbR l ix top).1 : Nat) : Int)], .int .u64 (nbR l ix top).2.1, .int .i64 (nbR l ix top).2.2]) ∧ Below w.heap.size w w'

theorem nbR_err {l : List Int} {ix : Nat} {top z er : Int} {m : Nat} (h : vread (l.drop ix) = (z, m, er)) (he : er ≠ 0) : nbR l ix top = (0, 0, er) := by unfold nbR; rw [h]; simp [he]
theorem nbR_most {l : List Int} {ix : Nat} {top z : Int} {m : Nat} (h : vread (l.drop ix) = (z, m, 0)) (he : top < z) : nbR l ix top = (0, 0, 21) := by unfold nbR; rw [h]; simp [he]
theorem nbR_ok {l : List Int} {ix : Nat} {top z : Int} {m : Nat} (h : vread (l.drop ix) = (z, m, 0)) (he : ¬ top < z) : nbR l ix top = (m, z, 0) := by unfold nbR; rw [h]; simp [he]

set_option maxRecDepth 100000 in
set_option maxHeartbeats 4000000 in
theorem rnumber_any (w : World) (a : Option Addr) (len cap ix : Nat) (l : List Int) (top : Int) (hs : Sl .u8 w a len cap l) (hby : Bytes l) (hi : ix ≤ len) (hc : len ≤ 140737488355000) :
    Calls Try.prog 59 #[.agg #[.slice a len cap, .int .i64 ix], .int .u64 top] w (NbRes l a len cap ix top w) := by
  have hcl := hs.2.1
  have hB0 : Below w.heap.size w ((w.alloc (.cells #[.slice a len cap, .int .i64 ix] 71)).alloc (.cells #[.slice none 0 0, .int .i64 0] 71)) := ((Below.refl _ _).alloc (Nat.le_refl _) _).alloc (by simp) _
  have hs2 := hs.below hB0
  obtain ⟨z, m, er, hv⟩ : ∃ z m er, vread (l.drop ix) = (z, m, er) := ⟨_, _, _, rfl⟩
  have hrr := Lib.hid (readRes_eq' hv)
  have hby2 := hby.drop ix
  by_cases her : er = 0
  · subst her
    have hpos := vread_pos (by rw [hv]) hby2
    rw [hv] at hpos
    have hm : ix + m ≤ len := by have := hpos.2; have := hs.1; simp at *; omega
    have hb1 : ((0 : Int) != 0) = false := rfl
    by_cases hz : top < z
    · have hb2 : decide (top < z) = true := by simp; omega
      have HR := Lib.hid (nbR_most hv hz)
      clear hv hpos
      go_enter Try.func59, Try.ntmps59
      go_wp2_with (go_at_call 67; refine (rread_any _ _ _ (l.drop ix) _ (hs2.tail hi) hby2).mono ?_; rintro e w' ⟨rfl, rfl⟩; rw [hrr.out])
      all_goals refine bodyPost_cell3 rfl (w.heap.size + 1) rfl _ _ (Two.new2 _ _ _ _ _).range Try.underlying71 rfl (by kernel_rfl) rfl ?_
      all_goals exact ⟨by rw [HR.out]; rfl, ((Below.refl _ _).alloc (Nat.le_refl _) _).alloc (by simp) _⟩
    · have hb2 : decide (top < z) = false := by simp; omega
      have HR := Lib.hid (nbR_ok hv hz)
      clear hv hpos
      go_enter Try.func59, Try.ntmps59
      go_wp2_with (go_at_call 67; refine (rread_any _ _ _ (l.drop ix) _ (hs2.tail hi) hby2).mono ?_; rintro e w' ⟨rfl, rfl⟩; rw [hrr.out])
      all_goals refine bodyPost_cell3 rfl (w.heap.size + 1) rfl _ _ (Two.new2 _ _ _ _ _).range Try.underlying71 rfl (by kernel_rfl) rfl ?_
      all_goals exact ⟨by rw [HR.out]; rfl, ((Below.refl _ _).alloc (Nat.le_refl _) _).alloc (by simp) _⟩
  · have hb1 : (er != 0) = true := by simp; exact her
    have HR := Lib.hid (nbR_err (top := top) hv her)
    clear hv
    go_enter Try.func59, Try.ntmps59
    go_wp2_with (go_at_call 67; refine (rread_any _ _ _ (l.drop ix) _ (hs2.tail hi) hby2).mono ?_; rintro e w' ⟨rfl, rfl⟩; rw [hrr.out])
    all_goals refine bodyPost_cell3 rfl (w.heap.size + 1) rfl _ _ (Two.new2 _ _ _ _ _).range Try.underlying71 rfl (by kernel_rfl) rfl ?_
    all_goals exact ⟨by rw [HR.out]; rfl, ((Below.refl _ _).alloc (Nat.le_refl _) _).alloc (by simp) _⟩
end Go.Proofs.Ytakpockkagfphaa
