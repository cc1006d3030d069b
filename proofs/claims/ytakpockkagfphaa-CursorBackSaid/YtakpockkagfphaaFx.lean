/-
  The contract of the second reference's Fixed; Take for any number of bytes.
-/
import Derived.Test.YtakpockkagfphaaNb
namespace Go.Proofs.Ytakpockkagfphaa
open Go.RowKit Go.Shelf

theorem take_any (w : World) (a : Option Addr) (len cap ix : Nat) (l : List Int) (n : Int) (hs : Sl .u8 w a len cap l) (hi : ix ≤ len) (hc : len ≤ 140737488355000) :
    Calls Try.prog 57 #[.agg #[.slice a len cap, .int .i64 ix], .int .i64 n] w (TkRes l a len cap ix n w) := by
  by_cases h1 : n < 0
  · exact take_neg w a len cap ix l n hs.1 h1
  · by_cases h2 : (len : Int) - ix < n
    · exact take_end w a len cap ix l n hs.1 hi (by omega) (by omega) h2
    · obtain ⟨m, rfl⟩ : ∃ m : Nat, n = m := ⟨n.toNat, by omega⟩
      exact take_ok w a len cap ix l m hs hi (by omega) hc

/-- The number whose lowest byte is the first one. -/
def leV : List Int → Int
  | [] => 0
  | c :: r => c + 256 * leV r

theorem leV_lt (l : List Int) : ∀ n : Nat, Bytes l → l.length ≤ n → 0 ≤ leV l ∧ leV l < 256 ^ n := by
  induction l with
  | nil =>
    intro n _ _
    exact ⟨by simp [leV], by simp only [leV]; exact Int.pow_pos (by omega)⟩
  | cons c r ih =>
    intro n hB hn
    obtain ⟨m, rfl⟩ : ∃ m, n = m + 1 := ⟨n - 1, by simp at hn; omega⟩
    have h := ih m (fun x hx => hB x (List.mem_cons_of_mem _ hx)) (by simpa using hn)
    have hc := hB c (by simp)
    have hp : (256 : Int) ^ (m + 1) = 256 ^ m * 256 := Int.pow_succ ..
    simp only [leV]
    omega

theorem leV_7 {l : List Int} (hB : Bytes l) (h : l.length ≤ 7) : 0 ≤ leV l ∧ leV l < 72057594037927936 := by
  have := leV_lt l 7 hB h
  simpa using this

/-- What Fixed returns: how many bytes it takes, the number, the error. -/
def fxR (l : List Int) (ix : Nat) (n : Int) : Nat × Int × Int :=
  if n < 1 ∨ 8 < n then (0, 0, 2) else ((tkL l ix n).length, leV (tkL l ix n), tkE l.length ix n)

theorem fxR_arg {l : List Int} {ix : Nat} {n : Int} (h : n < 1 ∨ 8 < n) : fxR l ix n = (0, 0, 2) := by unfold fxR; rw [if_pos h]
theorem fxR_go {l : List Int} {ix : Nat} {n : Int} (h : ¬ (n < 1 ∨ 8 < n)) : fxR l ix n = ((tkL l ix n).length, leV (tkL l ix n), tkE l.length ix n) := by unfold fxR; rw [if_neg h]

theorem tkL_bytes {l : List Int} (hB : Bytes l) (ix : Nat) (n : Int) : Bytes (tkL l ix n) := by
  unfold tkL
  split
  · exact (hB.drop ix).take _
  · intro c hc; cases hc
theorem tkL_le (l : List Int) (ix : Nat) (n : Int) (hn : n ≤ 8) : (tkL l ix n).length ≤ 8 := by
  unfold tkL
  split
  · simp; omega
  · simp

def FxRes (l : List Int) (a : Option Addr) (len cap ix : Nat) (n : Int) (w : World) (e : Ending) (w' : World) : Prop :=
  e = .returned (.tuple #[.agg #[.slice a len cap, .int .i64 ((ix : Int) + (fxR l ix n).1)], .int .u64 (fxR l ix n).2.1, .int .i64 (fxR l ix n).2.2]) ∧ Below w.heap.size w w'

set_option maxRecDepth 100000 in
set_option maxHeartbeats 2000000 in
theorem rfixed_arg (w : World) (a : Option Addr) (len cap ix : Nat) (l : List Int) (n : Int) (h : n < 1 ∨ 8 < n) :
    Calls Try.prog 58 #[.agg #[.slice a len cap, .int .i64 ix], .int .i64 n] w (FxRes l a len cap ix n w) := by
  have HR := Lib.hid (fxR_arg (l := l) (ix := ix) h)
  by_cases ht : n < 1
  · have hb1 : decide (n < 1) = true := by simp; omega
    clear h
    go_enter Try.func58, Try.ntmps58
    go_wp2_with fail
    refine bodyPost_cell3 rfl (w.heap.size + 1) rfl _ _ (Two.new2 _ _ _ _ _).range Try.underlying71 rfl (by kernel_rfl) rfl ?_
    exact ⟨by rw [HR.out]; simp, ((Below.refl _ _).alloc (Nat.le_refl _) _).alloc (by simp) _⟩
  · have hb1 : decide (n < 1) = false := by simp; omega
    have hb2 : decide (8 < n) = true := by simp; omega
    clear h
    go_enter Try.func58, Try.ntmps58
    go_wp2_with fail
    refine bodyPost_cell3 rfl (w.heap.size + 1) rfl _ _ (Two.new2 _ _ _ _ _).range Try.underlying71 rfl (by kernel_rfl) rfl ?_
    exact ⟨by rw [HR.out]; simp, ((Below.refl _ _).alloc (Nat.le_refl _) _).alloc (by simp) _⟩

theorem leV_drop {l : List Int} {p : Nat} (h : p < l.length) : leV (l.drop p) = l[p]?.getD 0 + 256 * leV (l.drop (p + 1)) := by
  rw [drop_cons l p h]; rfl

set_option maxRecDepth 100000 in
set_option maxHeartbeats 4000000 in
theorem rfixed_go (w : World) (a : Option Addr) (len cap ix : Nat) (l : List Int) (n : Int) (hs : Sl .u8 w a len cap l) (hby : Bytes l) (hi : ix ≤ len) (hc : len ≤ 140737488355000) (h : ¬ (n < 1 ∨ 8 < n)) :
    Calls Try.prog 58 #[.agg #[.slice a len cap, .int .i64 ix], .int .i64 n] w (FxRes l a len cap ix n w) := by
  have hb1 : decide (n < 1) = false := by simp; omega
  have hb2 : decide (8 < n) = false := by simp; omega
  have HR := Lib.hid (fxR_go (l := l) (ix := ix) h)
  have hkb := tkL_bytes hby ix n
  have hk8 := tkL_le l ix n (by omega)
  obtain ⟨tk, htk⟩ : ∃ tk, tk = tkL l ix n := ⟨_, rfl⟩
  obtain ⟨er, her⟩ : ∃ er, er = tkE l.length ix n := ⟨_, rfl⟩
  have hll := Lib.hid hs.1
  rw [← htk] at hkb hk8
  have HT := Lib.hid htk
  have HE := Lib.hid her
  have hB0 : Below w.heap.size w ((w.alloc (.cells #[.slice a len cap, .int .i64 ix] 71)).alloc (.cells #[.slice none 0 0, .int .i64 0] 71)) := ((Below.refl _ _).alloc (Nat.le_refl _) _).alloc (by simp) _
  have hT2 := Two.new2 w (.cells #[.slice a len cap, .int .i64 ix] 71) 71 (.slice none 0 0) (.int .i64 0)
  have hs2 := hs.below hB0
  clear h htk her
  go_enter Try.func58, Try.ntmps58
  go_wp2_with fail
  refine (take_any _ a len cap ix l n hs2 hi hc).mono ?_
  rintro e w1 ⟨a2, c2, rfl, hsl, hB1⟩
  rw [← HT.out] at hsl
  rw [← HT.out]
  have hsz := hB1.size
  simp only [World.size_alloc] at hsz
  have hU2 := hT2.below hB1 (by simp)
  have hBw := hB0.trans (hB1.mono (by simp; omega))
  have g2 : ∀ o, (w1.alloc o).cell? ⟨w.heap.size + 1, 0, none⟩ = some (.slice none 0 0) := fun o => (hU2.alloc o).c0
  have g3 : ∀ o, (w1.alloc o).cell? ⟨w.heap.size + 1, 1, none⟩ = some (.int .i64 0) := fun o => (hU2.alloc o).c1
  have g4 : ∀ o, (w1.alloc o).frozen? ⟨w.heap.size + 1, 0, none⟩ = false := fun o => (hU2.alloc o).f0
  have g5 : ∀ o, (w1.alloc o).frozen? ⟨w.heap.size + 1, 1, none⟩ = false := fun o => (hU2.alloc o).f1
  clear hB1 hB0 hT2
  have hkl : (tk.length : Int) ≤ 8 := by omega
  go_wp2_with fail
  go_loop [10, 11] (fun x k => ∃ (v : Int) (p : Nat), x = .int .u64 v ∧ k = .int .i64 ((p : Int) - 1) ∧ p ≤ tk.length ∧ Aside (v = leV (tk.drop p))) (fun _ k => (intOf k + 1).toNat)
  case atStart => exact ⟨0, tk.length, rfl, rfl, Nat.le_refl _, by simp [Aside, leV]⟩
  case round =>
    obtain ⟨v, p, rfl, rfl, hp, HV⟩ := hrel
    by_cases hp0 : p = 0
    · subst hp0
      have hRR : fxR l ix n = (tk.length, v, er) := by rw [HR.out, ← HT.out, ← HE.out, HV.out]; rfl
      have HRR := Lib.hid hRR
      clear hRR
      go_wp2_with fail
      refine bodyPost_cell3 rfl (w.heap.size + 1) rfl _ _ ((hU2.alloc _).range_set _ _) Try.underlying71 rfl (by kernel_rfl) rfl ?_
      refine ⟨by rw [HRR.out]; simp [HE.out, hll.out], ((hBw.alloc (by omega) _).setCell (p := ⟨w.heap.size + 1, 0, none⟩) (by simp) _).setCell (p := ⟨w.heap.size + 1, 1, none⟩) (by simp) _⟩
    · have hvb := leV_7 (l := tk.drop p) (hkb.drop p) (by simp; omega)
      rw [← HV.out] at hvb
      obtain ⟨q, rfl⟩ : ∃ q, p = q + 1 := ⟨p - 1, by omega⟩
      have hq : q < tk.length := by omega
      obtain ⟨b, off, rfl, hcell⟩ := hsl.idx hq
      have hg : ∀ o, (w1.alloc o).cell? ⟨b, off + q, none⟩ = some (.int .u8 (tk[q]?.getD 0)) := fun o => (World.cell?_alloc_lt w1 o ⟨b, off + q, none⟩ (World.block_lt_of_cell? w1 _ hcell)).trans hcell
      have hcb := hkb.at q hq
      have hst := leV_drop hq
      rw [← HV.out] at hst
      obtain ⟨c, hcd⟩ : ∃ c, c = tk[q]?.getD 0 := ⟨_, rfl⟩
      rw [← hcd] at hcb hst hg
      have HST := Lib.hid hst
      clear hst hcd hcell
      have hqi : ((q + 1 : Nat) : Int) - 1 = q := by omega
      go_wp2_with fail
      go_round
      case rel => exact ⟨v * 256 + c, q, rfl, rfl, by omega, by have := HST.out; unfold Aside; omega⟩
      case measure => simp [intOf]
end Go.Proofs.Ytakpockkagfphaa
