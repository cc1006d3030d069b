/-
  The contracts of varint's ReadAll and of what it calls: for at most 1000000 bytes it returns the numbers and the error that are read out of them; nothing that was there is changed.
-/
import Derived.Test.YteddbpcpllehoaaScan
import Derived.Test.YteddbpcpllehoaaApp
import Derived.Test.YteddbpcpllehoaaRall
import Derived.Deep.LoopGhost
namespace Go.Proofs.Yteddbpcpllehoaa
open Go.RowKit Go.Shelf

/-- What is read in all, some numbers having been read. -/
def fin (pre : List Int) (r : List Int × Int) : List Int × Int := if r.2 = 0 then (pre ++ r.1, 0) else ([], r.2)

theorem raF_only (n : Nat) (l : List Int) (h : (raF n l).2 ≠ 0) : (raF n l).1 = [] := by
  cases n with
  | zero => simp [raF] at h
  | succ n =>
    simp only [raF] at h ⊢
    split <;> rename_i h1
    · rfl
    · rw [if_neg h1] at h
      split <;> rename_i h2
      · rw [if_pos h2] at h
        split <;> rename_i h3
        · rw [if_pos h3] at h; exact absurd rfl h
        · rfl
      · rfl
theorem vreads_only (l : List Int) (h : (vreads l).2 ≠ 0) : (vreads l).1 = [] := raF_only _ l h

theorem fin_step {d : List Int} {x : Int} {n : Nat} (pre : List Int) (hB : Bytes d) (h0 : d ≠ []) (h : vread d = (x, n, 0)) : fin pre (vreads d) = fin (pre ++ [x]) (vreads (d.drop n)) := by
  rw [vreads_ok hB h0 (by rw [h]), h]
  simp only
  unfold fin
  by_cases he : (vreads (d.drop n)).2 = 0
  · simp [he]
  · simp [he]
theorem fin_err {d : List Int} {e : Int} (pre : List Int) (h0 : d ≠ []) (h : vread d = (0, 0, e)) (he : e ≠ 0) : fin pre (vreads d) = ([], e) := by
  rw [vreads_err h0 (by rw [h]; exact he), h]
  unfold fin
  simp [he]
theorem fin_zero (l : List Int) : vreads l = fin [] (vreads (l.drop 0)) := by
  rw [List.drop_zero]; unfold fin
  by_cases h : (vreads l).2 = 0
  · rw [if_pos h, List.nil_append, ← h]
  · rw [if_neg h]
    have := vreads_only l h
    rw [← this]
theorem fin_nil (pre : List Int) : fin pre (vreads []) = (pre, 0) := by simp [fin, vreads_nil]

set_option maxHeartbeats 1000000 in
theorem readAll1_any (x n : Int) (B base : Nat) (v : Value) (pre : List Int) (w : World) (hb : base ≤ w.heap.size) (hB : base ≤ B) (hlen : pre.length ≤ 1000000) (hbox : Boxed w B 27 v) (hown : w.ownsRow base 22 1 v pre.length (pre.map (Value.int .u64))) :
    Calls Try.prog 40 #[.int .u64 x, .int .i64 n, .pointer (some ⟨B, 0, none⟩)] w fun e W' => e = .returned (.bool true) ∧ ∃ v', (Boxed W' B 27 v' ∧ W'.ownsRow base 22 1 v' (pre ++ [x]).length ((pre ++ [x]).map (Value.int .u64))) ∧ Below base w W' := by
  obtain ⟨i0, hi, hz0, hz1, hz2⟩ := info_parts infoU64
  have hc := hbox.cell
  obtain ⟨a0, cap0, rfl⟩ := own_shape hown
  go_enter Try.func40, Try.ntmps40
  go_wp2_with (at_builtin; refine wpList_append_own _ rfl (.tmp 6) (.tmp 8) 27 rfl base 22 i0 (.int .u64 0) 1 8 Try.underlying27 hi hz0 hz1 hz2 rfl (by decide) _ _ _ rfl (hown.alloc _) ⟨w.heap.size, 0, none⟩ 1 1 [.int .u64 x] rfl rfl ?c1 ?c2 ?c3 ?c4 ?c5 ?_)
  case c1 => exact one_cell _ _ _ _
  case c2 => first | rfl | exact one_one _ _
  case c3 => unfold maxLen; omega
  case c4 => omega
  case c5 => first | omega | (simp; omega)
  intro v' w1 hown' hgrow _
  obtain ⟨g', cap', rfl⟩ := ownsRow_succ hown'
  obtain ⟨hv1, hv2, hr2, _, hb2⟩ := hbox.appended (by decide) hown hb hB hown' hgrow
  have hc1 := hv1.cell
  have hf1 := hv1.frozen
  clear hown hown' hgrow hbox hv1 hc
  go_wp2
  go_ret
  exact ⟨rfl, _, ⟨hv2, by simpa using hr2⟩, hb2⟩

/-- What scan ends in when it collects all numbers. -/
def AllRes (l : List Int) (B : Nat) (w0 : World) (e : Ending) (W' : World) : Prop :=
  ∃ v q, e = .returned (.int .i64 (vreads l).2) ∧ Boxed W' B 27 v ∧ W'.ownsRow w0.heap.size 22 1 v q.length (q.map (Value.int .u64)) ∧ ((vreads l).2 = 0 → q = (vreads l).1) ∧ Below w0.heap.size w0 W'

/-- What stands between two numbers. -/
def AllInv (l : List Int) (p : Nat) (B : Nat) (w0 w : World) : Prop :=
  ∃ v pre, vreads l = fin pre (vreads (l.drop p)) ∧ pre.length ≤ p ∧ Boxed w B 27 v ∧ w.ownsRow w0.heap.size 22 1 v pre.length (pre.map (Value.int .u64)) ∧ Below w0.heap.size w0 w

theorem AllInv.err {l : List Int} {p B : Nat} {w0 w : World} (h : AllInv l p B w0 w) {e : Int} (hp : l.drop p ≠ []) (hv : vread (l.drop p) = (0, 0, e)) (he : e ≠ 0) : AllRes l B w0 (.returned (.int .i64 e)) w := by
  obtain ⟨v, pre, hf, _, hb, ho, hB⟩ := h
  rw [fin_err pre hp hv he] at hf
  exact ⟨v, pre, by rw [hf], hb, ho, fun h0 => absurd (by rw [hf] at h0; exact h0) he, hB⟩
theorem AllInv.done {l : List Int} {p B : Nat} {w0 w : World} (h : AllInv l p B w0 w) (hp : l.drop p = []) : AllRes l B w0 (.returned (.int .i64 0)) w := by
  obtain ⟨v, pre, hf, _, hb, ho, hB⟩ := h
  rw [hp, fin_nil pre] at hf
  exact ⟨v, pre, by rw [hf], hb, ho, fun _ => by rw [hf], hB⟩

theorem look_any {l : List Int} {p B : Nat} {w0 w : World} (h : AllInv l p B w0 w) (hlen : l.length ≤ 1000000) (hp : p < l.length) (hby : Bytes l) (hB : w0.heap.size ≤ B) {x : Int} {n : Nat} (hv : vread (l.drop p) = (x, n, 0)) :
    Calls Try.prog 40 #[.int .u64 x, .int .i64 n, .pointer (some ⟨B, 0, none⟩)] w fun e W' => e = .returned (.bool true) ∧ AllInv l (p + n) B w0 W' := by
  obtain ⟨v, pre, hf, hpl, hb, ho, hbel⟩ := h
  have hne : l.drop p ≠ [] := by
    intro h0
    have := congrArg List.length h0
    simp at this; omega
  have hpos := vread_pos (l := l.drop p) (by rw [hv]) (hby.drop p)
  rw [hv] at hpos
  simp only at hpos
  refine (readAll1_any x n B w0.heap.size v pre w hbel.size hB (by omega) hb ho).mono ?_
  rintro e W' ⟨rfl, v', ⟨hb', ho'⟩, hb2⟩
  refine ⟨rfl, v', pre ++ [x], ?_, by simp; omega, hb', ho', hbel.trans hb2⟩
  rw [hf, fin_step pre (hby.drop p) hne hv, List.drop_drop]

theorem drop_drop_cons (l : List Int) (p j : Nat) (hj : p + j < l.length) : (l.drop p).drop j = l[p + j]?.getD 0 :: (l.drop p).drop (j + 1) := by
  rw [List.drop_drop, List.drop_drop, drop_cons l (p + j) hj, Nat.add_assoc]

set_option maxHeartbeats 4000000 in
theorem scan_all (a : Option Addr) (len cap : Nat) (l : List Int) (B : Nat) (w0 w : World) (hs : Sl .u8 w0 a len cap l) (hby : Bytes l) (hlen : len ≤ 1000000) (hB : w0.heap.size ≤ B) (hinv : AllInv l 0 B w0 w) :
    Calls Try.prog 38 #[.slice a len cap, .func (.func 40) #[] #[.pointer (some ⟨B, 0, none⟩)]] w (AllRes l B w0) := by
  have hl := hs.1
  have hlc := hs.2.1
  have hcm := hs.2.2.1
  have HL := Lib.hid hl
  clear hl
  go_enter Try.func38, Try.ntmps38
  go_wp2_with fail
  go_step3
  go_wp2_with fail
  go_step3
  go_wp2_with fail
  go_loopg [5] len (fun g s5 wx => ∃ p : Nat, s5 = .int .i64 p ∧ p + g = len ∧ AllInv l p B w0 wx)
  case atStart => exact ⟨0, rfl, by omega, hinv⟩
  case round =>
    obtain ⟨p, rfl, hpg, hinvp⟩ := hrel
    cases gk with
    | zero =>
      have hpl : ¬ ((p : Int) < (len : Int)) := by omega
      go_wp2_with fail
      try rw [Exit.noGoto_ret]
      go_ret
      exact hinvp.done (List.drop_eq_nil_of_le (by rw [HL.out]; omega))
    | succ g =>
      have hpl : (p : Int) < (len : Int) := by omega
      have hpc : (p : Int) ≤ (len : Int) := by omega
      have hpcap : ¬ cap = p := by omega
      have hsub : (len : Int) - (p : Int) = ((len - p : Nat) : Int) := by omega
      have hsr := hs.below (show Below w0.heap.size w0 wr from by obtain ⟨_, _, _, _, _, _, h⟩ := hinvp; exact h)
      obtain ⟨b, off, rfl, hcell⟩ := hsr.view (by omega)
      have HC := Lib.hid hcell
      clear hcell hsr
      go_wp2_with fail
      go_loopg [5, 6, 17] (len - p) (fun g2 s5 s6 s17 wy => ∃ (j : Nat) (acc : Int), j + g2 = len - p ∧ s5 = .int .i64 p ∧ s17 = .int .i64 j ∧ s6 = .int .u64 acc ∧ 0 ≤ acc ∧ acc < 128 ^ j ∧ j ≤ 9 ∧ Aside (rdA j (128 ^ j) acc ((l.drop p).drop j) = vread (l.drop p)) ∧ wy = wr)
      case atStart => exact ⟨0, 0, by omega, rfl, rfl, rfl, by omega, by simp, by omega, by rfl, rfl⟩
      case round =>
        obtain ⟨j, acc, hjg, rfl, rfl, rfl, ha0, ha1, hj9, HR, rfl⟩ := hrel
        have hpne : l.drop p ≠ [] := by
          intro h0
          have := congrArg List.length h0
          simp at this
          have := HL.out
          omega
        have HPN := Lib.hid hpne
        clear hpne
        cases gk with
        | zero =>
          have hjl : ¬ ((j : Int) < ((len - p : Nat) : Int)) := by omega
          have hR := scan_short HR.out (by simp; have := HL.out; omega)
          have HV := Lib.hid hR
          clear hR
          go_wp2_with fail
          try rw [Exit.noGoto_ret]
          go_ret
          exact hinvp.err HPN.out HV.out (by decide)
        | succ g2 =>
          have hjl : (j : Int) < ((len - p : Nat) : Int) := by omega
          obtain ⟨c, hcdef⟩ : ∃ c, c = l[p + j]?.getD 0 := ⟨_, rfl⟩
          have hcj : wr.cell? ⟨b, off + p + j, none⟩ = some (.int .u8 c) := by rw [hcdef, Nat.add_assoc]; exact HC.out (p + j) (by omega)
          have hbc := hby.at (p + j) (by rw [HL.out]; omega)
          rw [← hcdef] at hbc
          have hd := drop_drop_cons l p j (by rw [HL.out]; omega)
          rw [← hcdef] at hd
          have HD := Lib.hid hd
          clear hcdef hd
          by_cases h9 : j = 9 ∧ 1 < c
          · have hR := scan_over HR.out HD.out h9
            have HV := Lib.hid hR
            have hj9b : ((j : Int) == 9) = true := by simp; omega
            have h9c := h9.2
            clear hR h9
            go_wp2_with fail
            try rw [Exit.noGoto_ret]
            go_ret
            exact hinvp.err HPN.out HV.out (by decide)
          by_cases h128 : 128 ≤ c
          · have hc8 : (j : Int) < 9 := by omega
            have hj9b : ((j : Int) == 9) = false := by simp; omega
            have hM := scan_more HR.out HD.out ha0 ha1 hbc.2 hj9 h9 h128
            have HM := Lib.hid hM
            clear hM
            go_wp2_with fail
            go_roundg g2
            case measure => omega
            case rel => exact ⟨j + 1, _, by omega, rfl, by go_num, rfl, HM.out.1, HM.out.2.1, by omega, HM.out.2.2, rfl⟩
          · have hlt : c < 128 := by omega
            by_cases h0 : c = 0 ∧ 0 < j
            · have hR := scan_zero HR.out HD.out h0.1 h0.2
              have HV := Lib.hid hR
              have hc0b : (c == 0) = true := by simp; exact h0.1
              have hc1 : c ≤ 1 := by omega
              have hj0b : (0 : Int) < (j : Int) := by omega
              clear hR h0
              by_cases hj9' : j = 9
              · have hj9b : ((j : Int) == 9) = true := by simp; omega
                clear hj9'
                go_wp2_with fail
                try rw [Exit.noGoto_ret]
                go_ret
                exact hinvp.err HPN.out HV.out (by decide)
              · have hj9b : ((j : Int) == 9) = false := by simp; omega
                go_wp2_with fail
                try rw [Exit.noGoto_ret]
                go_ret
                exact hinvp.err HPN.out HV.out (by decide)
            · have hR := scan_last HR.out HD.out ha0 ha1 hbc.1 hj9 h9 hlt h0
              have hlook := look_any hinvp (by rw [HL.out]; exact hlen) (by rw [HL.out]; omega) hby hB hR
              have hpj : p + (j + 1) ≤ len := by omega
              unfold joinB at hlook
              rw [show ((j + 1 : Nat) : Int) = (j : Int) + 1 from by omega] at hlook
              have HLK := Lib.hid hlook
              clear hR hlook
              by_cases hc0 : c = 0
              · have hj0 : (j : Int) ≤ 0 := by omega
                have hc0b : (c == 0) = true := by simp; exact hc0
                have hj9b : ((j : Int) == 9) = false := by simp; omega
                clear hc0 h0 h9
                go_wp2_with fail
                refine HLK.out.mono ?_
                rintro e w' ⟨rfl, hinv'⟩
                go_wp2_with fail
                go_roundg (len - (p + (j + 1)))
                case measure => omega
                case rel => exact ⟨p + (j + 1), by go_num, by omega, hinv'⟩
              · have hc0b : (c == 0) = false := by simp; exact hc0
                by_cases hj9' : j = 9
                · have hj9b : ((j : Int) == 9) = true := by simp; omega
                  have hc1 : c ≤ 1 := by omega
                  clear hc0 h0 h9 hj9'
                  go_wp2_with fail
                  refine HLK.out.mono ?_
                  rintro e w' ⟨rfl, hinv'⟩
                  go_wp2_with fail
                  go_roundg (len - (p + (j + 1)))
                  case measure => omega
                  case rel => exact ⟨p + (j + 1), by go_num, by omega, hinv'⟩
                · have hj9b : ((j : Int) == 9) = false := by simp; omega
                  clear hc0 h0 h9 hj9'
                  go_wp2_with fail
                  refine HLK.out.mono ?_
                  rintro e w' ⟨rfl, hinv'⟩
                  go_wp2_with fail
                  go_roundg (len - (p + (j + 1)))
                  case measure => omega
                  case rel => exact ⟨p + (j + 1), by go_num, by omega, hinv'⟩

set_option maxHeartbeats 1000000 in
/-- ReadAll. -/
theorem readAll_any (w : World) (a : Option Addr) (len cap : Nat) (l : List Int) (hs : Sl .u8 w a len cap l) (hby : Bytes l) (hlen : len ≤ 1000000) :
    Calls Try.prog 21 #[.slice a len cap] w fun e w' => (∃ a' n' c', e = .returned (.tuple #[.slice a' n' c', .int .i64 (vreads l).2]) ∧ Sl .u64 w' a' n' c' (vreads l).1) ∧ Below w.heap.size w w' := by
  have hbox := Boxed.new w 27 (.slice none 0 0)
  have hB0 := (Below.refl w.heap.size w).alloc (Nat.le_refl _) (.cells #[.slice none 0 0] 27)
  have hinv : AllInv l 0 w.heap.size w (w.alloc (.cells #[.slice none 0 0] 27)) := ⟨_, [], fin_zero l, by simp, hbox, World.ownsRow_nil _ _ _ _, hB0⟩
  have hsc := scan_all a len cap l w.heap.size w _ hs hby hlen (Nat.le_refl _) hinv
  clear hbox hB0 hinv
  go_enter Try.func21, Try.ntmps21
  go_wp2_with fail
  refine hsc.mono ?_
  rintro e w1 ⟨v, q, rfl, hb1, hown1, hq, hB1⟩
  have hc1 := hb1.cell
  by_cases he : (vreads l).2 = 0
  · have hq' := hq he
    have hr : Sl .u64 w1 none 0 0 [] := Sl.nil _ _
    obtain ⟨a', c', rfl⟩ := own_shape hown1
    have hsl := own_sl hown1
    have hne : ((vreads l).2 != 0) = false := by simp; exact he
    have HE := Lib.hid he
    have HQ := Lib.hid hq'
    clear he hq hq' hb1 hown1 hsc hs
    go_wp2_with fail
    go_ret2
    refine ⟨⟨a', q.length, c', ?_, ?_⟩, hB1⟩
    · rw [HE.out]; rfl
    · rw [← HQ.out]; exact hsl
  · have hq0 := vreads_only l he
    have hne : ((vreads l).2 != 0) = true := by simp; exact he
    have HQ := Lib.hid hq0
    clear he hq hq0 hb1 hown1 hsc hs
    go_wp2_with fail
    go_ret2
    exact ⟨⟨none, 0, 0, rfl, by rw [HQ.out]; exact Sl.nil _ _⟩, hB1⟩
end Go.Proofs.Yteddbpcpllehoaa
