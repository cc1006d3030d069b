/-
  The contracts of varint's Read and of what it calls: for any bytes it returns the number, the size and the error that are read out of them; nothing that was there is changed.
-/
import Derived.Test.YtakpockkagfphaaPutb
import Derived.Test.YtakpockkagfphaaRdm
import Derived.Deep.LoopGhost
namespace Go.Proofs.Ytakpockkagfphaa
open Go.RowKit Go.Shelf

set_option maxHeartbeats 1000000 in
theorem read1_any (x n : Int) (B1 B2 : Nat) (v1 v2 : Value) (w : World) (hB : B1 ≠ B2) (h1 : Boxed w B1 28 v1) (h2 : Boxed w B2 3 v2) :
    Calls Try.prog 62 #[.int .u64 x, .int .i64 n, .pointer (some ⟨B1, 0, none⟩), .pointer (some ⟨B2, 0, none⟩)] w fun e W' => e = .returned (.bool false) ∧ (Boxed W' B1 28 (.int .u64 x) ∧ Boxed W' B2 3 (.int .i64 n)) ∧ (∀ B, B ≤ B1 → B ≤ B2 → Below B w W') := by
  have c1 := h1.cell
  have c2 := h2.cell
  have f1 := h1.frozen
  have f2 := h2.frozen
  have hb2 : Boxed (w.setCell ⟨B1, 0, none⟩ (.int .u64 x)) B2 3 v2 := (h2.kept (grownBy_setCell' w B1 _) (by simp; omega))
  have c2' := hb2.cell
  have f2' := hb2.frozen
  go_enter Try.func62, Try.ntmps62
  go_wp2
  go_ret
  refine ⟨rfl, ⟨((h1.set _).kept (grownBy_setCell' _ B2 _) (by simp; omega)), hb2.set _⟩, ?_⟩
  intro B hB1 hB2
  exact ((Below.refl _ _).setCell (p := ⟨B1, 0, none⟩) hB1 _).setCell (p := ⟨B2, 0, none⟩) hB2 _

set_option maxHeartbeats 2000000 in
theorem scan_read (a : Option Addr) (len cap : Nat) (l : List Int) (B1 B2 : Nat) (w : World) (hs : Sl .u8 w a len cap l) (hby : Bytes l) (hlen : 0 < len) (hB : B1 ≠ B2) (h1 : Boxed w B1 28 (.int .u64 0)) (h2 : Boxed w B2 3 (.int .i64 0)) :
    Calls Try.prog 61 #[.slice a len cap, .func (.func 62) #[] #[.pointer (some ⟨B1, 0, none⟩), .pointer (some ⟨B2, 0, none⟩)]] w fun e W' => e = .returned (.int .i64 (vread l).2.2) ∧ (Boxed W' B1 28 (.int .u64 (vread l).1) ∧ Boxed W' B2 3 (.int .i64 (vread l).2.1)) ∧ (∀ B, B ≤ B1 → B ≤ B2 → Below B w W') := by
  obtain ⟨hl, hc, hm, hr⟩ := hs
  rcases hr with ⟨h0, _⟩ | ⟨b, off, rfl, hb, hcell⟩
  · omega
  have hne : (cap == 0) = false := by simp; omega
  have HL := Lib.hid hl
  have HC := Lib.hid hcell
  clear hcell hl
  go_enter Try.func61, Try.ntmps61
  go_wp2
  go_step3
  go_wp2
  go_step3
  go_wp2
  go_loopg [5] 1 (fun g s5 wx => s5 = .int .i64 0 ∧ wx = w)
  case atStart => exact ⟨rfl, rfl⟩
  case round =>
    obtain ⟨rfl, rfl⟩ := hrel
    go_wp2
    go_loopg [6, 17] len (fun g s6 s17 wy => ∃ (j : Nat) (acc : Int), j + g = len ∧ s17 = .int .i64 j ∧ s6 = .int .u64 acc ∧ 0 ≤ acc ∧ acc < 128 ^ j ∧ j ≤ 9 ∧ Aside (rdA j (128 ^ j) acc (l.drop j) = vread l) ∧ wy = wr)
    case atStart => exact ⟨0, 0, by omega, rfl, rfl, by omega, by simp, by omega, by rfl, rfl⟩
    case round =>
      obtain ⟨j, acc, hjg, rfl, rfl, ha0, ha1, hj9, HR, rfl⟩ := hrel
      cases gk with
      | zero =>
        have hjl : ¬ ((j : Int) < (len : Int)) := by omega
        have hR := scan_short HR.out (by rw [HL.out]; omega)
        have HV := Lib.hid hR
        clear hR
        go_wp2
        try rw [Exit.noGoto_ret]
        go_ret
        rw [HV.out]
        exact ⟨rfl, ⟨h1, h2⟩, fun B _ _ => Below.refl _ _⟩
      | succ g =>
        have hjl : (j : Int) < (len : Int) := by omega
        obtain ⟨c, hcdef⟩ : ∃ c, c = l[j]?.getD 0 := ⟨_, rfl⟩
        have hcj : wr.cell? ⟨b, off + j, none⟩ = some (.int .u8 c) := by rw [hcdef]; exact HC.out j (by omega)
        have hbc := hby.at j (by rw [HL.out]; omega)
        rw [← hcdef] at hbc
        have hd := drop_cons l j (by rw [HL.out]; omega)
        rw [← hcdef] at hd
        have HD := Lib.hid hd
        clear hcdef hd
        by_cases h9 : j = 9 ∧ 1 < c
        · have hR := scan_over HR.out HD.out h9
          have HV := Lib.hid hR
          have hj9b : ((j : Int) == 9) = true := by simp; omega
          have h9c := h9.2
          clear hR h9
          go_wp2
          try rw [Exit.noGoto_ret]
          go_ret
          rw [HV.out]
          exact ⟨rfl, ⟨h1, h2⟩, fun B _ _ => Below.refl _ _⟩
        by_cases h128 : 128 ≤ c
        · have hc8 : (j : Int) < 9 := by omega
          have hj9b : ((j : Int) == 9) = false := by simp; omega
          have hM := scan_more HR.out HD.out ha0 ha1 hbc.2 hj9 h9 h128
          have HM := Lib.hid hM
          clear hM
          go_wp2
          go_roundg g
          case measure => omega
          case rel => exact ⟨j + 1, _, by omega, by go_num, rfl, HM.out.1, HM.out.2.1, by omega, HM.out.2.2, rfl⟩
        · have hlt : c < 128 := by omega
          by_cases h0 : c = 0 ∧ 0 < j
          · have hR := scan_zero HR.out HD.out h0.1 h0.2
            have HV := Lib.hid hR
            have hc0b : (c == 0) = true := by simp; exact h0.1
            have hc1 : c ≤ 1 := by omega
            have hj0b : (0 : Int) < (j : Int) := by omega
            clear hR h0
            by_cases hj9' : j = 9
            · have hj9b : ((j : Int) == 9) = true := by simp; omega
              clear hj9'
              go_wp2
              try rw [Exit.noGoto_ret]
              go_ret
              rw [HV.out]
              exact ⟨rfl, ⟨h1, h2⟩, fun B _ _ => Below.refl _ _⟩
            · have hj9b : ((j : Int) == 9) = false := by simp; omega
              go_wp2
              try rw [Exit.noGoto_ret]
              go_ret
              rw [HV.out]
              exact ⟨rfl, ⟨h1, h2⟩, fun B _ _ => Below.refl _ _⟩
          · have hR := scan_last HR.out HD.out ha0 ha1 hbc.1 hj9 h9 hlt h0
            have HV := Lib.hid hR
            clear hR
            by_cases hc0 : c = 0
            · have hj0 : (j : Int) ≤ 0 := by omega
              have hc0b : (c == 0) = true := by simp; exact hc0
              have hj9b : ((j : Int) == 9) = false := by simp; omega
              clear hc0 h0 h9
              go_wp2_with (go_at_call 62; refine (read1_any _ _ B1 B2 _ _ _ hB h1 h2).mono ?_; rintro e w' ⟨rfl, hbx, hbel⟩)
              try rw [Exit.noGoto_ret]
              go_ret
              rw [HV.out]
              exact ⟨rfl, hbx, hbel⟩
            · have hc0b : (c == 0) = false := by simp; exact hc0
              by_cases hj9' : j = 9
              · have hj9b : ((j : Int) == 9) = true := by simp; omega
                have hc1 : c ≤ 1 := by omega
                clear hc0 h0 h9 hj9'
                go_wp2_with (go_at_call 62; refine (read1_any _ _ B1 B2 _ _ _ hB h1 h2).mono ?_; rintro e w' ⟨rfl, hbx, hbel⟩)
                try rw [Exit.noGoto_ret]
                go_ret
                rw [HV.out]
                exact ⟨rfl, hbx, hbel⟩
              · have hj9b : ((j : Int) == 9) = false := by simp; omega
                clear hc0 h0 h9 hj9'
                go_wp2_with (go_at_call 62; refine (read1_any _ _ B1 B2 _ _ _ hB h1 h2).mono ?_; rintro e w' ⟨rfl, hbx, hbel⟩)
                try rw [Exit.noGoto_ret]
                go_ret
                rw [HV.out]
                exact ⟨rfl, hbx, hbel⟩
end Go.Proofs.Ytakpockkagfphaa
