/-
  The contract of poly's Read; for every string.
-/
import Derived.Test.YtjajojdlgpmpfaaDoorPdf
import Derived.Test.YtjajojdlgpmpfaaDoorRdt
import Derived.Deep.LoopGhost
namespace Go.Proofs.YtjajojdlgpmpfaaDoor
open Go.RowKit Go.Shelf

theorem toL (s : ByteArray) : s.toList = s.data.toList := ByteArray.toList_eq s
theorem extract_drop (r : ByteArray) (k : Nat) : (r.extract k r.size).data.toList = r.data.toList.drop k := by
  rw [ByteArray.data_extract, Array.toList_extract]
  rw [List.extract_eq_take_drop]
  exact List.take_of_length_le (by simp)
theorem cut_any (s : ByteArray) (l p : List UInt8) (w : World) (hs : s.data.toList = l) :
    Calls Tryd.prog 38 #[.string s, .string ⟨p.toArray⟩] w fun e w' => (∃ r : ByteArray, r.data.toList = (if Lib.hasPrefix l p then l.drop p.length else l) ∧ e = .returned (.tuple #[.string r, .bool (Lib.hasPrefix l p)])) ∧ w' = w := by
  subst hs
  refine (Tryd.strings_CutPrefix s ⟨p.toArray⟩ w).mono ?_
  rintro e w' ⟨rfl, rfl⟩
  exact ⟨⟨_, rfl, rfl⟩, rfl⟩
theorem has_any (s : ByteArray) (l : List UInt8) (w : World) (hs : s.data.toList = l) :
    Calls Tryd.prog 40 #[.string s, .string ⟨#[43]⟩] w fun e w' => e = .returned (.bool (Lib.hasPrefix l [43])) ∧ w' = w := by
  subst hs
  exact Tryd.strings_HasPrefix s ⟨#[43]⟩ w

set_option maxHeartbeats 1000000 in
theorem read_loop (s : ByteArray) (w : World) (h4 : s.size ≤ 400) (hz : s.data.toList ≠ [48]) :
    Calls Tryd.prog 16 #[.string s] w fun e w' => e = .returned (.tuple #[.int .u64 ((readR s.data.toList).1 : Int), .int .i64 (readR s.data.toList).2]) ∧ w = w' := by
  have hd1 : decide (400 < (s.size : Int)) = false := by simp; omega
  have hl : s.data.toList.length = s.size := by simp
  have hz' : (s.toList == [48]) = false := by
    rw [toL]; simpa using hz
  have HR := Lib.hid (show readR s.data.toList = rdT 64 s.data.toList 0 from by unfold readR; rw [if_neg (by omega), if_neg hz])
  clear hz hl
  go_enter Tryd.func16, Tryd.ntmps16
  go_wp2_with fail
  go_step3
  go_wp2_with fail
  go_step3
  go_wp2_with fail
  go_loopg [4, 5, 6] 64 (fun g P R I wx => ∃ (rest : ByteArray) (l : List UInt8) (p : Nat) (i0 : Int), g ≤ 64 ∧ i0 = (g : Int) - 1 ∧ p < 18446744073709551616 ∧ P = .int .u64 (p : Int) ∧ R = .string rest ∧ I = .int .i64 i0 ∧ rest.size ≤ 400 ∧ Aside (rest.data.toList = l) ∧ Aside (rdT g l p = readR s.data.toList) ∧ w = wx)
  case atStart => exact ⟨s, _, 0, 63, Nat.le_refl _, by decide, by decide, rfl, rfl, rfl, h4, rfl, HR.out.symm, rfl⟩
  case round =>
    obtain ⟨rest, l, p, i0, hg, hi0, hp, rfl, rfl, rfl, hrs, hrl, hrd, rfl⟩ := hrel
    cases gk with
    | zero =>
      obtain rfl : i0 = -1 := by omega
      clear hi0
      have hR : Aside (readR s.data.toList = (0, 30)) := hrd.out.symm
      go_wp2_with fail
      try rw [Exit.noGoto_ret]
      go_ret2
      exact ⟨by rw [hR.out]; rfl, rfl⟩
    | succ i =>
      obtain rfl : i0 = (i : Int) := by omega
      clear hi0
      have hnn : decide ((0 : Int) ≤ (i : Int)) = true := by simp
      have hi64 : i < 64 := by omega
      have l2 : 2 ^ i < 18446744073709551616 := (bl_le (k := 64)).1 (by rw [bl_two_pow]; omega)
      have e2 := wrapN _ l2 ((2 : Int) ^ i) (by push_cast; rfl)
      have e4 := or_u64 p (2 ^ i) hp l2 _ _ rfl rfl
      have hlt : p ||| 2 ^ i < 18446744073709551616 := Nat.or_lt_two_pow (n := 64) hp l2
      have E2 := Lib.hid e2
      have E4 := Lib.hid e4
      have HLT := Lib.hid hlt
      have L2 := Lib.hid l2
      clear e2 e4 hlt l2
      have hll : l.length ≤ 400 := by have := hrl.out; rw [← this]; simpa using hrs
      by_cases h1 : Lib.hasPrefix l (termT i) = true
      · go_wp2_with fail
        refine (term_any i _ hi64).mono ?_
        rintro e w' ⟨⟨_, rfl, rfl⟩, rfl⟩
        go_wp2_with fail
        refine (cut_any rest l (termT i) _ hrl.out).mono ?_
        rintro e w' ⟨⟨r, hr, rfl⟩, rfl⟩
        rw [if_pos h1] at hr
        have hd := hrd.out
        rw [rdT, if_pos h1, ← hr] at hd
        have hrl' : r.data.toList.length ≤ 400 := by rw [hr]; simp; omega
        by_cases h2 : r.data.toList = []
        · have hem : r.toList.isEmpty = true := by rw [toL, h2]; rfl
          rw [if_pos h2] at hd
          have HD := Lib.hid hd
          clear hd hr h2 hrl'
          go_wp2_with fail
          try rw [Exit.noGoto_ret]
          go_ret2
          exact ⟨by rw [← HD.out, E2.out, E4.out]; rfl, rfl⟩
        · have hem : r.toList.isEmpty = false := by rw [toL]; cases hq : r.data.toList with
            | nil => exact absurd hq h2
            | cons a t => rfl
          have h1r : (1 : Int) ≤ (r.size : Int) := by
            have : 0 < r.data.toList.length := List.length_pos_iff.2 h2
            simp at this; simp; omega
          rw [if_neg h2] at hd
          by_cases h3 : Lib.hasPrefix r.data.toList [43] = true
          · rw [if_pos h3] at hd
            have HD := Lib.hid hd
            have HL := Lib.hid hrl'
            clear hd hr h2 hrl'
            go_wp2_with fail
            refine (has_any r _ _ rfl).mono ?_
            rintro e w'' ⟨rfl, rfl⟩
            go_wp2_with fail
            go_roundg i
            case measure => omega
            case rel =>
              rw [E2.out, E4.out]
              refine ⟨r.extract 1 r.size, r.data.toList.drop 1, p ||| 2 ^ i, (i : Int) - 1, by omega, rfl, HLT.out, rfl, rfl, by go_num, ?_, ?_, HD.out, rfl⟩
              · have := HL.out; simp at this ⊢; omega
              · exact extract_drop r 1
          · have h3' : Lib.hasPrefix r.data.toList [43] = false := by simpa using h3
            rw [if_neg h3] at hd
            have HD := Lib.hid hd
            clear hd hr h2 hrl' h3
            go_wp2_with fail
            refine (has_any r _ _ rfl).mono ?_
            rintro e w'' ⟨rfl, rfl⟩
            go_wp2_with fail
            try rw [Exit.noGoto_ret]
            go_ret2
            exact ⟨by rw [← HD.out]; rfl, rfl⟩
      · go_wp2_with fail
        refine (term_any i _ hi64).mono ?_
        rintro e w' ⟨⟨_, rfl, rfl⟩, rfl⟩
        go_wp2_with fail
        refine (cut_any rest l (termT i) _ hrl.out).mono ?_
        rintro e w' ⟨⟨r, hr, rfl⟩, rfl⟩
        clear hr
        go_wp2_with fail
        go_roundg i
        case measure => omega
        case rel => exact ⟨rest, l, p, (i : Int) - 1, by omega, rfl, hp, rfl, rfl, by go_num, hrs, hrl, by have := hrd.out; rw [rdT, if_neg h1] at this; exact this, rfl⟩

set_option maxHeartbeats 400000 in
theorem read_long (s : ByteArray) (w : World) (h4 : 400 < s.size) :
    Calls Tryd.prog 16 #[.string s] w fun e w' => e = .returned (.tuple #[.int .u64 0, .int .i64 3]) ∧ w = w' := by
  have hd1 : decide (400 < (s.size : Int)) = true := by simp; omega
  go_enter Tryd.func16, Tryd.ntmps16
  go_wp2_with fail
  go_step3
  go_wp2_with fail
  try rw [Exit.noGoto_ret]
  go_ret2
  exact ⟨rfl, rfl⟩
set_option maxHeartbeats 400000 in
theorem read_zero (s : ByteArray) (w : World) (hz : s.data.toList = [48]) :
    Calls Tryd.prog 16 #[.string s] w fun e w' => e = .returned (.tuple #[.int .u64 0, .int .i64 0]) ∧ w = w' := by
  obtain rfl : s = ⟨#[48]⟩ := ByteArray.ext (Array.toList_inj.mp hz)
  go_enter Tryd.func16, Tryd.ntmps16
  go_wp2_with fail
  go_step3
  go_wp2_with fail
  try rw [Exit.noGoto_ret]
  go_ret2
  exact ⟨rfl, rfl⟩
/-- Read, for every string. -/
theorem read_any (s : ByteArray) (l : List UInt8) (w : World) (hs : s.data.toList = l) :
    Calls Tryd.prog 16 #[.string s] w fun e w' => e = .returned (.tuple #[.int .u64 ((readR l).1 : Int), .int .i64 (readR l).2]) ∧ w = w' := by
  subst hs
  have hl : s.data.toList.length = s.size := by simp
  by_cases h4 : 400 < s.size
  · refine (read_long s w h4).mono ?_
    rintro e w' ⟨rfl, rfl⟩
    unfold readR
    rw [if_pos (by omega)]
    exact ⟨rfl, rfl⟩
  · by_cases hz : s.data.toList = [48]
    · refine (read_zero s w hz).mono ?_
      rintro e w' ⟨rfl, rfl⟩
      unfold readR
      rw [if_neg (by omega), if_pos hz]
      exact ⟨rfl, rfl⟩
    · exact read_loop s w (by omega) hz
end Go.Proofs.YtjajojdlgpmpfaaDoor
