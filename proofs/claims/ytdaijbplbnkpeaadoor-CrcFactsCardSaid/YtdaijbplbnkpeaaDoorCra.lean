/-
  The contracts of crc's next, follow, Update, Sum, Linear, opposite, timesPower, part, within, Shift, Join, Bit; where the table of the halves lies as the program's text lays it.
-/
import Derived.Test.YtdaijbplbnkpeaaDoorHst
import Derived.Test.YtdaijbplbnkpeaaDoorPde
import Derived.Test.YtdaijbplbnkpeaaDoorPaw
import Derived.Test.YtdaijbplbnkpeaaDoorApp
namespace Go.Proofs.YtdaijbplbnkpeaaDoor
open Go.RowKit Go.Shelf

/-- The table lies as the program's text lays it. -/
def Tab (w : World) : Prop := 0 < w.heap.size ∧ ∀ i, i < 16 → w.cell? ⟨0, i, none⟩ = some (.int .u32 (halvesZ.getD i 0))
theorem Tab.below {w w' : World} {n : Nat} (h : Tab w) (hb : Below n w w') (hn : 0 < n) : Tab w' :=
  ⟨Nat.lt_of_lt_of_le h.1 hb.size, fun i hi => (hb.cell (p := ⟨0, i, none⟩) hn).trans (h.2 i hi)⟩
theorem Tab.step {w w' : World} (h : Tab w) (hb : Below w.heap.size w w') : Tab w' := h.below hb h.1

theorem bits32_xor (a b : Nat) (ha : a < 4294967296) (hb : b < 4294967296) (x y : Int) (hx : x = a) (hy : y = b) :
    bits .xor .u32 x y = ((a ^^^ b : Nat) : Int) := by
  subst hx hy
  have hx : a ^^^ b < 2 ^ 32 := Nat.xor_lt_two_pow (by omega) (by omega)
  have h1 : (BitVec.ofInt 32 (a : Int)).toNat = a := by
    rw [BitVec.ofInt_natCast, BitVec.toNat_ofNat]; exact Nat.mod_eq_of_lt (by omega)
  have h2 : (BitVec.ofInt 32 (b : Int)).toNat = b := by
    rw [BitVec.ofInt_natCast, BitVec.toNat_ofNat]; exact Nat.mod_eq_of_lt (by omega)
  show IntKind.u32.wrap ((BitVec.ofInt 32 (a : Int) ^^^ BitVec.ofInt 32 (b : Int)).toNat : Int) = _
  rw [BitVec.toNat_xor, h1, h2, IntKind.wrap_u32']
  omega
theorem bits32_and15 (a : Nat) (ha : a < 4294967296) (x : Int) (hx : x = a) :
    bits .and .u32 x 15 = ((a % 16 : Nat) : Int) := by
  subst hx
  have h1 : (BitVec.ofInt 32 (a : Int)).toNat = a := by
    rw [BitVec.ofInt_natCast, BitVec.toNat_ofNat]; exact Nat.mod_eq_of_lt (by omega)
  have h2 : (BitVec.ofInt 32 (15 : Int)).toNat = 15 := by decide
  show IntKind.u32.wrap ((BitVec.ofInt 32 (a : Int) &&& BitVec.ofInt 32 15).toNat : Int) = _
  rw [BitVec.toNat_and, h1, h2, IntKind.wrap_u32']
  have := Nat.and_two_pow_sub_one_eq_mod a 4
  simp only [show (2 : Nat) ^ 4 - 1 = 15 from rfl, show (2 : Nat) ^ 4 = 16 from rfl] at this
  rw [this]; omega

theorem tab_at {w : World} (h : Tab w) (n : Nat) : w.cell? ⟨0, n % 16, none⟩ = some (.int .u32 ((hn 4 (n % 16) : Nat) : Int)) := by
  rw [h.2 _ (Nat.mod_lt _ (by omega)), halves_at ⟨n % 16, Nat.mod_lt _ (by omega)⟩]

set_option maxHeartbeats 400000 in
theorem next_any (c x : Nat) (w : World) (hT : Tab w) (hc : c < 4294967296) (hx : x < 256) :
    Calls Tryd.prog 47 #[.int .u32 (c : Int), .int .u8 (x : Int)] w fun e w' => e = .returned (.int .u32 ((hn 8 (c ^^^ x) : Nat) : Int)) ∧ w = w' := by
  obtain ⟨n, hn'⟩ : ∃ n, n = c ^^^ x := ⟨_, rfl⟩
  have e1 : bits .xor .u32 (c : Int) (x : Int) = (n : Int) := by rw [hn']; exact bits32_xor c x hc (by omega) _ _ rfl rfl
  have hnl : n < 4294967296 := by rw [hn']; exact Nat.xor_lt_two_pow (n := 32) hc (by omega)
  obtain ⟨m, hm'⟩ : ∃ m, m = hn 4 n := ⟨_, rfl⟩
  have hm : m < 4294967296 := by rw [hm']; exact hn_lt 4 hnl
  have e8 : hn 8 (c ^^^ x) = hn 4 m := by rw [hm', hn', ← hn_add]
  have hl : ∀ j, hn 4 (j % 16) < 4294967296 := fun j => hn_lt 4 (by omega)
  rw [e8]
  have e2 := bits32_and15 n hnl _ rfl
  have e3 := tab_at hT n
  have e4 : bits .xor .u32 ((n : Int) / 16) ((hn 4 (n % 16) : Nat) : Int) = (m : Int) := by
    rw [bits32_xor (n / 16) (hn 4 (n % 16)) (by omega) (hl n) _ _ (by omega) rfl, hm', hn4 n]
  have e5 := bits32_and15 m hm _ rfl
  have e6 := tab_at hT m
  have e7 : bits .xor .u32 ((m : Int) / 16) ((hn 4 (m % 16) : Nat) : Int) = ((hn 4 m : Nat) : Int) := by
    rw [bits32_xor (m / 16) (hn 4 (m % 16)) (by omega) (hl m) _ _ (by omega) rfl, hn4 m]
  have E7 := Lib.hid e7
  clear e7 e8 hm' hn'
  go_enter Tryd.func47, Tryd.ntmps47
  go_wp2_with fail
  go_ret
  exact ⟨retN (by rw [← E7.out]), rfl⟩

theorem Sl.byte {w : World} {a : Option Addr} {n cap : Nat} {l : List Int} (h : Sl .u8 w a n cap l) (hB : Bys l) {j : Nat} (hj : j < n) :
    ∃ (b o x : Nat), a = some ⟨b, o, none⟩ ∧ l[j]?.getD 0 = (x : Int) ∧ x < 256 ∧ w.cell? ⟨b, o + j, none⟩ = some (.int .u8 (x : Int)) := by
  obtain ⟨_, _, _, h4⟩ := h
  rcases h4 with ⟨h0, _⟩ | ⟨b, o, ha, _, hc⟩
  · omega
  · have hx := hB.get j
    refine ⟨b, o, (l[j]?.getD 0).toNat, ha, by omega, by omega, ?_⟩
    rw [hc j hj, Int.toNat_of_nonneg hx.1]

set_option maxHeartbeats 400000 in
theorem follow_any (c : Nat) (a : Option Addr) (n cap : Nat) (l : List Int) (w : World) (hT : Tab w) (hc : c < 4294967296) (hS : Sl .u8 w a n cap l) (hB : Bys l) :
    Calls Tryd.prog 55 #[.int .u32 (c : Int), .slice a n cap] w fun e w' => e = .returned (.int .u32 ((fol c l : Nat) : Int)) ∧ w = w' := by
  have hl := hS.1
  have hcap : n ≤ 9223372036854775807 := by have := hS.2.1; have := hS.2.2.1; omega
  have HS := Lib.hid hS
  clear hS
  obtain ⟨R, hR⟩ : ∃ R, R = fol c l := ⟨_, rfl⟩
  have HR := Lib.hid hR
  have HL := Lib.hid hl
  rw [← hR]
  clear hR hl
  go_enter Tryd.func55, Tryd.ntmps55
  go_wp2_with fail
  go_loop [0, 9] (fun C I => ∃ (d j : Nat), d < 4294967296 ∧ j ≤ n ∧ C = .int .u32 (d : Int) ∧ I = .int .i64 (j : Int) ∧ d = fol c (l.take j)) (fun C I => n - (intOf I).toNat)
  case atStart => exact ⟨c, 0, hc, Nat.zero_le _, rfl, rfl, by simp [fol_nil]⟩
  case round =>
    obtain ⟨d, j, hd, hj, rfl, rfl, he⟩ := hrel
    have HE := Lib.hid he
    clear he
    by_cases hlt : j < n
    · obtain ⟨b, o, x, rfl, hx, hx2, hcell⟩ := HS.out.byte hB hlt
      have HX := Lib.hid hx
      clear hx
      go_wp2_with fail
      refine (next_any d x _ hT hd hx2).mono ?_
      rintro e w' ⟨rfl, rfl⟩
      go_wp2_with fail
      go_round
      case rel =>
        refine ⟨hn 8 (d ^^^ x), j + 1, hn_lt 8 (Nat.xor_lt_two_pow (n := 32) hd (by omega)), by omega, rfl, by go_num, ?_⟩
        rw [fol_step c (by rw [HL.out]; exact hlt), HX.out, ← HE.out]; rfl
      case measure => simp [intOf]; omega
    · obtain rfl : j = n := by omega
      go_wp2_with fail
      go_ret
      exact ⟨retN (by rw [HR.out, HE.out, List.take_of_length_le (by rw [HL.out]; exact Nat.le_refl _)]), rfl⟩

theorem max32 : IntKind.u32.max = ((4294967295 : Nat) : Int) := by decide
theorem compl_int (c : Nat) (hc : c < 4294967296) : bits .xor .u32 IntKind.u32.max (c : Int) = ((4294967295 ^^^ c : Nat) : Int) :=
  bits32_xor 4294967295 c (by omega) hc _ _ max32 rfl

set_option maxHeartbeats 400000 in
theorem update_any (c : Nat) (a : Option Addr) (n cap : Nat) (l : List Int) (w : World) (hT : Tab w) (hc : c < 4294967296) (hS : Sl .u8 w a n cap l) (hB : Bys l) :
    Calls Tryd.prog 35 #[.int .u32 (c : Int), .slice a n cap] w fun e w' => e = .returned (.int .u32 ((upd c l : Nat) : Int)) ∧ w = w' := by
  have e1 := compl_int c hc
  have hlt : fol (4294967295 ^^^ c) l < 4294967296 := fol_lt hB (Nat.xor_lt_two_pow (n := 32) (by omega) hc)
  have e2 := compl_int _ hlt
  have hf := follow_any (4294967295 ^^^ c) a n cap l w hT (Nat.xor_lt_two_pow (n := 32) (by omega) hc) hS hB
  have hu : upd c l = 4294967295 ^^^ fol (4294967295 ^^^ c) l := rfl
  rw [hu]
  have hsg : IntKind.u32.signed = false := rfl
  have hsg2 : (¬ (IntKind.u32.signed = true)) := by decide
  go_enter Tryd.func35, Tryd.ntmps35
  go_wp2_with fail
  refine hf.mono ?_
  rintro e w' ⟨rfl, rfl⟩
  go_wp2_with fail
  go_ret
  exact ⟨rfl, rfl⟩

set_option maxHeartbeats 400000 in
theorem sum_any' (a : Option Addr) (n cap : Nat) (l : List Int) (w : World) (hT : Tab w) (hS : Sl .u8 w a n cap l) (hB : Bys l) :
    Calls Tryd.prog 32 #[.slice a n cap] w fun e w' => e = .returned (.int .u32 ((upd 0 l : Nat) : Int)) ∧ w = w' := by
  have hf := update_any 0 a n cap l w hT (by omega) hS hB
  go_enter Tryd.func32, Tryd.ntmps32
  go_wp2_with fail
  refine hf.mono ?_
  rintro e w' ⟨rfl, rfl⟩
  go_wp2_with fail
  go_ret
  exact ⟨rfl, rfl⟩

set_option maxHeartbeats 400000 in
theorem linear_any (a : Option Addr) (n cap : Nat) (l : List Int) (w : World) (hT : Tab w) (hS : Sl .u8 w a n cap l) (hB : Bys l) :
    Calls Tryd.prog 31 #[.slice a n cap] w fun e w' => e = .returned (.int .u32 ((fol 0 l : Nat) : Int)) ∧ w = w' := by
  have hf := follow_any 0 a n cap l w hT (by omega) hS hB
  go_enter Tryd.func31, Tryd.ntmps31
  go_wp2_with fail
  refine hf.mono ?_
  rintro e w' ⟨rfl, rfl⟩
  go_wp2_with fail
  go_ret
  exact ⟨rfl, rfl⟩

set_option maxHeartbeats 400000 in
theorem opposite_any (p : Nat) (w : World) (hp : p < 18446744073709551616) :
    Calls Tryd.prog 61 #[.int .u64 (p : Int)] w fun e w' => e = .returned (.int .u64 ((rvn p 32 : Nat) : Int)) ∧ w = w' := by
  have hf := reverse_any p 32 w hp (by omega)
  go_enter Tryd.func61, Tryd.ntmps61
  go_wp2_with fail
  refine hf.mono ?_
  rintro e w' ⟨rfl, rfl⟩
  go_wp2_with fail
  go_ret
  exact ⟨rfl, rfl⟩

set_option maxHeartbeats 400000 in
theorem timesPower_any (c n : Nat) (x : Int) (w : World) (hx : x = (n : Int)) (hc : c < 4294967296) (hn' : n ≤ 9223372036854775807) :
    Calls Tryd.prog 48 #[.int .u32 (c : Int), .int .i64 x] w fun e w' => e = .returned (.int .u32 ((hn n c : Nat) : Int)) ∧ Below w.heap.size w w' := by
  subst hx
  have hg : gP < 18446744073709551616 := by decide
  have hpw := power_any n gP w hn' hg gP_ne
  have hte := times_eq n (c := c) hc
  have hnl : hn n c < 4294967296 := hn_lt n hc
  have hr32 : rvn c 32 < 4294967296 := rvn_lt c 32
  obtain ⟨R, hR⟩ : ∃ R, R = rvn c 32 := ⟨_, rfl⟩
  obtain ⟨V, hV⟩ : ∃ V, V = hn n c := ⟨_, rfl⟩
  rw [← hR] at hr32
  rw [← hV] at hnl ⊢
  rw [← hR, ← hV] at hte
  have hop : ∀ w, Calls Tryd.prog 61 #[.int .u64 (c : Int)] w fun e w' => e = .returned (.int .u64 (R : Int)) ∧ w = w' := by
    intro w; rw [hR]; exact opposite_any c w (by omega)
  have HTE := Lib.hid hte
  clear hte hR hV
  go_enter Tryd.func48, Tryd.ntmps48
  go_wp2_with fail
  refine hpw.mono ?_
  rintro e w1 ⟨⟨r, hr, rfl⟩, hb⟩
  have hrl : r < 18446744073709551616 := by rw [hr]; exact pm_lt (k := 64) gP_ne hg
  rw [← hr] at HTE
  clear hr
  go_wp2_with fail
  refine (hop _).mono ?_
  rintro e w' ⟨rfl, rfl⟩
  go_wp2_with fail
  refine (MulMod_any _ _ R r gP _ rfl rfl (by omega) hrl hg gP_ne).mono ?_
  rintro e w' ⟨rfl, rfl⟩
  go_wp2_with fail
  refine (opposite_any (pm (cm R r) gP) _ (pm_lt (k := 64) gP_ne hg)).mono ?_
  rintro e w' ⟨rfl, rfl⟩
  rw [HTE.out]
  go_wp2_with fail
  go_ret
  exact ⟨rfl, hb⟩
end Go.Proofs.YtdaijbplbnkpeaaDoor
