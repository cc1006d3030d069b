/-
  The contracts of bits' With and Without.
-/
import Derived.Test.YtcdjfgkjllonhaaDoorBzj
import Derived.Test.YtcdjfgkjllonhaaDoorBmd
import Derived.Deep.RegionLaw
import Derived.Deep.RegionHeldLaw
namespace Go.Proofs.YtcdjfgkjllonhaaDoor
open Go.RowKit Go.Shelf

theorem bits_or_nat (a b : Nat) (ha : a < 18446744073709551616) (hb : b < 18446744073709551616) : bits .or .u64 (a : Int) (b : Int) = ((a ||| b : Nat) : Int) := by
  have hx : a ||| b < 2 ^ 64 := Nat.or_lt_two_pow (by omega) (by omega)
  have h1 : (BitVec.ofInt 64 (a : Int)).toNat = a := by
    rw [BitVec.ofInt_natCast, BitVec.toNat_ofNat]; exact Nat.mod_eq_of_lt (by omega)
  have h2 : (BitVec.ofInt 64 (b : Int)).toNat = b := by
    rw [BitVec.ofInt_natCast, BitVec.toNat_ofNat]; exact Nat.mod_eq_of_lt (by omega)
  show IntKind.u64.wrap ((BitVec.ofInt 64 (a : Int) ||| BitVec.ofInt 64 (b : Int)).toNat : Int) = _
  rw [BitVec.toNat_or, h1, h2, IntKind.wrap_u64]
  omega
/-- A word that is changed at one bit. -/
theorem set_word {l : List Int} (hl : Wds l) {x V : Nat} (f : Bool → Bool → Bool) (hx : x < 64 * l.length) (hV : V < 18446744073709551616) (hb : ∀ i, i < 64 → V.testBit i = f ((wd l (x / 64)).testBit i) (decide (i = x % 64))) (hf : ∀ b, f b false = b) :
    Wds (l.set (x / 64) (V : Int)) ∧ ∀ i, bt (l.set (x / 64) (V : Int)) i = f (bt l i) (decide (i = x)) := by
  refine ⟨hl.set _ ⟨by omega, by omega⟩, fun i => ?_⟩
  rw [bt_set (by omega)]
  by_cases hi : i / 64 = x / 64
  · rw [if_pos hi, hb _ (Nat.mod_lt _ (by omega))]
    have e1 : (wd l (x / 64)).testBit (i % 64) = bt l i := by unfold wd bt; rw [hi]
    have e2 : decide (i % 64 = x % 64) = decide (i = x) := by
      by_cases h : i = x
      · rw [h]; simp
      · rw [decide_eq_false h, decide_eq_false (fun h2 => h (by omega))]
    rw [e1, e2]
  · rw [if_neg hi, decide_eq_false (fun h => hi (by rw [h])), hf]
theorem or_bit (X r : Nat) (i : Nat) : (X ||| 2 ^ r).testBit i = (X.testBit i || decide (i = r)) := tb_or X r i
theorem an_bit {X r i : Nat} (hi : i < 64) : (an X (2 ^ r)).testBit i = (X.testBit i && !decide (i = r)) := by
  rw [an_test hi, Nat.testBit_two_pow]
  by_cases h : r = i
  · subst h; simp
  · rw [decide_eq_false h, decide_eq_false (fun h2 => h h2.symm)]

set_option maxRecDepth 100000 in
set_option maxHeartbeats 4000000 in
theorem withOk_any (w : World) (N i : Nat) (a : Option Addr) (n c : Nat) (l : List Int) (h : SetIn w N a n c l) (hr : rightB N l = true) (hi : i < N) :
    Calls Tryd.prog 36 #[.agg #[.int .i64 (N : Int), .slice a n c], .int .i64 (i : Int)] w (SetE w N fun j => bt l j || decide (j = i)) := by
  unfold SetE
  have hNb := (of_rightB hr).2.1
  have hnN := (of_rightB hr).2.2.1
  have hnl := h.sl.1
  have hWn : (N + 63) / 64 = n := by omega
  rw [hWn]
  obtain ⟨hS, hT⟩ := boxes w (.int .i64 (N : Int)) (.slice a n c)
  have qc := copyOk_any _ (N : Int) (i : Int) a n c l (h.below hS.1) hr ⟨by omega, by omega⟩
  have hwl := h.wds
  obtain ⟨j, hj⟩ : ∃ j : Nat, j = i / 64 := ⟨_, rfl⟩
  obtain ⟨r, hrr⟩ : ∃ r : Nat, r = i % 64 := ⟨_, rfl⟩
  have hr64 : r < 64 := by omega
  have hjn : j < n := by omega
  have hx := wd_lt hwl j
  have hP : 2 ^ r < 18446744073709551616 := Nat.pow_lt_pow_right (n := 64) (by omega) hr64
  have hor := bits_or_nat (wd l j) (2 ^ r) hx hP
  have hfin := set_word hwl (x := i) (V := wd l j ||| 2 ^ r) (fun a b => a || b) (by omega) (Nat.or_lt_two_pow (n := 64) hx hP) (fun k hk => by rw [← hj, ← hrr]; exact or_bit _ _ _) (fun b => Bool.or_false b)
  rw [← hj] at hfin
  have qt := fun W => bit_any i W (by omega)
  rw [← hrr] at qt
  obtain ⟨x, hxe⟩ : ∃ x, x = wd l j := ⟨_, rfl⟩
  obtain ⟨P, hPe⟩ : ∃ P, P = 2 ^ r := ⟨_, rfl⟩
  rw [← hxe, ← hPe] at hor hfin
  rw [← hPe] at qt
  obtain ⟨V, hV⟩ : ∃ V, V = x ||| P := ⟨_, rfl⟩
  rw [← hV] at hor hfin
  have hlx : l[j]?.getD 0 = (x : Int) := by rw [hxe]; exact wd_eq hwl j
  have e1 : (i : Int) / 64 = (j : Int) := by omega
  have e2 : (i : Int).tdiv 64 = (j : Int) := by rw [Int.tdiv_eq_ediv_of_nonneg (by omega)]; exact e1
  have e3 : IntKind.i64.wrap (j : Int) = (j : Int) := by rw [IntKind.wrap_i64]; omega
  have i1 : (j : Int) < (n : Int) := by omega
  have i0 : (0 : Int) ≤ (j : Int) := by omega
  have HF := Lib.hid hfin
  have HLX := Lib.hid hlx
  have HNL := Lib.hid hnl
  clear hfin hlx hnl hj hrr hP hPe hxe hV hWn hnN hwl h hr hi hr64 hNb
  go_enter Tryd.func36, Tryd.ntmps36
  go_wp2_with fail
  refine qc.mono ?_
  rintro e w2 ⟨ga, c2, rfl, hown, hB2⟩
  have hS2 := hS.step hB2
  have hT2 := hT.step hB2
  obtain ⟨g, rfl, hbg, hgl, _, hnc⟩ := own_addr2 hown (by omega)
  have hz1 : ((w.alloc (.cells #[.int .i64 (N : Int), .slice a n c] 24)).alloc (.cells #[.int .i64 0, .slice none 0 0] 24)).heap.size = w.heap.size + 1 + 1 := by rw [World.size_alloc, World.size_alloc]
  rw [hz1] at hbg hown
  clear hS hT hB2 hz1 qc
  go_wp2_with fail
  have hT3 := Two.new w2 24 (.int .i64 (N : Int)) (.slice (some ⟨g, 0, none⟩) n c2)
  have hA : Below w2.heap.size w2 (w2.alloc (.cells #[.int .i64 (N : Int), .slice (some ⟨g, 0, none⟩) n c2] 24)) := (Below.refl _ w2).alloc (Nat.le_refl _) _
  have hown3 := ownsRow_below hown hA
  have hS3 := hS2.step hA
  have hR3 := hT2.step hA
  obtain ⟨w3, hw3⟩ : ∃ wz, wz = w2.alloc (.cells #[.int .i64 (N : Int), .slice (some ⟨g, 0, none⟩) n c2] 24) := ⟨_, rfl⟩
  rw [← hw3] at hT3 hown3 hS3 hR3 ⊢
  obtain ⟨sb, hsb⟩ : ∃ b, b = w2.heap.size := ⟨_, rfl⟩
  rw [← hsb] at hT3 ⊢
  have hsbg : sb ≠ g := by omega
  have hrg : w.heap.size + 1 ≠ g := by omega
  have hrs : w.heap.size + 1 < sb := by have := hT2.lt; omega
  clear hw3 hsb hA hown hS2 hT2 hgl
  have cW := hown3.cellAt j (by omega)
  rw [List.getElem?_map, List.getElem?_eq_getElem (by have := HNL.out; omega : j < l.length)] at cW
  have hlx2 := HLX.out
  rw [List.getElem?_eq_getElem (by have := HNL.out; omega : j < l.length)] at hlx2
  simp only [Option.getD_some] at hlx2
  simp only [Option.map_some, hlx2] at cW
  have fW := hown3.frozenAt j
  have hst := (hown3.stored j (.int .u64 (V : Int))).1
  rw [← List.map_set] at hst
  have hT4 := two_set hT3 hsbg j (.int .u64 (V : Int))
  have hR4 := two_set hR3 hrg j (.int .u64 (V : Int))
  have hB4 := hS3.1.setCell (p := ⟨g, j, none⟩) (by show w.heap.size ≤ g; omega) (.int .u64 (V : Int))
  have c0 := hT3.c0
  have c1 := hT3.c1
  have HH := Lib.hid (And.intro hst (And.intro hT4 (And.intro hR4 hB4)))
  clear hst hT4 hR4 hB4 hT3 hR3 hS3 hown3 hlx2
  go_region_with ((go_at_call 66; refine (qt _).mono ?_; rintro e w9 ⟨rfl, hE9⟩; rw [hE9]; clear hE9))
  all_goals
    obtain ⟨hst, hT4, hR4, hB4⟩ := HH.out
    obtain ⟨w4, hw4⟩ : ∃ wz, wz = (w3.setCell ⟨g, j, none⟩ (.int .u64 (V : Int))).drew := ⟨_, rfl⟩
    have hst5 : w4.ownsRow (w.heap.size + 1 + 1) 30 1 (.slice (some ⟨g, 0, none⟩) n c2) n ((l.set j (V : Int)).map (Value.int .u64)) := by rw [hw4]; exact hst
    have hT5 : Two w4 sb 24 (.int .i64 (N : Int)) (.slice (some ⟨g, 0, none⟩) n c2) := by rw [hw4]; exact hT4
    have hR5 : Two w4 (w.heap.size + 1) 24 (.int .i64 0) (.slice none 0 0) := by rw [hw4]; exact hR4
    have hB5 : Below w.heap.size w w4 := by rw [hw4]; exact hB4.drew
    rw [← hw4]
    clear hw4 c0 c1 cW fW hst hT4 hR4 hB4 HH
    have c0 := hT5.c0
    have c1 := hT5.c1
    have q0 := hR5.c0
    have q1 := hR5.c1
    have q2 := hR5.f0
    have q3 := hR5.f1
    have hQ6 := hR5.range_set (.int .i64 (N : Int)) (.slice (some ⟨g, 0, none⟩) n c2)
    have hB6 := (hB5.setCell (p := ⟨w.heap.size + 1, 0, none⟩) (Nat.le_succ _) (.int .i64 (N : Int))).setCell (p := ⟨w.heap.size + 1, 1, none⟩) (Nat.le_succ _) (.slice (some ⟨g, 0, none⟩) n c2)
    have hown6 := own_base (own_set (own_set hst5 (w.heap.size + 1) 0 (.int .i64 (N : Int)) (Nat.lt_succ_self _)) (w.heap.size + 1) 1 (.slice (some ⟨g, 0, none⟩) n c2) (Nat.lt_succ_self _)) (Nat.le_trans (Nat.le_succ _) (Nat.le_succ (w.heap.size + 1)))
    clear hst5 hT5 hR5 hB5
    go_wp2_with fail
    refine bodyPost_cell2 rfl (w.heap.size + 1) rfl _ _ hQ6 Tryd.underlying24 rfl (by kernel_rfl) rfl ?_
    exact ⟨_, c2, _, rfl, hown6, HF.out.1, HF.out.2, hB6⟩

set_option maxRecDepth 100000 in
set_option maxHeartbeats 4000000 in
theorem withoutOk_any (w : World) (N i : Nat) (a : Option Addr) (n c : Nat) (l : List Int) (h : SetIn w N a n c l) (hr : rightB N l = true) (hi : i < N) :
    Calls Tryd.prog 37 #[.agg #[.int .i64 (N : Int), .slice a n c], .int .i64 (i : Int)] w (SetE w N fun j => bt l j && !decide (j = i)) := by
  unfold SetE
  have hNb := (of_rightB hr).2.1
  have hnN := (of_rightB hr).2.2.1
  have hnl := h.sl.1
  have hWn : (N + 63) / 64 = n := by omega
  rw [hWn]
  obtain ⟨hS, hT⟩ := boxes w (.int .i64 (N : Int)) (.slice a n c)
  have qc := copyOk_any _ (N : Int) (i : Int) a n c l (h.below hS.1) hr ⟨by omega, by omega⟩
  have hwl := h.wds
  obtain ⟨j, hj⟩ : ∃ j : Nat, j = i / 64 := ⟨_, rfl⟩
  obtain ⟨r, hrr⟩ : ∃ r : Nat, r = i % 64 := ⟨_, rfl⟩
  have hr64 : r < 64 := by omega
  have hjn : j < n := by omega
  have hx := wd_lt hwl j
  have hP : 2 ^ r < 18446744073709551616 := Nat.pow_lt_pow_right (n := 64) (by omega) hr64
  have hor := bits_an (wd l j) (2 ^ r)
  have hfin := set_word hwl (x := i) (V := an (wd l j) (2 ^ r)) (fun a b => a && !b) (by omega) (an_lt _ _) (fun k hk => by rw [← hj, ← hrr]; exact an_bit hk) (fun b => by simp)
  rw [← hj] at hfin
  have qt := fun W => bit_any i W (by omega)
  rw [← hrr] at qt
  obtain ⟨x, hxe⟩ : ∃ x, x = wd l j := ⟨_, rfl⟩
  obtain ⟨P, hPe⟩ : ∃ P, P = 2 ^ r := ⟨_, rfl⟩
  rw [← hxe, ← hPe] at hor hfin
  rw [← hPe] at qt
  obtain ⟨V, hV⟩ : ∃ V, V = an x P := ⟨_, rfl⟩
  rw [← hV] at hor hfin
  have hlx : l[j]?.getD 0 = (x : Int) := by rw [hxe]; exact wd_eq hwl j
  have e1 : (i : Int) / 64 = (j : Int) := by omega
  have e2 : (i : Int).tdiv 64 = (j : Int) := by rw [Int.tdiv_eq_ediv_of_nonneg (by omega)]; exact e1
  have e3 : IntKind.i64.wrap (j : Int) = (j : Int) := by rw [IntKind.wrap_i64]; omega
  have i1 : (j : Int) < (n : Int) := by omega
  have i0 : (0 : Int) ≤ (j : Int) := by omega
  have HF := Lib.hid hfin
  have HLX := Lib.hid hlx
  have HNL := Lib.hid hnl
  clear hfin hlx hnl hj hrr hP hPe hxe hV hWn hnN hwl h hr hi hr64 hNb
  go_enter Tryd.func37, Tryd.ntmps37
  go_wp2_with fail
  refine qc.mono ?_
  rintro e w2 ⟨ga, c2, rfl, hown, hB2⟩
  have hS2 := hS.step hB2
  have hT2 := hT.step hB2
  obtain ⟨g, rfl, hbg, hgl, _, hnc⟩ := own_addr2 hown (by omega)
  have hz1 : ((w.alloc (.cells #[.int .i64 (N : Int), .slice a n c] 24)).alloc (.cells #[.int .i64 0, .slice none 0 0] 24)).heap.size = w.heap.size + 1 + 1 := by rw [World.size_alloc, World.size_alloc]
  rw [hz1] at hbg hown
  clear hS hT hB2 hz1 qc
  go_wp2_with fail
  have hT3 := Two.new w2 24 (.int .i64 (N : Int)) (.slice (some ⟨g, 0, none⟩) n c2)
  have hA : Below w2.heap.size w2 (w2.alloc (.cells #[.int .i64 (N : Int), .slice (some ⟨g, 0, none⟩) n c2] 24)) := (Below.refl _ w2).alloc (Nat.le_refl _) _
  have hown3 := ownsRow_below hown hA
  have hS3 := hS2.step hA
  have hR3 := hT2.step hA
  obtain ⟨w3, hw3⟩ : ∃ wz, wz = w2.alloc (.cells #[.int .i64 (N : Int), .slice (some ⟨g, 0, none⟩) n c2] 24) := ⟨_, rfl⟩
  rw [← hw3] at hT3 hown3 hS3 hR3 ⊢
  obtain ⟨sb, hsb⟩ : ∃ b, b = w2.heap.size := ⟨_, rfl⟩
  rw [← hsb] at hT3 ⊢
  have hsbg : sb ≠ g := by omega
  have hrg : w.heap.size + 1 ≠ g := by omega
  have hrs : w.heap.size + 1 < sb := by have := hT2.lt; omega
  clear hw3 hsb hA hown hS2 hT2 hgl
  have cW := hown3.cellAt j (by omega)
  rw [List.getElem?_map, List.getElem?_eq_getElem (by have := HNL.out; omega : j < l.length)] at cW
  have hlx2 := HLX.out
  rw [List.getElem?_eq_getElem (by have := HNL.out; omega : j < l.length)] at hlx2
  simp only [Option.getD_some] at hlx2
  simp only [Option.map_some, hlx2] at cW
  have fW := hown3.frozenAt j
  have hst := (hown3.stored j (.int .u64 (V : Int))).1
  rw [← List.map_set] at hst
  have hT4 := two_set hT3 hsbg j (.int .u64 (V : Int))
  have hR4 := two_set hR3 hrg j (.int .u64 (V : Int))
  have hB4 := hS3.1.setCell (p := ⟨g, j, none⟩) (by show w.heap.size ≤ g; omega) (.int .u64 (V : Int))
  have c0 := hT3.c0
  have c1 := hT3.c1
  have HH := Lib.hid (And.intro hst (And.intro hT4 (And.intro hR4 hB4)))
  clear hst hT4 hR4 hB4 hT3 hR3 hS3 hown3 hlx2
  go_region_with ((go_at_call 66; refine (qt _).mono ?_; rintro e w9 ⟨rfl, hE9⟩; rw [hE9]; clear hE9))
  all_goals
    obtain ⟨hst, hT4, hR4, hB4⟩ := HH.out
    obtain ⟨w4, hw4⟩ : ∃ wz, wz = (w3.setCell ⟨g, j, none⟩ (.int .u64 (V : Int))).drew := ⟨_, rfl⟩
    have hst5 : w4.ownsRow (w.heap.size + 1 + 1) 30 1 (.slice (some ⟨g, 0, none⟩) n c2) n ((l.set j (V : Int)).map (Value.int .u64)) := by rw [hw4]; exact hst
    have hT5 : Two w4 sb 24 (.int .i64 (N : Int)) (.slice (some ⟨g, 0, none⟩) n c2) := by rw [hw4]; exact hT4
    have hR5 : Two w4 (w.heap.size + 1) 24 (.int .i64 0) (.slice none 0 0) := by rw [hw4]; exact hR4
    have hB5 : Below w.heap.size w w4 := by rw [hw4]; exact hB4.drew
    rw [← hw4]
    clear hw4 c0 c1 cW fW hst hT4 hR4 hB4 HH
    have c0 := hT5.c0
    have c1 := hT5.c1
    have q0 := hR5.c0
    have q1 := hR5.c1
    have q2 := hR5.f0
    have q3 := hR5.f1
    have hQ6 := hR5.range_set (.int .i64 (N : Int)) (.slice (some ⟨g, 0, none⟩) n c2)
    have hB6 := (hB5.setCell (p := ⟨w.heap.size + 1, 0, none⟩) (Nat.le_succ _) (.int .i64 (N : Int))).setCell (p := ⟨w.heap.size + 1, 1, none⟩) (Nat.le_succ _) (.slice (some ⟨g, 0, none⟩) n c2)
    have hown6 := own_base (own_set (own_set hst5 (w.heap.size + 1) 0 (.int .i64 (N : Int)) (Nat.lt_succ_self _)) (w.heap.size + 1) 1 (.slice (some ⟨g, 0, none⟩) n c2) (Nat.lt_succ_self _)) (Nat.le_trans (Nat.le_succ _) (Nat.le_succ (w.heap.size + 1)))
    clear hst5 hT5 hR5 hB5
    go_wp2_with fail
    refine bodyPost_cell2 rfl (w.heap.size + 1) rfl _ _ hQ6 Tryd.underlying24 rfl (by kernel_rfl) rfl ?_
    exact ⟨_, c2, _, rfl, hown6, HF.out.1, HF.out.2, hB6⟩

set_option maxRecDepth 100000 in
set_option maxHeartbeats 1000000 in
theorem withX_any (w : World) (N i : Int) (x : Int) (hx : x = 50 ∨ x = 2) (a : Option Addr) (n c : Nat) (l : List Int) (h : SetIn w N a n c l)
    (qc : ∀ W, SetIn W N a n c l → Calls Tryd.prog 71 #[.agg #[.int .i64 N, .slice a n c], .int .i64 i] W (SetX W x)) :
    Calls Tryd.prog 36 #[.agg #[.int .i64 N, .slice a n c], .int .i64 i] w (SetX w x) := by
  unfold SetX
  obtain ⟨hS, hT⟩ := boxes w (.int .i64 N) (.slice a n c)
  have qc := qc _ (h.below hS.1)
  have hne : (x != 0) = true := by rcases hx with rfl | rfl <;> rfl
  clear h hx
  go_enter Tryd.func36, Tryd.ntmps36
  go_wp2_with fail
  refine qc.mono ?_
  rintro e w2 ⟨ga, c2, rfl, _, hB2⟩
  have hA : Below w2.heap.size w2 (w2.alloc (.cells #[.int .i64 0, .slice ga 0 c2] 24)) := (Below.refl _ w2).alloc (Nat.le_refl _) _
  have hS2 := (hS.step hB2).step hA
  have hT2 := (hT.step hB2).step hA
  have q0 := hT2.c0
  have q1 := hT2.c1
  have q2 := hT2.f0
  have q3 := hT2.f1
  have hQ3 := hT2.range_set (.int .i64 0) (.slice none 0 0)
  have hS3 := hS2.put (.int .i64 0) (.slice none 0 0)
  clear hS hT hB2 hA
  go_wp2_with fail
  refine bodyPost_cell2 rfl (w.heap.size + 1) rfl _ _ hQ3 Tryd.underlying24 rfl (by kernel_rfl) rfl ?_
  exact ⟨none, 0, rfl, World.ownsRow_nil _ _ _ _, hS3.1⟩

set_option maxRecDepth 100000 in
set_option maxHeartbeats 1000000 in
theorem withoutX_any (w : World) (N i : Int) (x : Int) (hx : x = 50 ∨ x = 2) (a : Option Addr) (n c : Nat) (l : List Int) (h : SetIn w N a n c l)
    (qc : ∀ W, SetIn W N a n c l → Calls Tryd.prog 71 #[.agg #[.int .i64 N, .slice a n c], .int .i64 i] W (SetX W x)) :
    Calls Tryd.prog 37 #[.agg #[.int .i64 N, .slice a n c], .int .i64 i] w (SetX w x) := by
  unfold SetX
  obtain ⟨hS, hT⟩ := boxes w (.int .i64 N) (.slice a n c)
  have qc := qc _ (h.below hS.1)
  have hne : (x != 0) = true := by rcases hx with rfl | rfl <;> rfl
  clear h hx
  go_enter Tryd.func37, Tryd.ntmps37
  go_wp2_with fail
  refine qc.mono ?_
  rintro e w2 ⟨ga, c2, rfl, _, hB2⟩
  have hA : Below w2.heap.size w2 (w2.alloc (.cells #[.int .i64 0, .slice ga 0 c2] 24)) := (Below.refl _ w2).alloc (Nat.le_refl _) _
  have hS2 := (hS.step hB2).step hA
  have hT2 := (hT.step hB2).step hA
  have q0 := hT2.c0
  have q1 := hT2.c1
  have q2 := hT2.f0
  have q3 := hT2.f1
  have hQ3 := hT2.range_set (.int .i64 0) (.slice none 0 0)
  have hS3 := hS2.put (.int .i64 0) (.slice none 0 0)
  clear hS hT hB2 hA
  go_wp2_with fail
  refine bodyPost_cell2 rfl (w.heap.size + 1) rfl _ _ hQ3 Tryd.underlying24 rfl (by kernel_rfl) rfl ?_
  exact ⟨none, 0, rfl, World.ownsRow_nil _ _ _ _, hS3.1⟩
end Go.Proofs.YtcdjfgkjllonhaaDoor
