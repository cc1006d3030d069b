/-
  The contract of bits' Of.
-/
import Derived.Test.YtcdjfgkjllonhaaDoorBzk
namespace Go.Proofs.YtcdjfgkjllonhaaDoor
open Go.RowKit Go.Shelf

theorem take_mem {L : List Int} {k : Nat} (h : k < L.length) {P : Int → Prop} (h1 : ∀ x ∈ L.take k, P x) (h2 : P (L[k]?.getD 0)) : ∀ x ∈ L.take (k + 1), P x := by
  intro x hx
  rw [List.take_succ_eq_append_getElem h, List.mem_append, List.mem_singleton] at hx
  rcases hx with hx | hx
  · exact h1 x hx
  · rw [List.getElem?_eq_getElem h, Option.getD_some] at h2; rw [hx]; exact h2
theorem take_hasI {L : List Int} {k : Nat} (h : k < L.length) (i : Int) : (L.take (k + 1)).contains i = ((L.take k).contains i || decide (i = L[k]?.getD 0)) := by
  rw [Bool.eq_iff_iff, List.getElem?_eq_getElem h, Option.getD_some]
  simp only [List.contains_eq_mem, decide_eq_true_eq, Bool.or_eq_true]
  rw [List.take_succ_eq_append_getElem h, List.mem_append, List.mem_singleton]
theorem getD_mem {L : List Int} {k : Nat} (h : k < L.length) : L[k]?.getD 0 ∈ L := by
  rw [List.getElem?_eq_getElem h, Option.getD_some]; exact List.getElem_mem h

set_option maxRecDepth 100000 in
set_option maxHeartbeats 1000000 in
theorem ofX0_any (w : World) (n : Int) (hn : n < 0 ∨ 65536 < n) (a : Option Addr) (m c : Nat) : Calls Tryd.prog 35 #[.int .i64 n, .slice a m c] w (SetX w 2) := by
  unfold SetX
  have hB : Below w.heap.size w (w.alloc (.cells #[.int .i64 0, .slice none 0 0] 24)) := (Below.refl _ w).alloc (Nat.le_refl _) _
  have hT : Two (w.alloc (.cells #[.int .i64 0, .slice none 0 0] 24)) w.heap.size 24 (.int .i64 0) (.slice none 0 0) := Two.new w _ _ _
  have qn := newX_any (w.alloc (.cells #[.int .i64 0, .slice none 0 0] 24)) n hn
  go_enter Tryd.func35, Tryd.ntmps35
  go_wp2_with fail
  refine qn.mono ?_
  rintro e w2 ⟨ga, c2, rfl, _, hB2⟩
  have hA : Below w2.heap.size w2 (w2.alloc (.cells #[.int .i64 0, .slice ga 0 c2] 24)) := (Below.refl _ w2).alloc (Nat.le_refl _) _
  have hT2 := (hT.step hB2).step hA
  have hB3 := bstep (bstep hB hB2) hA
  have q0 := hT2.c0
  have q1 := hT2.c1
  have q2 := hT2.f0
  have q3 := hT2.f1
  have hQ3 := hT2.range_set (.int .i64 0) (.slice none 0 0)
  have hB4 := (hB3.setCell (p := ⟨w.heap.size, 0, none⟩) (Nat.le_refl _) (.int .i64 0)).setCell (p := ⟨w.heap.size, 1, none⟩) (Nat.le_refl _) (.slice none 0 0)
  clear hB hT hB2 hA qn
  go_wp2_with fail
  refine bodyPost_cell2 rfl w.heap.size rfl _ _ hQ3 Tryd.underlying24 rfl (by kernel_rfl) rfl ?_
  exact ⟨none, 0, rfl, World.ownsRow_nil _ _ _ _, hB4⟩

set_option maxRecDepth 100000 in
set_option maxHeartbeats 8000000 in
theorem of_any (w : World) (n : Nat) (hn : n ≤ 65536) (a : Option Addr) (m c : Nat) (L : List Int) (hs : Sl .i64 w a m c L) :
    Calls Tryd.prog 35 #[.int .i64 (n : Int), .slice a m c] w fun e w' => ((∀ x ∈ L, 0 ≤ x ∧ x < (n : Int)) → SetE w n (fun i => L.contains (i : Int)) e w') ∧ ((∃ x ∈ L, x < 0 ∨ (n : Int) ≤ x) → SetX w 2 e w') := by
  unfold SetE SetX
  have hB : Below w.heap.size w (w.alloc (.cells #[.int .i64 0, .slice none 0 0] 24)) := (Below.refl _ w).alloc (Nat.le_refl _) _
  have hT : Two (w.alloc (.cells #[.int .i64 0, .slice none 0 0] 24)) w.heap.size 24 (.int .i64 0) (.slice none 0 0) := Two.new w _ _ _
  have qn := newOk_any (w.alloc (.cells #[.int .i64 0, .slice none 0 0] 24)) n hn
  unfold SetE at qn
  obtain ⟨K, hK⟩ : ∃ K : Nat, K = (n + 63) / 64 := ⟨_, rfl⟩
  rw [← hK] at qn ⊢
  have hKl : K ≤ 1024 := by omega
  have hnK : n ≤ 64 * K := by omega
  have hm : L.length = m := hs.1
  have hc9 := hs.2.1
  have hc8 := hs.2.2.1
  clear hK
  go_enter Tryd.func35, Tryd.ntmps35
  go_wp2_with fail
  refine qn.mono ?_
  rintro e w2 ⟨ga, c2, R0, rfl, hown, hW0, hb0, hB2⟩
  rw [World.size_alloc] at hown
  have hT2 := hT.step hB2
  have hBB := bstep hB hB2
  clear hB hT hB2 qn
  go_wp2_with fail
  have hT3 := Two.new w2 24 (.int .i64 (n : Int)) (.slice ga K c2)
  have hA : Below w2.heap.size w2 (w2.alloc (.cells #[.int .i64 (n : Int), .slice ga K c2] 24)) := (Below.refl _ w2).alloc (Nat.le_refl _) _
  have hown3 := ownsRow_below hown hA
  have hB3 := bstep hBB hA
  have hR3 := hT2.step hA
  have hlt2 := hT2.lt
  have hgl := hown.lt
  obtain ⟨w3, hw3⟩ : ∃ wz, wz = w2.alloc (.cells #[.int .i64 (n : Int), .slice ga K c2] 24) := ⟨_, rfl⟩
  rw [← hw3] at hT3 hown3 hB3 hR3 ⊢
  obtain ⟨sb, hsb⟩ : ∃ b, b = w2.heap.size := ⟨_, rfl⟩
  rw [← hsb] at hT3 hlt2 hgl ⊢
  have hsb0 : w.heap.size ≤ sb := by omega
  have HGL := Lib.hid hgl
  have HM := Lib.hid hm
  have hb0' : ∀ i, bt R0 i = (L.take 0).contains (i : Int) := fun i => by rw [hb0]; rfl
  have hrl0 : R0.length = K := by
    have := hown3.1
    simpa using this
  clear hw3 hsb hA hown hT2 hBB hb0 hgl hm
  go_wp2_with fail
  go_loopw [21] (fun I wr => ∃ (k : Nat) (R : List Int), k ≤ m ∧ I = .int .i64 (k : Int) ∧ Wds R ∧ R.length = K ∧ (∀ i : Nat, bt R i = (L.take k).contains (i : Int)) ∧ (∀ x ∈ L.take k, 0 ≤ x ∧ x < (n : Int)) ∧ wr.ownsRow (w.heap.size + 1) 30 1 (.slice ga K c2) K (R.map (Value.int .u64)) ∧ Two wr sb 24 (.int .i64 (n : Int)) (.slice ga K c2) ∧ Two wr w.heap.size 24 (.int .i64 0) (.slice none 0 0) ∧ Below w.heap.size w wr) (fun I _ => m - (intOf I).toNat)
  case atStart => exact ⟨0, R0, by omega, rfl, hW0, hrl0, hb0', fun x hx => by simp at hx, hown3, hT3, hR3, hB3⟩
  case round =>
    obtain ⟨k, R, hk, rfl, hWd, hrl, hbt, hall, hownR, hTs, hRs, hBr⟩ := hrel
    have HBT := Lib.hid hbt
    have HALL := Lib.hid hall
    clear hbt hall
    by_cases hlt : k < m
    · have hs3 := hs.below hBr
      obtain ⟨lb, off, rfl, hc⟩ := hs3.view (by omega)
      have hcell := hc k hlt
      obtain ⟨x, hx⟩ : ∃ x, x = L[k]?.getD 0 := ⟨_, rfl⟩
      rw [← hx] at hcell
      have hxm : x ∈ L := by rw [hx]; exact getD_mem (by rw [HM.out]; exact hlt)
      have HX := Lib.hid hx
      have i3 : (k : Int) < (m : Int) := by omega
      clear hx hc hs3
      by_cases hin : 0 ≤ x ∧ x < (n : Int)
      · have qb := below_yes x (n : Int) hin
        obtain ⟨i, rfl⟩ : ∃ i : Nat, x = (i : Int) := ⟨x.toNat, by omega⟩
        have hin1 := hin.2
        obtain ⟨j, hj⟩ : ∃ j : Nat, j = i / 64 := ⟨_, rfl⟩
        obtain ⟨r, hrr⟩ : ∃ r : Nat, r = i % 64 := ⟨_, rfl⟩
        have hr64 : r < 64 := by omega
        have hjK : j < K := by omega
        have hiK : i < 64 * R.length := by omega
        have hxw := wd_lt hWd j
        have hP : 2 ^ r < 18446744073709551616 := Nat.pow_lt_pow_right (n := 64) (by omega) hr64
        have hor := bits_or_nat (wd R j) (2 ^ r) hxw hP
        have hfin := set_word hWd (x := i) (V := wd R j ||| 2 ^ r) (fun a b => a || b) hiK (Nat.or_lt_two_pow (n := 64) hxw hP) (fun k hk => by rw [← hj, ← hrr]; exact or_bit _ _ _) (fun b => Bool.or_false b)
        rw [← hj] at hfin
        have qt := fun W => bit_any i W (by omega)
        rw [← hrr] at qt
        obtain ⟨y, hxe⟩ : ∃ x, x = wd R j := ⟨_, rfl⟩
        obtain ⟨P, hPe⟩ : ∃ P, P = 2 ^ r := ⟨_, rfl⟩
        rw [← hxe, ← hPe] at hor hfin
        rw [← hPe] at qt
        obtain ⟨V, hV⟩ : ∃ V, V = y ||| P := ⟨_, rfl⟩
        rw [← hV] at hor hfin
        have hlx : R[j]?.getD 0 = (y : Int) := by rw [hxe]; exact wd_eq hWd j
        have e1 : (i : Int) / 64 = (j : Int) := by omega
        have e2 : (i : Int).tdiv 64 = (j : Int) := by rw [Int.tdiv_eq_ediv_of_nonneg (by omega)]; exact e1
        have e3 : IntKind.i64.wrap (j : Int) = (j : Int) := by rw [IntKind.wrap_i64]; omega
        have i1 : (j : Int) < (K : Int) := by omega
        have i0 : (0 : Int) ≤ (j : Int) := by omega
        obtain ⟨g, rfl, hbg, hgl2, _, hnc⟩ := own_addr2 hownR (by omega)
        have hgs : g < sb := (HGL.out g rfl).2
        have hfin2 : ∀ q : Nat, bt (R.set j (V : Int)) q = (L.take (k + 1)).contains (q : Int) := fun q => by
          rw [hfin.2 q, HBT.out, take_hasI (by rw [HM.out]; exact hlt), ← HX.out]
          congr 1
          by_cases h : q = i
          · subst h; simp
          · rw [decide_eq_false h, decide_eq_false (fun h2 => h (by omega))]
        have hall2 := take_mem (L := L) (k := k) (by rw [HM.out]; exact hlt) (P := fun x => 0 ≤ x ∧ x < (n : Int)) HALL.out (by rw [← HX.out]; exact hin)
        have HF := Lib.hid (And.intro hfin.1 (And.intro hfin2 hall2))
        have hRL := hrl
        have HRL := Lib.hid hRL
        clear hfin hfin2 hall2 hj hrr hP hPe hxe hV hin hr64 hxm HX hRL
        have hsbg : sb ≠ g := by omega
        have hrg : w.heap.size ≠ g := by omega
        have cW := hownR.cellAt j (by omega)
        rw [List.getElem?_map, List.getElem?_eq_getElem (by omega : j < R.length)] at cW
        rw [List.getElem?_eq_getElem (by omega : j < R.length)] at hlx
        simp only [Option.getD_some] at hlx
        simp only [Option.map_some, hlx] at cW
        have fW := hownR.frozenAt j
        have hst := (hownR.stored j (.int .u64 (V : Int))).1
        rw [← List.map_set] at hst
        have hT4 := two_set hTs hsbg j (.int .u64 (V : Int))
        have hR4 := two_set hRs hrg j (.int .u64 (V : Int))
        have hB4 := hBr.setCell (p := ⟨g, j, none⟩) (by show w.heap.size ≤ g; omega) (.int .u64 (V : Int))
        have c0 := hTs.c0
        have c1 := hTs.c1
        have HH := Lib.hid (And.intro hst (And.intro hT4 (And.intro hR4 hB4)))
        clear hst hT4 hR4 hB4 hTs hRs hownR hlx hBr hrl hiK
        go_wp2_with fail
        refine (qb _).mono ?_
        rintro e w9 ⟨rfl, hE9⟩
        rw [hE9]
        clear hE9
        go_wp2_with fail
        go_region_with ((go_at_call 66; refine (qt _).mono ?_; rintro e w9 ⟨rfl, hE9⟩; rw [hE9]; clear hE9))
        all_goals
          obtain ⟨hst, hT4, hR4, hB4⟩ := HH.out
          go_wp2_with fail
          go_roundw
          case rel => exact ⟨k + 1, R.set j (V : Int), by omega, by go_num, HF.out.1, by rw [List.length_set]; exact HRL.out, HF.out.2.1, HF.out.2.2, hst, two_drew hT4, two_drew hR4, hB4.drew⟩
          case measure => simp [intOf]; omega
      · have hout : x < 0 ∨ (n : Int) ≤ x := by omega
        have qb := below_no x (n : Int) hout
        have HFX := Lib.hid (show ¬ ∀ x ∈ L, 0 ≤ x ∧ x < (n : Int) from fun h => hin (h x hxm))
        have q0 := hRs.c0
        have q1 := hRs.c1
        have q2 := hRs.f0
        have q3 := hRs.f1
        have hQ3 := hRs.range_set (.int .i64 0) (.slice none 0 0)
        have hB4 := (hBr.setCell (p := ⟨w.heap.size, 0, none⟩) (Nat.le_refl _) (.int .i64 0)).setCell (p := ⟨w.heap.size, 1, none⟩) (Nat.le_refl _) (.slice none 0 0)
        clear hin hxm hout hTs hRs hownR hBr hrl
        go_wp2_with fail
        refine (qb _).mono ?_
        rintro e w9 ⟨rfl, hE9⟩
        rw [hE9]
        clear hE9
        go_wp2_with fail
        refine bodyPost_cell2 rfl w.heap.size rfl _ _ hQ3 Tryd.underlying24 rfl (by kernel_rfl) rfl ?_
        exact ⟨fun h => absurd h HFX.out, fun _ => ⟨none, 0, rfl, World.ownsRow_nil _ _ _ _, hB4⟩⟩
    · obtain rfl : k = m := by omega
      have htk : L.take k = L := List.take_of_length_le (by rw [HM.out]; exact Nat.le_refl _)
      have hbt2 := HBT.out
      have hall2 := HALL.out
      rw [htk] at hbt2 hall2
      have HF := Lib.hid (And.intro hbt2 hall2)
      have c0 := hTs.c0
      have c1 := hTs.c1
      have q0 := hRs.c0
      have q1 := hRs.c1
      have q2 := hRs.f0
      have q3 := hRs.f1
      have hQ6 := hRs.range_set (.int .i64 (n : Int)) (.slice ga K c2)
      have hB6 := (hBr.setCell (p := ⟨w.heap.size, 0, none⟩) (Nat.le_refl _) (.int .i64 (n : Int))).setCell (p := ⟨w.heap.size, 1, none⟩) (Nat.le_refl _) (.slice ga K c2)
      have hown6 := own_base (own_set (own_set hownR w.heap.size 0 (.int .i64 (n : Int)) (Nat.lt_succ_self _)) w.heap.size 1 (.slice ga K c2) (Nat.lt_succ_self _)) (Nat.le_succ w.heap.size)
      clear hbt2 hall2 htk hTs hRs hownR hBr hrl
      go_wp2_with fail
      refine bodyPost_cell2 rfl w.heap.size rfl _ _ hQ6 Tryd.underlying24 rfl (by kernel_rfl) rfl ?_
      refine ⟨fun _ => ⟨ga, c2, R, rfl, hown6, hWd, HF.out.1, hB6⟩, fun h => ?_⟩
      obtain ⟨x, hx, ho⟩ := h
      have := HF.out.2 x hx
      omega
end Go.Proofs.YtcdjfgkjllonhaaDoor
