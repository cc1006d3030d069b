/-
  The contract of ApartNums: slices that own their rows apart from one another share no memory.
-/
import Derived.Test.YtcdjfgkjllonhaaDoorApo
namespace Go.Proofs.YtcdjfgkjllonhaaDoor
open Go.RowKit Go.Shelf

/-- A bag in which the slices of numbers alone are. -/
def Bag (w : World) (bb : Nat) (V : Value) : Prop := bb < w.heap.size ∧ (∀ i, i < 8 → i ≠ 4 → w.cell? ⟨bb, i, none⟩ = some (.slice none 0 0)) ∧ w.cell? ⟨bb, 4, none⟩ = some V ∧ ∀ i, w.frozen? ⟨bb, i, none⟩ = false
theorem Bag.new (w : World) : Bag (w.alloc (.cells #[.slice none 0 0, .slice none 0 0, .slice none 0 0, .slice none 0 0, .slice none 0 0, .slice none 0 0, .slice none 0 0, .slice none 0 0] 99)) w.heap.size (.slice none 0 0) := by
  have hh := heap_alloc_new w (.cells #[.slice none 0 0, .slice none 0 0, .slice none 0 0, .slice none 0 0, .slice none 0 0, .slice none 0 0, .slice none 0 0, .slice none 0 0] 99)
  refine ⟨by simp, fun i hi _ => ?_, by simp only [World.cell?, hh]; rfl, fun i => by simp only [World.frozen?, hh]; simp⟩
  simp only [World.cell?, hh]
  match i, hi with
  | 0, _ => rfl
  | 1, _ => rfl
  | 2, _ => rfl
  | 3, _ => rfl
  | 4, _ => rfl
  | 5, _ => rfl
  | 6, _ => rfl
  | 7, _ => rfl
theorem Bag.below {w w' : World} {bb B : Nat} {V : Value} (h : Bag w bb V) (hb : Below B w w') (hl : bb < B) : Bag w' bb V :=
  ⟨Nat.lt_of_lt_of_le h.1 hb.size, fun i hi h4 => (hb.cell (p := ⟨bb, i, none⟩) hl).trans (h.2.1 i hi h4), (hb.cell (p := ⟨bb, 4, none⟩) hl).trans h.2.2.1, fun i => (hb.frozen (p := ⟨bb, i, none⟩) hl).trans (h.2.2.2 i)⟩
theorem Bag.put {w : World} {bb : Nat} {V : Value} (h : Bag w bb V) (V' : Value) : Bag (w.setCell ⟨bb, 4, none⟩ V') bb V' := by
  refine ⟨by rw [World.size_setCell]; exact h.1, fun i hi h4 => ?_, World.cell?_setCell_same _ _ _ h.2.2.1, fun i => by rw [World.frozen?_setCell]; exact h.2.2.2 i⟩
  rw [World.cell?_setCell_other (w := w) (a := ⟨bb, 4, none⟩) (b := ⟨bb, i, none⟩) (v := V') (fun e => h4 (by cases e; rfl))]
  exact h.2.1 i hi h4

set_option maxRecDepth 100000 in
set_option maxHeartbeats 2000000 in
theorem putNums_any (w : World) (bb base k : Nat) (V : Value) (va : Option Addr) (vn vc : Nat) (Vs : List Value) (hG : Bag w bb V) (hl : bb < base) (ho : w.ownsRow base 22 1 V k Vs) (hk : k ≤ 1000) (hbs : base ≤ w.heap.size) :
    Calls Tryd.prog 74 #[.pointer (some ⟨bb, 0, none⟩), .slice va vn vc] w fun e w' => (∃ r, e = .returned r) ∧ ∃ V', Bag w' bb V' ∧ w'.ownsRow base 22 1 V' (k + 1) (Vs ++ [.slice va vn vc]) ∧ Below bb w w' := by
  obtain ⟨j0, jinf, jz0, jz1, jz2⟩ := info_parts infoS
  obtain ⟨ga, gc, rfl⟩ := own_shape ho
  have c4 := hG.2.2.1
  have f4 := hG.2.2.2 4
  go_enter Tryd.func74, Tryd.ntmps74
  go_wp2_with (at_builtin; refine wpList_append_own _ rfl (.tmp 8) (.tmp 10) 73 rfl base 22 j0 (.slice none 0 0) 1 24 Tryd.underlying73 jinf jz0 jz1 jz2 rfl (by decide) _ _ _ rfl (ho.alloc _) ⟨w.heap.size, 0, none⟩ 1 1 [.slice va vn vc] rfl rfl ?d1 ?d2 ?d3 ?d4 ?d5 ?_)
  case d1 =>
    intro j u hj
    match j, hj with
    | 0, hj => simp at hj; subst hj; simp [Addr.add]
  case d2 => intro u hu; simp at hu; subst hu; rfl
  case d3 => unfold maxLen; omega
  case d4 => omega
  case d5 => rw [World.size_alloc]; omega
  intro v' w5 ho5 hg5 _
  obtain ⟨a5, c5, rfl⟩ := own_shape ho5
  have hB5 : Below base w w5 := ((Below.refl base w).alloc hbs _).grown hg5 (by rw [World.size_alloc]; omega) (fun k hk => (ho.lt k hk).1)
  have hG5 := hG.below hB5 hl
  have k4 := hG5.2.2.1
  have l4 := hG5.2.2.2 4
  have hG6 := hG5.put (.slice a5 (k + 1) c5)
  have ho6 := own_set ho5 bb 4 (.slice a5 (k + 1) c5) hl
  have hB6 := (hB5.mono (Nat.le_of_lt hl)).setCell (p := ⟨bb, 4, none⟩) (Nat.le_refl _) (.slice a5 (k + 1) c5)
  clear hG ho hg5 ho5 hB5 hG5 c4 f4
  go_wp2_with fail
  first | go_end0 | refine bodyPost_ret (results_none rfl _ _ _) rfl ?_
  exact ⟨⟨_, rfl⟩, _, hG6, ho6, hB6⟩

set_option maxRecDepth 100000 in
set_option maxHeartbeats 4000000 in
theorem apart_any (w : World) (bb base lb K kc : Nat) (A : Nat → Option Addr) (n C : Nat → Nat) (F : Nat → List Int) (hG : Bag w bb (.slice (some ⟨lb, 0, none⟩) K kc)) (hH : Hd w lb 0 K A n C) (hR : Rws base w K A n C F) (hD : Dst K lb A) (hK : K ≤ 1000) (hn : ∀ k, k < K → n k ≤ 100000) (hbs : base ≤ w.heap.size) (hkc : K ≤ kc) (hbb : ∀ k, k < K → A k ≠ some ⟨bb, 0, none⟩) :
    Calls Tryd.prog 75 #[.pointer (some ⟨bb, 0, none⟩)] w fun e w' => e = .returned (.bool true) ∧ Bf base K A w w' := by
  have HG := Lib.hid hG
  have HH := Lib.hid hH
  have HR := Lib.hid hR
  have HD := Lib.hid hD
  have HN := Lib.hid hn
  have HBB := Lib.hid hbb
  have c0 := hG.2.1 0 (by omega) (by omega)
  clear hG hH hR hD hn hbb
  go_enter Tryd.func75, Tryd.ntmps75
  go_wp2_with fail
  refine (flatInts_none _).mono ?_
  rintro e w1 ⟨rfl, hB1⟩
  have hG1 := HG.out.below hB1 HG.out.1
  have c1 := hG1.2.1 1 (by omega) (by omega)
  clear c0
  go_wp2_with fail
  refine (flatTexts_none _).mono ?_
  rintro e w2 ⟨rfl, hB2⟩
  have hB2 := bstep hB1 hB2
  have hG2 := HG.out.below hB2 HG.out.1
  have c2 := hG2.2.1 2 (by omega) (by omega)
  clear c1 hG1 hB1
  go_wp2_with fail
  refine (flatBytes_none _).mono ?_
  rintro e w3 ⟨rfl, hB3⟩
  have hB3 := bstep hB2 hB3
  have hG3 := HG.out.below hB3 HG.out.1
  have c3 := hG3.2.1 3 (by omega) (by omega)
  clear c2 hG2 hB2
  go_wp2_with fail
  refine (flatWords_none _).mono ?_
  rintro e w4 ⟨rfl, hB4⟩
  have hB4 := bstep hB3 hB4
  have hG4 := HG.out.below hB4 HG.out.1
  have c4 := hG4.2.2.1
  clear c3 hG3 hB3
  have hH4 : Hd w4 lb 0 K A n C := fun k hk => (hB4.cell (p := ⟨lb, 0 + k, none⟩) (World.block_lt_of_cell? w _ (HH.out k hk))).trans (HH.out k hk)
  have hR4 : Rws base w4 K A n C F := fun k hk => ownsRow_below (HR.out k hk) hB4
  have hF4 : Bf base K A w w4 := ⟨hB4.mono hbs, fun b hb _ => hB4.block b hb⟩
  have hs4 := hB4.size
  have q4 := flatNums_any w4 base lb 0 K kc A n C F hH4 hR4 HD.out hK HN.out (by omega) hkc
  clear hH4 hR4 hB4
  go_wp2_with fail
  refine q4.mono ?_
  rintro e w5 ⟨rfl, hF5⟩
  clear q4 c4
  have hbl : ∀ b, b = bb → w5.heap[b]? = w4.heap[b]? := fun b e => by subst e; exact hF5.2 b hG4.1 HBB.out
  have hG5 : Bag w5 bb (.slice (some ⟨lb, 0, none⟩) K kc) := by
    have hb := hbl bb rfl
    refine ⟨Nat.lt_of_lt_of_le hG4.1 hF5.size, fun i hi h4 => ?_, ?_, fun i => ?_⟩
    · rw [← hG4.2.1 i hi h4]; simp only [World.cell?, hb]
    · rw [← hG4.2.2.1]; simp only [World.cell?, hb]
    · rw [← hG4.2.2.2 i]; simp only [World.frozen?, hb]
  have hF5' : Bf base K A w w5 := ⟨hF4.1.trans hF5.1, fun b hb hn => (hF5.2 b (by omega) hn).trans (hF4.2 b hb hn)⟩
  have c5 := hG5.2.1 5 (by omega) (by omega)
  clear hF5 hF4 hG4 hbl
  go_wp2_with fail
  refine (flatIntLists_none _).mono ?_
  rintro e w6 ⟨rfl, hB6⟩
  have hG6 := hG5.below hB6 hG5.1
  have c6 := hG6.2.1 6 (by omega) (by omega)
  clear c5
  go_wp2_with fail
  refine (flatTextLists_none _).mono ?_
  rintro e w7 ⟨rfl, hB7⟩
  have hB7 := bstep hB6 hB7
  have hG7 := hG5.below hB7 hG5.1
  have c7 := hG7.2.1 7 (by omega) (by omega)
  clear c6 hG6 hB6
  go_wp2_with fail
  refine (flatByteLists_none _).mono ?_
  rintro e w8 ⟨rfl, hB8⟩
  have hB8 := bstep hB7 hB8
  have hs5 := hF5'.size
  have hF8 : Bf base K A w w8 := ⟨hF5'.1.trans (hB8.mono (by omega)), fun b hb hn => (hB8.block b (by omega)).trans (hF5'.2 b hb hn)⟩
  clear c7 hG7 hB7 hG5
  go_wp2_with fail
  go_ret
  exact ⟨rfl, hF8⟩

set_option maxRecDepth 100000 in
set_option maxHeartbeats 4000000 in
theorem apartNums_any (w : World) (base sb so K kc : Nat) (A : Nat → Option Addr) (n C : Nat → Nat) (F : Nat → List Int) (hH : Hd w sb so K A n C) (hR : Rws base w K A n C F) (hD : ∀ i j, i < K → j < K → i ≠ j → ∀ g, A i = some ⟨g, 0, none⟩ → A j ≠ some ⟨g, 0, none⟩) (h0 : 0 < K) (hK : K ≤ 1000) (hn : ∀ k, k < K → n k ≤ 100000) (hbs : base ≤ w.heap.size) :
    Calls Tryd.prog 53 #[.slice (some ⟨sb, so, none⟩) K kc] w fun e w' => e = .returned (.bool true) ∧ Bf base K A w w' := by
  have hold := Old.of hR
  have hB1 : Below w.heap.size w (w.alloc (.cells #[.slice none 0 0, .slice none 0 0, .slice none 0 0, .slice none 0 0, .slice none 0 0, .slice none 0 0, .slice none 0 0, .slice none 0 0] 99)) := (Below.refl _ w).alloc (Nat.le_refl _) _
  have hG1 := Bag.new w
  have HH := Lib.hid hH
  have HR := Lib.hid hR
  have HD := Lib.hid hD
  have HN := Lib.hid hn
  clear hH hR hD hn
  go_enter Tryd.func53, Tryd.ntmps53
  go_wp2_with fail
  obtain ⟨w1, hw1⟩ : ∃ wz, wz = w.alloc (.cells #[.slice none 0 0, .slice none 0 0, .slice none 0 0, .slice none 0 0, .slice none 0 0, .slice none 0 0, .slice none 0 0, .slice none 0 0] 99) := ⟨_, rfl⟩
  rw [← hw1] at hB1 hG1 ⊢
  obtain ⟨bb, hbb⟩ : ∃ b, b = w.heap.size := ⟨_, rfl⟩
  rw [← hbb] at hG1 hB1 hold ⊢
  have hbl := hG1.1
  have HQB := Lib.hid hbb
  clear hw1 hbb
  go_loopw [4] (fun I wr => ∃ (k : Nat) (V : Value), k ≤ K ∧ I = .int .i64 (k : Int) ∧ Bag wr bb V ∧ wr.ownsRow (bb + 1) 22 1 V k ((List.range k).map fun j => .slice (A j) (n j) (C j)) ∧ Below bb w wr) (fun I _ => K - (intOf I).toNat)
  case atStart => exact ⟨0, .slice none 0 0, by omega, rfl, hG1, World.ownsRow_nil w1 (bb + 1) 22 1, hB1⟩
  case round =>
    clear hG1 hB1 hbl
    obtain ⟨k, V, hk, rfl, hG, ho, hB⟩ := hrel
    by_cases hlt : k < K
    · have hd : decide ((k : Int) < (K : Int)) = true := by simp; omega
      have hdn : decide (k < K) = true := by simp; omega
      have i1 : (k : Int) < (K : Int) := by omega
      have hcell : wr.cell? ⟨sb, so + k, none⟩ = some (.slice (A k) (n k) (C k)) := (hB.cell (p := ⟨sb, so + k, none⟩) (by have := World.block_lt_of_cell? w _ (HH.out k hlt); have h2 := HQB.out; simp only at this ⊢; omega)).trans (HH.out k hlt)
      have q := putNums_any wr bb (bb + 1) k V (A k) (n k) (C k) _ hG (by omega) ho (by omega) hG.1
      have hrs : (List.range k).map (fun j => Value.slice (A j) (n j) (C j)) ++ [.slice (A k) (n k) (C k)] = (List.range (k + 1)).map fun j => Value.slice (A j) (n j) (C j) := by rw [List.range_succ, List.map_append]; rfl
      rw [hrs] at q
      obtain ⟨a0, ha⟩ : ∃ a, a = A k := ⟨_, rfl⟩
      obtain ⟨N, hN⟩ : ∃ a, a = n k := ⟨_, rfl⟩
      obtain ⟨c0, hc⟩ : ∃ a, a = C k := ⟨_, rfl⟩
      rw [← ha, ← hN, ← hc] at hcell q
      clear hG ho ha hN hc hrs
      go_wp2_with fail
      (with_reducible refine q.mono ?_)
      rintro e w2 ⟨⟨r, rfl⟩, V2, hG2, ho2, hB2⟩
      have hB3 := hB.trans hB2
      clear q hB hB2
      go_wp2_with fail
      go_roundw
      case rel => exact ⟨k + 1, V2, by omega, by go_num, hG2, ho2, hB3⟩
      case measure => simp [intOf]; omega
    · have hd : decide ((k : Int) < (K : Int)) = false := by simp; omega
      have hdn : decide (k < K) = false := by simp; omega
      obtain rfl : k = K := by omega
      obtain ⟨lb, kc2, rfl, hlb1, hlb2, hkk⟩ : ∃ g c, V = .slice (some ⟨g, 0, none⟩) k c ∧ bb + 1 ≤ g ∧ g < wr.heap.size ∧ k ≤ c := by
        rcases ho.2 with ⟨_, hh⟩ | ⟨g, cap, cur, hv, hb, hh, hn', _⟩
        · omega
        · exact ⟨g, cap, hv, hb, (Array.getElem?_eq_some_iff.1 hh).1, hn'⟩
      have hH2 : Hd wr lb 0 k A n C := fun j hj => by
        have := World.ownsRow.cellAt ho j (by omega)
        rw [Nat.zero_add, this, List.getElem?_map, List.getElem?_range hj]; rfl
      have hR2 : Rws base wr k A n C F := fun j hj => ownsRow_below (HR.out j hj) (by rw [← HQB.out]; exact hB)
      have hD2 : Dst k lb A := ⟨HD.out, fun j g hj hA e => by have := hold j g hj hA; omega⟩
      have q := apart_any wr bb base lb k kc2 A n C F hG hH2 hR2 hD2 hK HN.out (by have := hB.size; omega) hkk (fun j hj e => by have := hold j bb hj e; omega)
      clear ho hH2 hR2 hD2 hG
      go_wp2_with fail
      (with_reducible refine q.mono ?_)
      rintro e w2 ⟨rfl, hF⟩
      have hsz := hB.size
      have hF2 : Bf base k A w w2 := ⟨(hB.mono (by have := HQB.out; omega)).trans hF.1, fun b hb hn => (hF.2 b (by omega) hn).trans (hB.block b (by have := HQB.out; omega))⟩
      clear q hB hF
      go_wp2_with fail
      go_ret
      exact ⟨rfl, hF2⟩
end Go.Proofs.YtcdjfgkjllonhaaDoor
