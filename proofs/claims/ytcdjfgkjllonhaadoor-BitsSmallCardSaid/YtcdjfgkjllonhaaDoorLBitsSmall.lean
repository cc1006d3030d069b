/-
  Proved: the tied card Rows.BitsSmallCardSaid: for every input the law BitsSmall returns true, and its arguments read as before; the listed variables of the library lie as the program's text lays them (the card's tie). There are no other conditions.
-/
import Derived.Test.YtcdjfgkjllonhaaDoorBc
import Derived.Test.YtcdjfgkjllonhaaDoorBt
import Derived.Deep.CutBlock
import Derived.Test.YtcdjfgkjllonhaaDoorDors
import Derived.Test.YtcdjfgkjllonhaaDoorBop
import Derived.Test.YtcdjfgkjllonhaaDoorDob
import Derived.Test.YtcdjfgkjllonhaaDoorCards
import Derived.Test.YtcdjfgkjllonhaaDoorTie
import Derived.SevenTiedAt
namespace Go.Proofs.YtcdjfgkjllonhaaDoor
open Go.RowKit Go.Shelf

theorem oneU (W : World) (x : Int) : Sl .u64 (W.alloc (.cells #[.int .u64 x] 30)) (some ⟨W.heap.size, 0, none⟩) 1 1 [x] := (Blk.new .u64 30 W [x]).sl (by simp)
theorem twoI (W : World) (x y : Int) : Sl .i64 (W.alloc (.cells #[.int .i64 x, .int .i64 y] 3)) (some ⟨W.heap.size, 0, none⟩) 2 2 [x, y] := (Blk.new .i64 3 W [x, y]).sl (by simp)
theorem oneW {v : Nat} (h : v < 64) : Wds [(v : Int)] := fun x hx => by
  rw [List.mem_singleton] at hx
  subst hx
  constructor <;> omega
theorem newA' (W : World) (o : Obj) : Below W.heap.size W (W.alloc o) := (Below.refl _ _).alloc (Nat.le_refl _) _
/-- A set of one word in a variable. -/
theorem boxS {w W : World} (hT : Tbz w) (hB : Below w.heap.size w W) (n v : Nat) (hn : n ≤ 6) (hv : v < 64) : VrS w ((W.alloc (.cells #[.int .u64 (v : Int)] 30)).alloc (.cells #[.int .i64 (n : Int), .slice (some ⟨W.heap.size, 0, none⟩) 1 1] 24)) (W.heap.size + 1) (n : Int) (some ⟨W.heap.size, 0, none⟩) 1 1 [(v : Int)] := by
  have h1 := newA' W (.cells #[.int .u64 (v : Int)] 30)
  have h2 := newA' (W.alloc (.cells #[.int .u64 (v : Int)] 30)) (.cells #[.int .i64 (n : Int), .slice (some ⟨W.heap.size, 0, none⟩) 1 1] 24)
  have hb := bstep (bstep hB h1) h2
  exact ⟨hb, ⟨(oneU W v).below h2, oneW hv, by omega, by omega, hT.step hb⟩, Two.new2 W _ _ _ _⟩
theorem setU {w W : World} (hT : Tbz w) (hB : Below w.heap.size w W) (m v : Nat) (hm : m ≤ 6) (hv : v < 64) : SetIn (W.alloc (.cells #[.int .u64 (v : Int)] 30)) (m : Int) (some ⟨W.heap.size, 0, none⟩) 1 1 [(v : Int)] :=
  ⟨oneU W v, oneW hv, by omega, by omega, hT.step (bstep hB (newA' W _))⟩

theorem Sl.lit {k : IntKind} {w : World} {b len cap : Nat} {l : List Int} (h : Sl k w (some ⟨b, 0, none⟩) len cap l) {i : Nat} (hi : i < len) : w.cell? ⟨b, i, none⟩ = some (.int k (l[i]?.getD 0)) := by
  obtain ⟨b', off, e, hc⟩ := h.idx2 hi
  simp only [Option.some.injEq, Addr.mk.injEq, and_true] at e
  obtain ⟨rfl, rfl⟩ := e
  rwa [Nat.zero_add] at hc
theorem lit6 {k : Nat} (h : k < 6) : ∃ N : Nat, ([63, 64, 65, 127, 128, 129] : List Int)[k]?.getD 0 = (N : Int) ∧ 63 ≤ N ∧ N ≤ 129 := by
  have h6 : k = 0 ∨ k = 1 ∨ k = 2 ∨ k = 3 ∨ k = 4 ∨ k = 5 := by omega
  rcases h6 with rfl | rfl | rfl | rfl | rfl | rfl
  · exact ⟨63, rfl, by omega, by omega⟩
  · exact ⟨64, rfl, by omega, by omega⟩
  · exact ⟨65, rfl, by omega, by omega⟩
  · exact ⟨127, rfl, by omega, by omega⟩
  · exact ⟨128, rfl, by omega, by omega⟩
  · exact ⟨129, rfl, by omega, by omega⟩
theorem lit10 {k : Nat} (h : k < 10) : ∃ Y : Int, ([0, 1, 62, 63, 64, 65, 126, 127, 128, -1] : List Int)[k]?.getD 0 = Y ∧ -1 ≤ Y ∧ Y ≤ 128 := by
  have h6 : k = 0 ∨ k = 1 ∨ k = 2 ∨ k = 3 ∨ k = 4 ∨ k = 5 ∨ k = 6 ∨ k = 7 ∨ k = 8 ∨ k = 9 := by omega
  rcases h6 with rfl | rfl | rfl | rfl | rfl | rfl | rfl | rfl | rfl | rfl <;> exact ⟨_, rfl, by decide, by decide⟩
theorem lit11 {Y : Int} {N k : Nat} (h : k < 11) (h0 : -1 ≤ Y) (h1 : Y ≤ 128) (h2 : N ≤ 129) : ∃ z : Int, ([-9223372036854775808, -1, 0, Y - 1, Y, Y + 1, 63, 64, (N : Int) - 1, (N : Int), 9223372036854775807] : List Int)[k]?.getD 0 = z ∧ -9223372036854775808 ≤ z ∧ z ≤ 9223372036854775807 := by
  have h6 : k = 0 ∨ k = 1 ∨ k = 2 ∨ k = 3 ∨ k = 4 ∨ k = 5 ∨ k = 6 ∨ k = 7 ∨ k = 8 ∨ k = 9 ∨ k = 10 := by omega
  rcases h6 with rfl | rfl | rfl | rfl | rfl | rfl | rfl | rfl | rfl | rfl | rfl <;> refine ⟨_, rfl, ?_, ?_⟩ <;> simp <;> omega
theorem oneI (W : World) (x : Int) : Sl .i64 (W.alloc (.cells #[.int .i64 x] 3)) (some ⟨W.heap.size, 0, none⟩) 1 1 [x] := (Blk.new .i64 3 W [x]).sl (by simp)
theorem newB {w W : World} (hB : Below w.heap.size w W) (o : Obj) : Below w.heap.size w (W.alloc o) := bstep hB (newA' W o)
/-- The world in which nine sets lie side by side. -/
def setsW (W : World) : World := ((((W.alloc (.cells #[.int .u64 1, .int .u64 0] 30)).alloc (.cells #[.int .u64 1] 30)).alloc (.cells #[.int .u64 0] 30)).alloc (.cells #[.int .u64 5] 30)).alloc (.cells #[.int .i64 0, .slice none 0 0, .int .i64 (-1), .slice none 0 0, .int .i64 64, .slice (some ⟨W.heap.size, 0, none⟩) 2 2, .int .i64 65, .slice (some ⟨W.heap.size + 1, 0, none⟩) 1 1, .int .i64 1, .slice none 0 0, .int .i64 65537, .slice none 0 0, .int .i64 4611686018427387904, .slice none 0 0, .int .i64 0, .slice (some ⟨W.heap.size + 1 + 1, 0, none⟩) 1 1, .int .i64 (-9223372036854775808), .slice (some ⟨W.heap.size + 1 + 1 + 1, 0, none⟩) 1 1] 24)
theorem setsW_below (W : World) : Below W.heap.size W (setsW W) := newB (newB (newB (newB (newA' W _) _) _) _) _
theorem sl_at {k : IntKind} {w : World} {b b2 len cap : Nat} {l : List Int} (h : Sl k w (some ⟨b, 0, none⟩) len cap l) (e : b = b2) : Sl k w (some ⟨b2, 0, none⟩) len cap l := by subst e; exact h
set_option maxRecDepth 100000 in
theorem setsW_at {W : World} (hT : Tbz (setsW W)) {k : Nat} (hk : k < 9) : ∃ (N : Int) (g : Option Addr) (n c : Nat) (R : List Int), (setsW W).cell? ⟨W.heap.size + 1 + 1 + 1 + 1, k * 2, none⟩ = some (.int .i64 N) ∧ (setsW W).cell? ⟨W.heap.size + 1 + 1 + 1 + 1, k * 2 + 1, none⟩ = some (.slice g n c) ∧ SetIn (setsW W) N g n c R := by
  have hb := heap_alloc_new ((((W.alloc (.cells #[.int .u64 1, .int .u64 0] 30)).alloc (.cells #[.int .u64 1] 30)).alloc (.cells #[.int .u64 0] 30)).alloc (.cells #[.int .u64 5] 30)) (.cells #[.int .i64 0, .slice none 0 0, .int .i64 (-1), .slice none 0 0, .int .i64 64, .slice (some ⟨W.heap.size, 0, none⟩) 2 2, .int .i64 65, .slice (some ⟨W.heap.size + 1, 0, none⟩) 1 1, .int .i64 1, .slice none 0 0, .int .i64 65537, .slice none 0 0, .int .i64 4611686018427387904, .slice none 0 0, .int .i64 0, .slice (some ⟨W.heap.size + 1 + 1, 0, none⟩) 1 1, .int .i64 (-9223372036854775808), .slice (some ⟨W.heap.size + 1 + 1 + 1, 0, none⟩) 1 1] 24)
  simp only [World.size_alloc] at hb
  have hc := fun i => cell_of_row (setsW W) _ i _ _ _ hb
  have sA : Sl .u64 (setsW W) (some ⟨W.heap.size, 0, none⟩) 2 2 [1, 0] := ((((((Blk.new .u64 30 W [1, 0]).sl (by simp)).below (newA' _ _)).below (newA' _ _)).below (newA' _ _)).below (newA' _ _))
  have sB : Sl .u64 (setsW W) (some ⟨W.heap.size + 1, 0, none⟩) 1 1 [1] := sl_at ((((oneU (W.alloc (.cells #[.int .u64 1, .int .u64 0] 30)) 1).below (newA' _ _)).below (newA' _ _)).below (newA' _ _)) (by simp)
  have sC : Sl .u64 (setsW W) (some ⟨W.heap.size + 1 + 1, 0, none⟩) 1 1 [0] := sl_at (((oneU ((W.alloc (.cells #[.int .u64 1, .int .u64 0] 30)).alloc (.cells #[.int .u64 1] 30)) 0).below (newA' _ _)).below (newA' _ _)) (by simp)
  have sD : Sl .u64 (setsW W) (some ⟨W.heap.size + 1 + 1 + 1, 0, none⟩) 1 1 [5] := sl_at ((oneU (((W.alloc (.cells #[.int .u64 1, .int .u64 0] 30)).alloc (.cells #[.int .u64 1] 30)).alloc (.cells #[.int .u64 0] 30)) 5).below (newA' _ _)) (by simp)
  have h6 : k = 0 ∨ k = 1 ∨ k = 2 ∨ k = 3 ∨ k = 4 ∨ k = 5 ∨ k = 6 ∨ k = 7 ∨ k = 8 := by omega
  rcases h6 with rfl | rfl | rfl | rfl | rfl | rfl | rfl | rfl | rfl
  · exact ⟨_, _, _, _, _, hc 0, hc 1, Sl.nil _ _, Wds.nil, by decide, by decide, hT⟩
  · exact ⟨_, _, _, _, _, hc 2, hc 3, Sl.nil _ _, Wds.nil, by decide, by decide, hT⟩
  · exact ⟨_, _, _, _, _, hc 4, hc 5, sA, (fun x hx => by simp at hx; omega), by decide, by decide, hT⟩
  · exact ⟨_, _, _, _, _, hc 6, hc 7, sB, (fun x hx => by simp at hx; omega), by decide, by decide, hT⟩
  · exact ⟨_, _, _, _, _, hc 8, hc 9, Sl.nil _ _, Wds.nil, by decide, by decide, hT⟩
  · exact ⟨_, _, _, _, _, hc 10, hc 11, Sl.nil _ _, Wds.nil, by decide, by decide, hT⟩
  · exact ⟨_, _, _, _, _, hc 12, hc 13, Sl.nil _ _, Wds.nil, by decide, by decide, hT⟩
  · exact ⟨_, _, _, _, _, hc 14, hc 15, sC, (fun x hx => by simp at hx; omega), by decide, by decide, hT⟩
  · exact ⟨_, _, _, _, _, hc 16, hc 17, sD, (fun x hx => by simp at hx; omega), by decide, by decide, hT⟩

/-- The set of all numbers below 65536. -/
def Full (R : List Int) : Prop := R.length = 1024 ∧ rightB 65536 R = true ∧ ∀ i, bt R i = decide (i < 65536)
theorem Full.rk {R : List Int} (h : Full R) : ∀ i, i ≤ 65536 → rk R i = i := by
  intro i
  induction i with
  | zero => intro _; exact rk_zero R
  | succ i ih =>
    intro hi
    rw [rk_succ, ih (by omega), h.2.2, decide_eq_true (show i < 65536 by omega)]
    simp
theorem Full.all {R : List Int} (h : Full R) : (all R).length = 65536 := by
  rw [← rk_big (i := 65536) (by rw [h.1]; decide)]
  exact h.rk 65536 (by decide)
theorem Full.sel {R : List Int} (h : Full R) : selF R 65535 = some 65535 := by
  have q := (rk_at (l := R) (m := 65535) (by rw [h.2.2]; decide)).2
  rw [h.rk 65535 (by decide)] at q
  unfold selF
  rw [if_pos (by decide)]
  exact q
theorem Full.runs {R : List Int} (h : Full R) : runs R = [(0, 65536)] := by
  rw [← rn_big (i := 65536) (by rw [h.1]; decide), rn_true (a := 0) (b := 65536) (by decide) (.inl rfl) (fun j _ hj => by rw [h.2.2]; exact decide_eq_true hj), rn_zero]
  rfl
theorem newBig (W : World) (hT : Tbz W) : Calls Tryd.prog 18 #[.int .i64 65536] W fun e w' => ∃ g c R, e = .returned (.tuple #[.agg #[.int .i64 65536, .slice g 1024 c], .int .i64 0]) ∧ SetIn w' 65536 g 1024 c R ∧ rightB 65536 R = true ∧ (∀ i, bt R i = false) ∧ Below W.heap.size W w' := by
  refine (newOk_any W 65536 (Nat.le_refl _)).mono fun e w' h => ?_
  obtain ⟨g, c, R, he, ho, hw, hb, hD⟩ := h
  have hl : R.length = (65536 + 63) / 64 := by have h9 := ho.1; simpa using h9
  exact ⟨g, c, R, he, ⟨own_sl ho, hw, by decide, by decide, hT.step hD⟩, rightB_yes (RightS.of (N := 65536) (by decide) hl fun i _ => hb i), hb, hD⟩
theorem notBig (W : World) (g : Option Addr) (c : Nat) (R : List Int) (h : SetIn W 65536 g 1024 c R) (hr : rightB 65536 R = true) (hb : ∀ i, bt R i = false) : Calls Tryd.prog 19 #[.agg #[.int .i64 65536, .slice g 1024 c]] W fun e w' => ∃ g2 c2 R2, e = .returned (.tuple #[.agg #[.int .i64 65536, .slice g2 1024 c2], .int .i64 0]) ∧ SetIn w' 65536 g2 1024 c2 R2 ∧ Full R2 ∧ Below W.heap.size W w' := by
  refine (notOk_any W 65536 g 1024 c R h hr).mono fun e w' h2 => ?_
  obtain ⟨g2, c2, R2, he, ho, hw, hb2, hD⟩ := h2
  have hl : R2.length = (65536 + 63) / 64 := by have h9 := ho.1; simpa using h9
  have hbt : ∀ i, bt R2 i = decide (i < 65536) := fun i => by simp only [hb2, hb]; simp
  exact ⟨g2, c2, R2, he, ⟨own_sl ho, hw, by decide, by decide, h.tab.step hD⟩, ⟨hl, rightB_yes (RightS.of (N := 65536) (by decide) hl fun i hi => by rw [hbt]; exact decide_eq_false (by omega)), hbt⟩, hD⟩
theorem selBig (W : World) (g : Option Addr) (c : Nat) (R : List Int) (h : SetIn W 65536 g 1024 c R) (hF : Full R) : Calls Tryd.prog 20 #[.agg #[.int .i64 65536, .slice g 1024 c], .int .i64 65535] W fun e w' => e = .returned (.tuple #[.int .i64 65535, .bool true]) ∧ Below W.heap.size W w' := by
  refine (select_any W 65536 65535 g 1024 c R h (by decide) (by decide)).mono fun e w' ⟨he, hD⟩ => ⟨?_, hD⟩
  rw [he, ef_yes hF.2.1, hF.sel]
  rfl
theorem cntBig (W : World) (g : Option Addr) (c : Nat) (R : List Int) (h : SetIn W 65536 g 1024 c R) (hF : Full R) : Calls Tryd.prog 21 #[.agg #[.int .i64 65536, .slice g 1024 c]] W fun e w' => e = .returned (.int .i64 65536) ∧ Below W.heap.size W w' := by
  refine (count_any W 65536 g 1024 c R h).mono fun e w' ⟨he, hD⟩ => ⟨?_, hD⟩
  rw [he, ef_yes hF.2.1, hF.all]
  rfl
theorem runBig (W : World) (g : Option Addr) (c : Nat) (R : List Int) (h : SetIn W 65536 g 1024 c R) (hF : Full R) : Calls Tryd.prog 22 #[.agg #[.int .i64 65536, .slice g 1024 c]] W fun e w' => ∃ g2 k, e = .returned (.slice g2 1 k) ∧ Below W.heap.size W w' := by
  refine (runs_any W 65536 g 1024 c R h).mono fun e w' ⟨g2, k, he, _, hD⟩ => ⟨g2, k, ?_, hD⟩
  rw [he, ef_yes hF.2.1, hF.runs]
  rfl

set_option maxRecDepth 100000 in
set_option maxHeartbeats 8000000 in
theorem small_walk (w : World) (hT : Tbz w) :
    Calls Tryd.prog 6 #[] w fun e w' => e = .returned (.bool true) ∧ Below w.heap.size w w' := by
  go_enter Tryd.func6, Tryd.ntmps6
  go_upto_block 0 with fail
  go_cut [1, 2, 3, 4, 5, 6] from 25 to 75 (fun _ _ _ _ _ _ wx => Below w.heap.size w wx)
  case first =>
    go_wp2_with fail
    go_loopw [25] (fun I wr => ∃ k : Nat, k ≤ 6 ∧ I = .int .i64 (k : Int) ∧ Below w.heap.size w wr) (fun I _ => 6 - (intOf I).toNat)
    case atStart => exact ⟨0, by omega, rfl, Below.refl _ _⟩
    case round =>
      obtain ⟨n, hn, rfl, hB⟩ := hrel
      by_cases hlt : n < 6
      · have dn : decide ((n : Int) < 6) = true := decide_eq_true (by omega)
        go_wp2_with fail
        go_loopw [28] (fun I wr => ∃ k : Nat, k ≤ 64 ∧ I = .int .u64 (k : Int) ∧ Below w.heap.size w wr) (fun I _ => 64 - (intOf I).toNat)
        case atStart => exact ⟨0, by omega, rfl, hB⟩
        case round =>
          obtain ⟨v, hv, rfl, hB1⟩ := hrel
          clear hB
          by_cases hlt1 : v < 64
          · have dv : decide ((v : Int) < 64) = true := decide_eq_true (by omega)
            have sV := boxS hT hB1 n v (by omega) hlt1
            go_upto_block 4 with fail
            obtain ⟨V, hV⟩ : ∃ V, V = ((wr.alloc (.cells #[.int .u64 (v : Int)] 30)).alloc (.cells #[.int .i64 (n : Int), .slice (some ⟨wr.heap.size, 0, none⟩) 1 1] 24)) := ⟨_, rfl⟩
            rw [← hV] at sV ⊢
            clear hV
            go_wp2_with fail
            go_loopw [4] (fun I wx => ∃ j : Int, -1 ≤ j ∧ j ≤ 7 ∧ I = .int .i64 j ∧ Below V.heap.size V wx) (fun I _ => (7 - intOf I).toNat)
            case atStart => exact ⟨-1, by omega, by omega, rfl, Below.refl _ _⟩
            case round =>
              obtain ⟨j, hj0, hj1, rfl, hD⟩ := hrel
              have sW := sV.step hD
              by_cases hj : j < 7
              · have c0 := sW.two.c0
                have c1 := sW.two.c1
                go_wp2_with fail
                refine (tells_any _ (hT.step sW.bel) n j _ 1 1 [(v : Int)] sW.set (by omega) (by omega)).mono ?_
                rintro e u ⟨rfl, hD1⟩
                have sU := sW.step hD1
                have hA := newA' u (.cells #[.int .i64 j, .int .i64 0] 3)
                have sL := twoI u j 0
                clear c0 c1
                have c0 := sU.two.c0
                have c1 := sU.two.c1
                have sU2 := sU.step hA
                go_wp2_with fail
                refine (changes_any _ (hT.step sU2.bel) n j n _ 1 1 [(v : Int)] _ 2 2 [j, 0] sU2.set sL).mono ?_
                rintro e u2 ⟨rfl, hD2⟩
                have hE := bstep (bstep (bstep hD hD1) hA) hD2
                clear c0 c1 sL sU sU2 sW hA hD1 hD2
                go_wp2_with fail
                go_roundw
                case rel => exact ⟨j + 1, by omega, by omega, rfl, hE⟩
                case measure => simp [intOf]; omega
              · obtain rfl : j = 7 := by omega
                by_cases h3 : 3 < n
                · go_wp2_with fail
                  go_roundw
                  case rel => exact ⟨v + 1, by omega, by go_num, sW.bel⟩
                  case measure => simp [intOf]; omega
                by_cases h7 : 7 < v
                · go_wp2_with fail
                  go_roundw
                  case rel => exact ⟨v + 1, by omega, by go_num, sW.bel⟩
                  case measure => simp [intOf]; omega
                have d3 : decide ((3 : Int) < (n : Int)) = false := decide_eq_false (by omega)
                have d7 : decide ((7 : Int) < (v : Int)) = false := decide_eq_false (by omega)
                go_wp2_with fail
                go_loopw [58] (fun I wx => ∃ k : Nat, k ≤ 8 ∧ I = .int .u64 (k : Int) ∧ Below V.heap.size V wx) (fun I _ => 8 - (intOf I).toNat)
                case atStart => exact ⟨0, by omega, rfl, hD⟩
                case round =>
                  obtain ⟨x, hx, rfl, hD1⟩ := hrel
                  clear sW hD
                  by_cases hlx : x < 8
                  · have dx : decide ((x : Int) < 8) = true := decide_eq_true (by omega)
                    go_wp2_with fail
                    go_loopw [61] (fun I wx => ∃ k : Nat, k ≤ 4 ∧ I = .int .i64 (k : Int) ∧ Below V.heap.size V wx) (fun I _ => 4 - (intOf I).toNat)
                    case atStart => exact ⟨0, by omega, rfl, hD1⟩
                    case round =>
                      obtain ⟨m, hm, rfl, hD2⟩ := hrel
                      clear hD1
                      have sW := sV.step hD2
                      by_cases hlm : m < 4
                      · have c0 := sW.two.c0
                        have c1 := sW.two.c1
                        have hA := newA' wr (.cells #[.int .u64 (x : Int)] 30)
                        have sS := setU hT sW.bel m x (by omega) (by omega)
                        have sW2 := sW.step hA
                        go_wp2_with fail
                        refine (joins_any _ sS.tab n m _ _ 1 1 1 1 [(v : Int)] [(x : Int)] sW2.set sS).mono ?_
                        rintro e u ⟨rfl, hD3⟩
                        have hE := bstep (bstep hD2 hA) hD3
                        clear c0 c1 sS sW sW2 hA hD3
                        go_wp2_with fail
                        go_roundw
                        case rel => exact ⟨m + 1, by omega, by go_num, hE⟩
                        case measure => simp [intOf]; omega
                      · go_wp2_with fail
                        go_roundw
                        case rel => exact ⟨x + 1, by omega, by go_num, hD2⟩
                        case measure => simp [intOf]; omega
                  · go_wp2_with fail
                    go_roundw
                    case rel => exact ⟨v + 1, by omega, by go_num, (sV.step hD1).bel⟩
                    case measure => simp [intOf]; omega
          · go_wp2_with fail
            go_roundw
            case rel => exact ⟨n + 1, by omega, by go_num, hB1⟩
            case measure => simp [intOf]; omega
      · go_wp2_with fail
        go_meet
        case rel => exact hB
  case rest =>
    have hB := hcut
    have slA := (Blk.new .i64 3 wc [63, 64, 65, 127, 128, 129]).sl (by simp)
    have bV := newB hB (.cells #[.int .i64 63, .int .i64 64, .int .i64 65, .int .i64 127, .int .i64 128, .int .i64 129] 3)
    go_upto_block 10 with fail
    obtain ⟨V, hV⟩ : ∃ V, V = wc.alloc (.cells #[.int .i64 63, .int .i64 64, .int .i64 65, .int .i64 127, .int .i64 128, .int .i64 129] 3) := ⟨_, rfl⟩
    have sl6 : Sl .i64 V (some ⟨wc.heap.size, 0, none⟩) 6 6 [63, 64, 65, 127, 128, 129] := by rw [hV]; exact slA
    rw [← hV] at bV ⊢
    clear hV slA hB
    go_cut [8, 10, 11, 12, 13, 14, 16] from 77 to 171 (fun _ _ _ _ _ _ _ wx => Below w.heap.size w wx)
    case first =>
      go_wp2_with fail
      go_loopw [77] (fun I wx => ∃ k : Nat, k ≤ 6 ∧ I = .int .i64 (k : Int) ∧ Below V.heap.size V wx) (fun I _ => 6 - (intOf I).toNat)
      case atStart => exact ⟨0, by omega, rfl, Below.refl _ _⟩
      case round =>
        obtain ⟨k, hk, rfl, hD⟩ := hrel
        by_cases hlk : k < 6
        · have dk : decide ((k : Int) < 6) = true := decide_eq_true (by omega)
          obtain ⟨N, hN, hN0, hN1⟩ := lit6 hlk
          have c0 := (sl6.below hD).lit hlk
          rw [hN] at c0
          have slB := (Blk.new .i64 3 wr [0, 1, 62, 63, 64, 65, 126, 127, 128, -1]).sl (by simp)
          have bV2 := newB (bstep bV hD) (.cells #[.int .i64 0, .int .i64 1, .int .i64 62, .int .i64 63, .int .i64 64, .int .i64 65, .int .i64 126, .int .i64 127, .int .i64 128, .int .i64 (-1)] 3)
          have dV2 := newB hD (.cells #[.int .i64 0, .int .i64 1, .int .i64 62, .int .i64 63, .int .i64 64, .int .i64 65, .int .i64 126, .int .i64 127, .int .i64 128, .int .i64 (-1)] 3)
          clear hN
          go_upto_block 12 with fail
          obtain ⟨V2, hV2⟩ : ∃ V, V = wr.alloc (.cells #[.int .i64 0, .int .i64 1, .int .i64 62, .int .i64 63, .int .i64 64, .int .i64 65, .int .i64 126, .int .i64 127, .int .i64 128, .int .i64 (-1)] 3) := ⟨_, rfl⟩
          have sl10 : Sl .i64 V2 (some ⟨wr.heap.size, 0, none⟩) 10 10 [0, 1, 62, 63, 64, 65, 126, 127, 128, -1] := by rw [hV2]; exact slB
          rw [← hV2] at bV2 dV2 ⊢
          clear hV2 slB c0
          go_wp2_with fail
          go_loopw [83] (fun I wx => ∃ j : Nat, j ≤ 10 ∧ I = .int .i64 (j : Int) ∧ Below V2.heap.size V2 wx) (fun I _ => 10 - (intOf I).toNat)
          case atStart => exact ⟨0, by omega, rfl, Below.refl _ _⟩
          case round =>
            obtain ⟨j, hj, rfl, hD2⟩ := hrel
            by_cases hlj : j < 10
            · have dj : decide ((j : Int) < 10) = true := decide_eq_true (by omega)
              obtain ⟨Y, hY, hY0, hY1⟩ := lit10 hlj
              have c0 := (sl10.below hD2).lit hlj
              rw [hY] at c0
              clear hY
              by_cases hy : (N : Int) ≤ Y
              · go_wp2_with fail
                go_roundw
                case rel => exact ⟨j + 1, by omega, by go_num, hD2⟩
                case measure => simp [intOf]; omega
              obtain ⟨bY, hbY⟩ : ∃ b, decide ((0 : Int) ≤ Y) = b := ⟨_, rfl⟩
              have HbY := Lib.hid hbY
              go_upto_if 91 with fail
              obtain ⟨V3, hV3⟩ : ∃ V, V = wr := ⟨_, rfl⟩
              rw [← hV3] at hD2 ⊢
              clear hV3 hbY c0
              go_cut [11] from 92 to 94 (fun P wx => ∃ (a9 : Option Addr) (n9 c9 : Nat) (L9 : List Int), P = .slice a9 n9 c9 ∧ Sl .i64 wx a9 n9 c9 L9 ∧ (∀ x ∈ L9, 0 ≤ x ∧ x < (N : Int)) ∧ Below V3.heap.size V3 wx)
              case first =>
                cases bY with
                | true =>
                  have h0 : 0 ≤ Y := of_decide_eq_true HbY.out
                  have sl1 := oneI V3 Y
                  go_wp2_with fail
                  go_meet
                  case rel => exact ⟨_, 1, 1, [Y], rfl, sl1, (fun x hx => by rw [List.mem_singleton] at hx; omega), newA' _ _⟩
                | false =>
                  go_wp2_with fail
                  go_meet
                  case rel => exact ⟨none, 0, 0, [], rfl, Sl.nil _ _, (fun x hx => by cases hx), Below.refl _ _⟩
              case rest =>
                obtain ⟨a9, n9, c9, L9, rfl, sl9, hL9, hB9⟩ := hcut
                have hD3 := bstep hD2 hB9
                have bW := bstep bV2 hD3
                have HK : Hid ((N + 63) / 64 = (N + 63) / 64) := Lib.hid rfl
                obtain ⟨K9, hK9⟩ : ∃ K, K = (N + 63) / 64 := ⟨_, rfl⟩
                have HK9 := Lib.hid hK9
                have q := rofQ wc N K9 a9 n9 c9 L9 sl9 (by omega) hL9 hK9
                clear hK9 HK hL9
                unfold SetQ at q
                go_wp2_with fail
                refine q.mono ?_
                rintro e u1 ⟨g1, k1, R1, rfl, s1, w1, b1, hE⟩
                clear q sl9
                have tR1 := Two.new u1 31 (.int .i64 (N : Int)) (.slice g1 K9 k1)
                have tR2 := tR1.alloc (.cells #[.int .i64 (N : Int), .slice g1 K9 k1] 24)
                have hA1 := newB (newA' u1 (.cells #[.int .i64 (N : Int), .slice g1 K9 k1] 31)) (.cells #[.int .i64 (N : Int), .slice g1 K9 k1] 24)
                have bX := bstep (bstep bW hE) hA1
                have dX := bstep (bstep hD3 hE) hA1
                have vO : VrS w _ (u1.heap.size + 1) (N : Int) g1 K9 k1 R1 := ⟨bX, ⟨s1.below hA1, w1, by omega, by omega, hT.step bX⟩, Two.new2 u1 _ _ _ _⟩
                have c1 := tR1.c1
                go_upto_region 38 with fail
                obtain ⟨V4, hV4⟩ : ∃ V, V = ((u1.alloc (.cells #[.int .i64 (N : Int), .slice g1 K9 k1] 31)).alloc (.cells #[.int .i64 (N : Int), .slice g1 K9 k1] 24)) := ⟨_, rfl⟩
                rw [← hV4] at vO tR2 dX ⊢
                clear hV4 c1 tR1 hA1 bX s1 b1 hE bW hD3 hB9
                have q := joinQ true false false false vO.set.sl (Sl.nil .u64 V4) w1 Wds.nil (show N ≤ 65536 by omega) HK9.out
                unfold SetQ at q
                have c1 := tR2.c1
                go_wp2_with fail
                refine q.mono ?_
                rintro e u2 ⟨g2, k2, R2, rfl, s2, w2, b2, hE⟩
                clear q c1 tR2 b2
                have kf := field1 (N : Int) g2 K9 k2
                replace vO := vO.step hE
                have bX := vO.bel
                have vR : VrS w _ u2.heap.size (N : Int) g2 K9 k2 R2 := ⟨newB bX _, ⟨s2.below (newA' u2 _), w2, by omega, by omega, hT.step (newB bX _)⟩, Two.new u2 24 (.int .i64 (N : Int)) (.slice g2 K9 k2)⟩
                replace vO := vO.step (newA' u2 (.cells #[.int .i64 (N : Int), .slice g2 K9 k2] 24))
                have dY := newB (bstep dX hE) (.cells #[.int .i64 (N : Int), .slice g2 K9 k2] 24)
                clear bX s2 w2 w1 hE dX
                go_upto_region 39 with fail
                obtain ⟨V5, hV5⟩ : ∃ V, V = u2.alloc (.cells #[.int .i64 (N : Int), .slice g2 K9 k2] 24) := ⟨_, rfl⟩
                rw [← hV5] at vO vR dY ⊢
                clear hV5 kf
                have slC := (Blk.new .i64 3 V5 [-9223372036854775808, -1, 0, Y - 1, Y, Y + 1, 63, 64, (N : Int) - 1, (N : Int), 9223372036854775807]).sl (by simp)
                have hA2 := newA' V5 (.cells #[.int .i64 (-9223372036854775808), .int .i64 (-1), .int .i64 0, .int .i64 (Y - 1), .int .i64 Y, .int .i64 (Y + 1), .int .i64 63, .int .i64 64, .int .i64 ((N : Int) - 1), .int .i64 (N : Int), .int .i64 9223372036854775807] 3)
                go_upto_block 14 with fail
                obtain ⟨V6, hV6⟩ : ∃ V, V = V5.alloc (.cells #[.int .i64 (-9223372036854775808), .int .i64 (-1), .int .i64 0, .int .i64 (Y - 1), .int .i64 Y, .int .i64 (Y + 1), .int .i64 63, .int .i64 64, .int .i64 ((N : Int) - 1), .int .i64 (N : Int), .int .i64 9223372036854775807] 3) := ⟨_, rfl⟩
                have sl11 : Sl .i64 V6 (some ⟨V5.heap.size, 0, none⟩) 11 11 [-9223372036854775808, -1, 0, Y - 1, Y, Y + 1, 63, 64, (N : Int) - 1, (N : Int), 9223372036854775807] := by rw [hV6]; exact slC
                rw [← hV6] at hA2 ⊢
                clear hV6 slC
                replace vO := vO.step hA2
                replace vR := vR.step hA2
                replace dY := bstep dY hA2
                clear hA2
                go_wp2_with fail
                go_loopw [118] (fun I wx => ∃ t : Nat, t ≤ 11 ∧ I = .int .i64 (t : Int) ∧ Below V6.heap.size V6 wx) (fun I _ => 11 - (intOf I).toNat)
                case atStart => exact ⟨0, by omega, rfl, Below.refl _ _⟩
                case round =>
                  obtain ⟨t, ht, rfl, hD4⟩ := hrel
                  have xO := vO.step hD4
                  have xR := vR.step hD4
                  by_cases hlt4 : t < 11
                  · obtain ⟨z, hz, hz0, hz1⟩ := lit11 (Y := Y) (N := N) hlt4 hY0 hY1 hN1
                    have c0 := (sl11.below hD4).lit hlt4
                    rw [hz] at c0
                    clear hz
                    have c1 := xO.two.c0
                    have c2 := xO.two.c1
                    go_wp2_with fail
                    refine (tells_any _ xO.set.tab N z _ _ _ _ xO.set hz0 hz1).mono ?_
                    rintro e y1 ⟨rfl, hE⟩
                    clear c0 c1 c2
                    replace xO := xO.step hE
                    replace xR := xR.step hE
                    replace hD4 := bstep hD4 hE
                    clear hE
                    have c1 := xR.two.c0
                    have c2 := xR.two.c1
                    go_wp2_with fail
                    refine (tells_any _ xR.set.tab N z _ _ _ _ xR.set hz0 hz1).mono ?_
                    rintro e y2 ⟨rfl, hE⟩
                    clear c1 c2
                    replace xO := xO.step hE
                    replace xR := xR.step hE
                    replace hD4 := bstep hD4 hE
                    clear hE
                    have c1 := xO.two.c0
                    have c2 := xO.two.c1
                    have sY := oneI y2 Y
                    have hE := newA' y2 (.cells #[.int .i64 Y] 3)
                    replace xO := xO.step hE
                    replace xR := xR.step hE
                    replace hD4 := bstep hD4 hE
                    clear hE
                    go_wp2_with fail
                    refine (changes_any _ xO.set.tab N z N _ _ _ _ _ 1 1 [Y] xO.set sY).mono ?_
                    rintro e y3 ⟨rfl, hE⟩
                    clear c1 c2 sY
                    replace xR := xR.step hE
                    replace hD4 := bstep hD4 hE
                    clear hE xO
                    have c1 := xR.two.c0
                    have c2 := xR.two.c1
                    go_wp2_with fail
                    refine (changes_any _ xR.set.tab N z z _ _ _ _ none 0 0 [] xR.set (Sl.nil _ _)).mono ?_
                    rintro e y4 ⟨rfl, hE⟩
                    clear c1 c2
                    replace hD4 := bstep hD4 hE
                    clear hE xR
                    go_wp2_with fail
                    go_roundw
                    case rel => exact ⟨t + 1, by omega, by go_num, hD4⟩
                    case measure => simp [intOf]; omega
                  · have c1 := xO.two.c0
                    have c2 := xO.two.c1
                    have c3 := xR.two.c0
                    have c4 := xR.two.c1
                    go_wp2_with fail
                    refine (joins_any _ xO.set.tab N N _ _ _ _ _ _ _ _ xO.set xR.set).mono ?_
                    rintro e y1 ⟨rfl, hE⟩
                    clear c1 c2 c3 c4
                    replace xO := xO.step hE
                    replace xR := xR.step hE
                    replace hD4 := bstep hD4 hE
                    clear hE
                    have c3 := xR.two.c0
                    have c4 := xR.two.c1
                    go_wp2_with fail
                    refine (joins_any _ xR.set.tab N N _ _ _ _ _ _ _ _ xR.set xR.set).mono ?_
                    rintro e y2 ⟨rfl, hE⟩
                    clear c3 c4
                    replace xO := xO.step hE
                    replace xR := xR.step hE
                    replace hD4 := bstep hD4 hE
                    clear hE
                    have c1 := xO.two.c0
                    have c2 := xO.two.c1
                    have c4 := xR.two.c1
                    have sN : SetIn y2 ((N : Int) + 1) g2 K9 k2 R2 := ⟨xR.set.sl, xR.set.wds, by omega, by omega, xR.set.tab⟩
                    go_wp2_with fail
                    refine (joins_any _ xO.set.tab N ((N : Int) + 1) _ _ _ _ _ _ _ _ xO.set sN).mono ?_
                    rintro e y3 ⟨rfl, hE⟩
                    clear c1 c2 c4 sN
                    replace hD4 := bstep hD4 hE
                    clear hE xO xR
                    go_wp2_with fail
                    go_roundw
                    case rel => exact ⟨j + 1, by omega, by go_num, bstep dY hD4⟩
                    case measure => simp [intOf]; omega
            · go_wp2_with fail
              go_roundw
              case rel => exact ⟨k + 1, by omega, by go_num, bstep dV2 hD2⟩
              case measure => simp [intOf]; omega
        · go_wp2_with fail
          go_meet
          case rel => exact bstep bV hD
    case rest =>
      have hB := hcut
      have bV := bstep hB (setsW_below wc)
      have hat := fun k (hk : k < 9) => setsW_at (W := wc) (hT.step bV) hk
      go_upto_block 16 with fail
      obtain ⟨V, hV⟩ : ∃ V, V = setsW wc := ⟨_, rfl⟩
      rw [← hV] at bV hat
      unfold setsW at hV
      rw [← hV]
      have Hat := Lib.hid hat
      clear hV hB hat
      go_cut [18] from 186 to 213 (fun _ wx => Below w.heap.size w wx)
      case first =>
        go_wp2_with fail
        go_loopw [186] (fun I wx => ∃ k : Nat, k ≤ 9 ∧ I = .int .i64 (k : Int) ∧ Below V.heap.size V wx) (fun I _ => 9 - (intOf I).toNat)
        case atStart => exact ⟨0, by omega, rfl, Below.refl _ _⟩
        case round =>
          obtain ⟨k, hk, rfl, hD⟩ := hrel
          by_cases hlk : k < 9
          · obtain ⟨N, g, n, c, R, c0, c1, sS⟩ := Hat.out k hlk
            replace c0 := cell_keep c0 hD
            replace c1 := cell_keep c1 hD
            replace sS := sS.below hD
            have xS : VrS w _ wr.heap.size N g n c R := ⟨newB (bstep bV hD) _, sS.below (newA' wr _), Two.new wr 24 (.int .i64 N) (.slice g n c)⟩
            replace hD := newB hD (.cells #[.int .i64 N, .slice g n c] 24)
            go_upto_region 52 with fail
            obtain ⟨V2, hV2⟩ : ∃ V, V = wr.alloc (.cells #[.int .i64 N, .slice g n c] 24) := ⟨_, rfl⟩
            rw [← hV2] at xS hD ⊢
            clear hV2 c0 c1 sS
            have c0 := xS.two.c0
            have c1 := xS.two.c1
            go_wp2_with fail
            refine (tells_any _ xS.set.tab N 0 _ _ _ _ xS.set (by decide) (by decide)).mono ?_
            rintro e y1 ⟨rfl, hE⟩
            clear c0 c1
            replace xS := xS.step hE
            replace hD := bstep hD hE
            clear hE
            have c0 := xS.two.c0
            have c1 := xS.two.c1
            go_wp2_with fail
            refine (changes_any _ xS.set.tab N 0 N _ _ _ _ none 0 0 [] xS.set (Sl.nil _ _)).mono ?_
            rintro e y2 ⟨rfl, hE⟩
            clear c0 c1
            replace xS := xS.step hE
            replace hD := bstep hD hE
            clear hE
            have c0 := xS.two.c0
            have c1 := xS.two.c1
            go_wp2_with fail
            refine (joins_any _ xS.set.tab N N _ _ _ _ _ _ _ _ xS.set xS.set).mono ?_
            rintro e y3 ⟨rfl, hE⟩
            clear c0 c1
            replace xS := xS.step hE
            replace hD := bstep hD hE
            clear hE
            have c0 := xS.two.c0
            have c1 := xS.two.c1
            go_wp2_with fail
            refine (joins_any _ xS.set.tab N 0 _ none _ 0 _ 0 _ [] xS.set ⟨Sl.nil _ _, Wds.nil, by decide, by decide, xS.set.tab⟩).mono ?_
            rintro e y4 ⟨rfl, hE⟩
            clear c0 c1
            replace hD := bstep hD hE
            clear hE xS
            go_wp2_with fail
            go_roundw
            case rel => exact ⟨k + 1, by omega, by go_num, hD⟩
            case measure => simp [intOf]; omega
          · go_wp2_with fail
            go_meet
            case rel => exact bstep bV hD
      case rest =>
        have hB := hcut
        clear Hat bV
        go_wp2_with fail
        refine (newBig wc (hT.step hB)).mono ?_
        rintro e u1 ⟨g1, c1, R1, rfl, s1, r1, b1, hE⟩
        have t1 := Two.new u1 24 (.int .i64 65536) (.slice g1 1024 c1)
        have hE1 := newB hE (.cells #[.int .i64 65536, .slice g1 1024 c1] 24)
        have q := notBig _ g1 c1 R1 (s1.below (newA' u1 (.cells #[.int .i64 65536, .slice g1 1024 c1] 24))) r1 b1
        have d0 := t1.c0
        have d1 := t1.c1
        replace hB := bstep hB hE1
        clear r1 b1 s1 hE hE1
        go_wp2_with fail
        refine q.mono ?_
        rintro e u2 ⟨g2, c2, R2, rfl, s2, f2, hE⟩
        clear q d0 d1 t1
        have t2 := Two.new u2 24 (.int .i64 65536) (.slice g2 1024 c2)
        replace hB := newB (bstep hB hE) (.cells #[.int .i64 65536, .slice g2 1024 c2] 24)
        replace s2 := s2.below (newA' u2 (.cells #[.int .i64 65536, .slice g2 1024 c2] 24))
        have HF := Lib.hid f2
        clear hE f2
        have d0 := t2.c0
        have d1 := t2.c1
        go_wp2_with fail
        refine (selBig _ g2 c2 R2 s2 HF.out).mono ?_
        rintro e u3 ⟨rfl, hE⟩
        clear d0 d1
        replace t2 := t2.step hE
        replace s2 := s2.below hE
        replace hB := bstep hB hE
        clear hE
        have d0 := t2.c0
        have d1 := t2.c1
        go_wp2_with fail
        refine (cntBig _ g2 c2 R2 s2 HF.out).mono ?_
        rintro e u4 ⟨rfl, hE⟩
        clear d0 d1
        replace t2 := t2.step hE
        replace s2 := s2.below hE
        replace hB := bstep hB hE
        clear hE
        have d0 := t2.c0
        have d1 := t2.c1
        go_wp2_with fail
        refine (runBig _ g2 c2 R2 s2 HF.out).mono ?_
        rintro e u5 ⟨g5, k5, rfl, hE⟩
        clear d0 d1 t2
        replace s2 := s2.below hE
        replace hB := bstep hB hE
        clear hE
        go_wp2_with fail
        refine (changes_any _ s2.tab 0 0 65537 none 0 0 [] none 0 0 [] ⟨Sl.nil _ _, Wds.nil, by decide, by decide, s2.tab⟩ (Sl.nil _ _)).mono ?_
        rintro e u6 ⟨rfl, hE⟩
        replace hB := bstep hB hE
        clear hE s2
        go_wp2_with fail
        refine (awake_any _ (hT.step hB)).mono ?_
        rintro e u7 ⟨rfl, hE⟩
        replace hB := bstep hB hE
        go_wp2_with fail
        go_ret
        exact ⟨rfl, hB⟩
end Go.Proofs.YtcdjfgkjllonhaaDoor
namespace Go.Proofs.YtcdjfgkjllonhaaDoor.bitsSmall
open Go.ChangeShapes Go.WideShapes Go.ChangeAt Go.RowKit
open Go.ChangeMaps (open_string shut_string)
set_option linter.unusedVariables false

set_option maxRecDepth 100000 in
theorem lifted (os : Os) (started : os.Started) (H : Type) (enc : TypeId × Value → H) :
    ReturnsInHanded {} Tryd.checked os 6 .any (fun w args => (Rows.bitsSmallSpec.pre enc Tryd.prog Tryd.f6 [] false w args ∧ laidMetH Tryd.prog laidL w) ∧ sizedMet enc Tryd.prog Tryd.f6 (OpenSpec.ofChange Rows.bitsSmallSpec) false w args)
      (Rows.bitsSmallSpec.post enc Tryd.prog Tryd.f6 false true false false) := by
  refine returnsInHanded_of_change_and (C := Tryd.checked) (X := fun w _ => laidMetH Tryd.prog laidL w) (fun _ _ _ hh h => h.of_heap hh) own started (by kernel_rfl) Tryd.func6
    (ChangeSpec.witness_shaped (enc := enc) (C := Tryd.checked) (os := os) (X := fun w _ => laidMetH Tryd.prog laidL w) false (World.doorLaid Tryd.prog 400 os) #[] 8 rfl (World.shaped_of_RefB (by kernel_rfl) (by kernel_rfl)) (by kernel_rfl) (by kernel_rfl) (by kernel_rfl) (door_met os _)) ?_
  intro W base args ds gs before hval0 hW hcnd _ hL _
  have hval : ∀ (j : Nat) t v, Tryd.f6.params[j]? = some t → args[j]? = some v → Value.okWide Tryd.prog W .any base t v := hval0
  have hW' := hW
  obtain ⟨p, q, hA0, hV, rfl, hfz, hnd⟩ := hW
  have hA : DataW.TrodAll enc Tryd.prog W 0 (fun _ => true) true Tryd.f6.params.toList args.toList ds p := hA0
  rw [Tryd.params6] at hA hval
  obtain ⟨rfl, rfl, rfl⟩ := trodAll_none hA
  obtain ⟨rfl, rfl⟩ := trodVars_none hV
  clear hA0 hval0
  refine (small_walk W (tab_of hL)).mono fun e W' ⟨he, bel⟩ => ?_
  subst he
  exact ⟨_, rfl, _, _, _, [], _, [], hW', trodAll_mk1 (shut_bool Tryd.underlying4 _), trodAll_mk0, rfl, bel.frame _, fun h => by cases h⟩

theorem over : Rows.bitsSmallRow.holds Tryd.pinned (OpenSpec.ofChange Rows.bitsSmallSpec) :=
  OpenClaim.holds_of_wide 6 Tryd.f6 rfl rfl rfl rfl rfl rfl rfl ⟨rfl, rfl, rfl, rfl, rfl⟩ rfl rfl rfl rfl rfl (by kernel_rfl) Tryd.func6 (by kernel_rfl)
    (of_decide_eq_true (by kernel_rfl)) (by unfold Func.isWrapper; first | (rw [if_pos (by decide +kernel)]; kernel_rfl) | (rw [if_neg (by decide +kernel)]; exact ⟨rfl, rfl⟩))
    (fun os started H enc _ => lifted os started H enc)

theorem card : Claim7.holds Tryd.pinned (.plain (OpenSpec.ofChange Rows.bitsSmallSpec)) Rows.bitsSmallCard :=
  Claim7.holds_tied_plain_at .later [] [.data] true Rows.bitsSmallCard.stood.harness false
    over (fun _ h => by cases h) (by kernel_rfl) (fun _ h => by cases h) bitsSmall_row_tie rfl ⟨rfl, rfl⟩ (by kernel_rfl) rfl
    (fun f fn hf hfn => by
      obtain rfl : f = 6 := Option.some.inj ((show Tryd.prog.funcNamed Rows.bitsSmallRow.func = some 6 by kernel_rfl).symm.trans hf) |>.symm
      obtain rfl : fn = Tryd.f6 := (Option.some.inj (Tryd.func6.symm.trans hfn)).symm
      exact ⟨by kernel_rfl, fun j t ht => by
        rw [Tryd.params6] at ht
        have hm : t ∈ [] := by simpa using Array.mem_of_getElem? ht
        have hall : ([].all fun u => !Tryd.prog.wantsStandIn u) = true := by kernel_rfl
        exact (show Tryd.prog.wantsStandIn t = false by simpa using List.all_eq_true.1 hall t hm)⟩)
    (by kernel_rfl)

/-- The statement. -/
theorem proved : Rows.BitsSmallCardSaid := card
#print axioms proved
end Go.Proofs.YtcdjfgkjllonhaaDoor.bitsSmall
