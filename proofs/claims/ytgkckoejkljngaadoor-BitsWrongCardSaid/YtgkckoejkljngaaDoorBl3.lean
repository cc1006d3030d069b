/-
  The walk of BitsWrong.
-/
import Derived.Test.YtgkckoejkljngaaDoorBl1
import Derived.Deep.CutBlock
namespace Go.Proofs.YtgkckoejkljngaaDoor
open Go.RowKit Go.Shelf

/-- A set that is not right, in a variable. -/
structure BadS (wx : World) (tb : Nat) (N : Int) (g : Option Addr) (n c : Nat) (R : List Int) : Prop where
  set : SetIn wx N g n c R
  bad : rightB N R = false
  two : Two wx tb 24 (.int .i64 N) (.slice g n c)
theorem BadS.step {W W' : World} {tb : Nat} {N : Int} {g : Option Addr} {n c : Nat} {R : List Int} (h : BadS W tb N g n c R) (hb : Below W.heap.size W W') : BadS W' tb N g n c R := ⟨h.set.below hb, h.bad, h.two.step hb⟩
theorem BadS.drew {W : World} {tb : Nat} {N : Int} {g : Option Addr} {n c : Nat} {R : List Int} (h : BadS W tb N g n c R) : BadS W.drew tb N g n c R := h.step (Below.refl _ _).drew
theorem two_put0 {w : World} {b : Nat} {t : TypeId} {v0 v1 : Value} (h : Two w b t v0 v1) (x : Value) : Two (w.setCell ⟨b, 0, none⟩ x) b t x v1 := by
  obtain ⟨hlt, hk⟩ := Array.getElem?_eq_some_iff.1 h
  show (w.heap.modify b _)[b]? = _
  rw [Array.getElem?_eq_getElem (by rw [Array.size_modify]; exact hlt), Array.getElem_modify_self, hk]
  rfl
theorem two_put1 {w : World} {b : Nat} {t : TypeId} {v0 v1 : Value} (h : Two w b t v0 v1) (x : Value) : Two (w.setCell ⟨b, 1, none⟩ x) b t v0 x := by
  obtain ⟨hlt, hk⟩ := Array.getElem?_eq_some_iff.1 h
  show (w.heap.modify b _)[b]? = _
  rw [Array.getElem?_eq_getElem (by rw [Array.size_modify]; exact hlt), Array.getElem_modify_self, hk]
  rfl
theorem own_base_blk {w : World} {base : Nat} {e : TypeId} {size : Nat} {v : Value} {n : Nat} {xs : List Value} (h : w.ownsRow base e size v n xs) {k : Nat} (hk : v.ownBlock = some k) : base ≤ k := by
  rcases h.2 with ⟨hv, _⟩ | ⟨g, cap, cur, hv, hb, _⟩
  · rw [hv] at hk; simp [Value.ownBlock] at hk
  · rw [hv] at hk; simp [Value.ownBlock] at hk; omega
theorem bad_right {wx : World} {tb : Nat} {N : Int} {g : Option Addr} {n c : Nat} {R : List Int} (h : SetIn wx N g n c R) (hb : rightB N R = false) (ht : Two wx tb 24 (.int .i64 N) (.slice g n c)) : BadS wx tb N g n c R := ⟨h, hb, ht⟩

theorem bad_right' {w : World} {N : Int} {a : Option Addr} {n c : Nat} {l : List Int} (h : SetIn w N a n c l) (hb : rightB N l = false) : Calls Tryd.prog 34 #[.agg #[.int .i64 N, .slice a n c]] w fun e w' => e = .returned (.bool false) ∧ Below w.heap.size w w' := by
  have q := right_any w N a n c l h
  rw [hb] at q
  exact q
theorem bad_count {w : World} {N : Int} {a : Option Addr} {n c : Nat} {l : List Int} (h : SetIn w N a n c l) (hb : rightB N l = false) : Calls Tryd.prog 21 #[.agg #[.int .i64 N, .slice a n c]] w fun e w' => e = .returned (.int .i64 0) ∧ Below w.heap.size w w' := by
  have q := count_any w N a n c l h
  rw [ef_no hb, all_nil] at q
  exact q
theorem bad_rank {w : World} {N : Int} {a : Option Addr} {n c : Nat} {l : List Int} (h : SetIn w N a n c l) (hb : rightB N l = false) (i : Int) (hi0 : -9223372036854775808 ≤ i) (hi1 : i ≤ 9223372036854775807) : Calls Tryd.prog 25 #[.agg #[.int .i64 N, .slice a n c], .int .i64 i] w fun e w' => e = .returned (.int .i64 0) ∧ Below w.heap.size w w' := by
  have q := rank_any w N i a n c l h hi0 hi1
  rw [ef_no hb, rk_nil] at q
  exact q
theorem bad_has {w : World} {N : Int} {a : Option Addr} {n c : Nat} {l : List Int} (h : SetIn w N a n c l) (hb : rightB N l = false) (i : Int) (hi0 : -9223372036854775808 ≤ i) (hi1 : i ≤ 9223372036854775807) : Calls Tryd.prog 28 #[.agg #[.int .i64 N, .slice a n c], .int .i64 i] w fun e w' => e = .returned (.bool false) ∧ Below w.heap.size w w' := by
  have q := has_any w N i a n c l h hi0 hi1
  rw [ef_no hb, bt_nil, Bool.and_false] at q
  exact q
theorem bad_select {w : World} {N : Int} {a : Option Addr} {n c : Nat} {l : List Int} (h : SetIn w N a n c l) (hb : rightB N l = false) (i : Int) (hi0 : -9223372036854775808 ≤ i) (hi1 : i ≤ 9223372036854775807) : Calls Tryd.prog 20 #[.agg #[.int .i64 N, .slice a n c], .int .i64 i] w fun e w' => e = .returned (.tuple #[.int .i64 0, .bool false]) ∧ Below w.heap.size w w' := by
  have q := select_any w N i a n c l h hi0 hi1
  have e : selF [] i = none := by
    unfold selF
    split
    · rw [all_nil]; rfl
    · rfl
  rw [ef_no hb, e] at q
  exact q
theorem bad_next {w : World} {N : Int} {a : Option Addr} {n c : Nat} {l : List Int} (h : SetIn w N a n c l) (hb : rightB N l = false) (i : Int) (hi0 : -9223372036854775808 ≤ i) (hi1 : i ≤ 9223372036854775807) : Calls Tryd.prog 26 #[.agg #[.int .i64 N, .slice a n c], .int .i64 i] w fun e w' => e = .returned (.tuple #[.int .i64 0, .bool false]) ∧ Below w.heap.size w w' := by
  refine (next_any w N i a n c l h hi0 hi1).mono ?_
  rintro e w' ⟨⟨r, hr, rfl⟩, hD⟩
  rw [ef_no hb] at hr
  cases r with
  | none => exact ⟨rfl, hD⟩
  | some m => have := hr.2.1; rw [bt_nil] at this; cases this
theorem bad_before {w : World} {N : Int} {a : Option Addr} {n c : Nat} {l : List Int} (h : SetIn w N a n c l) (hb : rightB N l = false) (i : Int) (hi0 : -9223372036854775808 ≤ i) (hi1 : i ≤ 9223372036854775807) : Calls Tryd.prog 27 #[.agg #[.int .i64 N, .slice a n c], .int .i64 i] w fun e w' => e = .returned (.tuple #[.int .i64 0, .bool false]) ∧ Below w.heap.size w w' := by
  refine (before_any w N i a n c l h hi0 hi1).mono ?_
  rintro e w' ⟨⟨r, hr, rfl⟩, hD⟩
  rw [ef_no hb] at hr
  cases r with
  | none => exact ⟨rfl, hD⟩
  | some m => have := hr.2.1; rw [bt_nil] at this; cases this
theorem bad_members {w : World} {N : Int} {a : Option Addr} {n c : Nat} {l : List Int} (h : SetIn w N a n c l) (hb : rightB N l = false) : Calls Tryd.prog 24 #[.agg #[.int .i64 N, .slice a n c]] w fun e w' => ∃ b k, e = .returned (.slice b 0 k) ∧ Below w.heap.size w w' := by
  refine (members_any w N a n c l h).mono ?_
  rw [ef_no hb, all_nil]
  rintro e w' ⟨b, k, rfl, _, hD⟩
  exact ⟨b, k, rfl, hD⟩
theorem bad_runs {w : World} {N : Int} {a : Option Addr} {n c : Nat} {l : List Int} (h : SetIn w N a n c l) (hb : rightB N l = false) : Calls Tryd.prog 22 #[.agg #[.int .i64 N, .slice a n c]] w fun e w' => ∃ b k, e = .returned (.slice b 0 k) ∧ Below w.heap.size w w' := by
  refine (runs_any w N a n c l h).mono ?_
  rw [ef_no hb, runs_nil]
  rintro e w' ⟨b, k, rfl, _, hD⟩
  exact ⟨b, k, rfl, hD⟩
/-- An error with a set that is zero, and no more. -/
def ErrS (w : World) (x : Int) (e : Ending) (w' : World) : Prop := ∃ a c, e = .returned (.tuple #[.agg #[.int .i64 0, .slice a 0 c], .int .i64 x]) ∧ Below w.heap.size w w'
theorem SetX.err {w : World} {x : Int} {e : Ending} {w' : World} (h : SetX w x e w') : ErrS w x e w' := by
  obtain ⟨a, c, he, _, hD⟩ := h
  exact ⟨a, c, he, hD⟩
theorem bad_with {w : World} {N : Int} {a : Option Addr} {n c : Nat} {l : List Int} (h : SetIn w N a n c l) (hb : rightB N l = false) (i : Int) : Calls Tryd.prog 36 #[.agg #[.int .i64 N, .slice a n c], .int .i64 i] w (ErrS w 50) :=
  (withX_any w N i 50 (.inl rfl) a n c l h (fun W hW => copyX1_any W N i a n c l hW hb)).mono fun _ _ => SetX.err
theorem bad_without {w : World} {N : Int} {a : Option Addr} {n c : Nat} {l : List Int} (h : SetIn w N a n c l) (hb : rightB N l = false) (i : Int) : Calls Tryd.prog 37 #[.agg #[.int .i64 N, .slice a n c], .int .i64 i] w (ErrS w 50) :=
  (withoutX_any w N i 50 (.inl rfl) a n c l h (fun W hW => copyX1_any W N i a n c l hW hb)).mono fun _ _ => SetX.err
theorem bad_not {w : World} {N : Int} {a : Option Addr} {n c : Nat} {l : List Int} (h : SetIn w N a n c l) (hb : rightB N l = false) : Calls Tryd.prog 19 #[.agg #[.int .i64 N, .slice a n c]] w (ErrS w 50) :=
  (notX_any w N a n c l h hb).mono fun _ _ => SetX.err
theorem bad_or {w : World} {N M : Int} {a b : Option Addr} {n c k d : Nat} {l m : List Int} (h : SetIn w N a n c l) (h2 : SetIn w M b k d m) (hb : rightB N l = false ∨ rightB M m = false) : Calls Tryd.prog 30 #[.agg #[.int .i64 N, .slice a n c], .agg #[.int .i64 M, .slice b k d]] w (ErrS w 50) :=
  (orX_any w N M 50 a b n c k d l m h h2 (fun W hW hW2 => orC_x1 W N M a b n c k d l m hW hW2 hb)).mono fun _ _ => SetX.err
theorem bad_and {w : World} {N M : Int} {a b : Option Addr} {n c k d : Nat} {l m : List Int} (h : SetIn w N a n c l) (h2 : SetIn w M b k d m) (hb : rightB N l = false ∨ rightB M m = false) : Calls Tryd.prog 31 #[.agg #[.int .i64 N, .slice a n c], .agg #[.int .i64 M, .slice b k d]] w (ErrS w 50) :=
  (andX_any w N M 50 a b n c k d l m h h2 (fun W hW hW2 => andC_x1 W N M a b n c k d l m hW hW2 hb)).mono fun _ _ => SetX.err
theorem bad_minus {w : World} {N M : Int} {a b : Option Addr} {n c k d : Nat} {l m : List Int} (h : SetIn w N a n c l) (h2 : SetIn w M b k d m) (hb : rightB N l = false ∨ rightB M m = false) : Calls Tryd.prog 32 #[.agg #[.int .i64 N, .slice a n c], .agg #[.int .i64 M, .slice b k d]] w (ErrS w 50) :=
  (minusX_any w N M 50 a b n c k d l m h h2 (fun W hW hW2 => minusC_x1 W N M a b n c k d l m hW hW2 hb)).mono fun _ _ => SetX.err
theorem new_both (w : World) (n : Int) : Calls Tryd.prog 18 #[.int .i64 n] w fun e w' => ∃ (m : Int) (g : Option Addr) (k c : Nat) (E : Int), e = .returned (.tuple #[.agg #[.int .i64 m, .slice g k c], .int .i64 E]) ∧ (E == 2) = (decide (n < 0) || decide (65536 < n)) ∧ Below w.heap.size w w' := by
  by_cases h : n < 0 ∨ 65536 < n
  · refine (newX_any w n h).mono ?_
    rintro e w' ⟨a, c, rfl, _, hD⟩
    refine ⟨_, _, _, _, _, rfl, ?_, hD⟩
    rcases h with h | h
    · simp [h]
    · simp [h]
  · obtain ⟨k, rfl⟩ : ∃ k : Nat, n = (k : Int) := ⟨n.toNat, by omega⟩
    refine (newOk_any w k (by omega)).mono ?_
    rintro e w' ⟨g, c, R, rfl, _, _, _, hD⟩
    refine ⟨_, _, _, _, _, rfl, ?_, hD⟩
    rw [decide_eq_false (by omega), decide_eq_false (by omega)]
    rfl

set_option maxRecDepth 100000 in
set_option maxHeartbeats 8000000 in
theorem wrong_walk (w : World) (hT : Tbz w) (x : Int) (a : Option Addr) (len cap : Nat) (l : List Int) (way i : Int) (hx : (Lit.int .u16 x).wf = true) (hs : Sl .u64 w a len cap l) (hf : Fits .u64 l) (hway : (Lit.int .u8 way).wf = true) (hi : (Lit.int .i64 i).wf = true) :
    Calls Tryd.prog 11 #[.int .u16 x, .slice a len cap, .int .u8 way, .int .i64 i] w fun e w' => e = .returned (.bool true) ∧ Below w.heap.size w w' := by
  obtain ⟨hx0, hx1⟩ := bounds_u16 hx
  obtain ⟨hi0, hi1⟩ := bounds_i64 hi
  obtain ⟨hy0, hy1⟩ := bounds_u8 hway
  have hw := Wds.of_fits hf
  obtain ⟨N, hN⟩ : ∃ N : Nat, (N : Int) = x % (64 * (min len 16 : Nat) + 1) := ⟨(x % (64 * (min len 16 : Nat) + 1)).toNat, by rw [Int.toNat_of_nonneg (Int.emod_nonneg _ (by omega))]⟩
  have hNb : N ≤ 1024 := by
    have := Int.emod_lt_of_pos x (show (0 : Int) < 64 * ((min len 16 : Nat) : Int) + 1 by omega)
    omega
  clear hx hf hi hway
  go_enter Tryd.func11, Tryd.ntmps11
  go_wp2_with fail
  refine (awake_any w hT).mono ?_
  rintro e w1 ⟨rfl, hB1⟩
  go_wp2_with fail
  refine (made_any w1 x a len cap l (hs.below hB1) hw hx0 (by omega) N hN).mono ?_
  unfold MadeS
  rintro e w2 ⟨g, c, R, rfl, hown, hWd, hR, hB2⟩
  obtain ⟨K, hK⟩ : ∃ K, K = (N + 63) / 64 := ⟨_, rfl⟩
  rw [← hK] at hown ⊢
  have hA : Below w2.heap.size w2 (w2.alloc (.cells #[.int .i64 (N : Int), .slice g K c] 24)) := (Below.refl _ w2).alloc (Nat.le_refl _) _
  have hBB := bstep hB1 hB2
  have hS0 : MdS w _ w2.heap.size N K g c R := ⟨bstep hBB hA, ⟨(own_sl hown).below hA, hWd, by omega, by omega, hT.step (bstep hBB hA)⟩, Two.new _ _ _ _⟩
  have hRb := rightB_yes hR
  have hef := ef_yes hRb
  have hA2 : Below (w2.alloc (.cells #[.int .i64 (N : Int), .slice g K c] 24)).heap.size (w2.alloc (.cells #[.int .i64 (N : Int), .slice g K c] 24)) ((w2.alloc (.cells #[.int .i64 (N : Int), .slice g K c] 24)).alloc (.cells #[.int .i64 (min i (-1)), .int .i64 (max i (N : Int))] 3)) := (Below.refl _ _).alloc (Nat.le_refl _) _
  have hL2 := (Blk.new .i64 3 (w2.alloc (.cells #[.int .i64 (N : Int), .slice g K c] 24)) [min i (-1), max i (N : Int)]).sl (by show 2 ≤ 9223372036854775807; omega)
  rw [World.size_alloc] at hL2
  simp only [List.map_cons, List.map_nil, List.length_cons, List.length_nil] at hL2
  have hS1 := hS0.step hA2
  have HK := Lib.hid hK
  clear hs hw hN hT hB1 hB2 hA hBB hK hS0 hA2 hown
  have c0 := hS1.two.c0
  go_wp2_with fail
  obtain ⟨w3, hw3⟩ : ∃ wz, wz = ((w2.alloc (.cells #[.int .i64 (N : Int), .slice g K c] 24)).alloc (.cells #[.int .i64 (min i (-1)), .int .i64 (max i (N : Int))] 3)) := ⟨_, rfl⟩
  rw [← hw3] at hS1 hL2 ⊢
  obtain ⟨sb, hsb⟩ : ∃ b, b = w2.heap.size := ⟨_, rfl⟩
  rw [← hsb] at hS1 hL2 ⊢
  obtain ⟨lb, hlb⟩ : ∃ b, b = sb + 1 := ⟨_, rfl⟩
  rw [← hlb] at hL2 ⊢
  clear hw3 hsb hlb c0
  go_loopw [54] (fun I wr => ∃ k : Nat, k ≤ 2 ∧ I = .int .i64 (k : Int) ∧ MdS w wr sb N K g c R ∧ Sl .i64 wr (some ⟨lb, 0, none⟩) 2 2 [min i (-1), max i (N : Int)]) (fun I _ => 2 - (intOf I).toNat)
  case atStart => exact ⟨0, by omega, rfl, hS1, hL2⟩
  case round =>
    obtain ⟨k, hk, rfl, hS0, hL0⟩ := hrel
    clear hS1 hL2
    by_cases hlt : k < 2
    · obtain ⟨b9, o9, he9, hc⟩ := hL0.view (by omega)
      cases he9
      have hcell := hc k hlt
      rw [Nat.zero_add] at hcell
      obtain ⟨y, hy⟩ : ∃ y, y = ([min i (-1), max i (N : Int)] : List Int)[k]?.getD 0 := ⟨_, rfl⟩
      rw [← hy] at hcell
      have hyo : y < 0 ∨ (N : Int) ≤ y := by
        rw [hy]
        have : k = 0 ∨ k = 1 := by omega
        rcases this with rfl | rfl
        · left; show min i (-1) < 0; omega
        · right; show (N : Int) ≤ max i (N : Int); omega
      have hyb : -9223372036854775808 ≤ y ∧ y ≤ 9223372036854775807 := by
        rw [hy]
        have : k = 0 ∨ k = 1 := by omega
        rcases this with rfl | rfl
        · show _ ≤ min i (-1) ∧ min i (-1) ≤ _; omega
        · show _ ≤ max i (N : Int) ∧ max i (N : Int) ≤ _; omega
      have hhas : (decide (0 ≤ y) && bt R y.toNat) = false := by
        rcases hyo with h | h
        · rw [decide_eq_false (by omega), Bool.false_and]
        · rw [hR.out (by omega), Bool.and_false]
      have i1 : (k : Int) < 2 := by omega
      clear hy hc
      have c0 := hS0.two.c0
      have c1 := hS0.two.c1
      have q := withX_any wr (N : Int) y 2 (.inr rfl) g K c R hS0.set (fun W h => copyX2_any W (N : Int) y g K c R h hRb hyo)
      unfold SetX at q
      go_wp2_with fail
      refine q.mono ?_
      rintro e v1 ⟨ga, ca, rfl, _, hD⟩
      have hA : Below v1.heap.size v1 (v1.alloc (.cells #[.int .i64 0, .slice ga 0 ca] 24)) := (Below.refl _ v1).alloc (Nat.le_refl _) _
      have hS1 := (hS0.step hD).step hA
      have hL1 := (hL0.below hD).below hA
      clear hS0 hL0 q hD c0 c1 hA
      have c0 := hS1.two.c0
      have c1 := hS1.two.c1
      have q := withoutX_any _ (N : Int) y 2 (.inr rfl) g K c R hS1.set (fun W h => copyX2_any W (N : Int) y g K c R h hRb hyo)
      unfold SetX at q
      go_wp2_with fail
      refine q.mono ?_
      rintro e v2 ⟨ga2, ca2, rfl, _, hD⟩
      have hA : Below v2.heap.size v2 (v2.alloc (.cells #[.int .i64 0, .slice ga2 0 ca2] 24)) := (Below.refl _ v2).alloc (Nat.le_refl _) _
      have hS2 := (hS1.step hD).step hA
      have hL2 := (hL1.below hD).below hA
      clear hS1 hL1 q hD c0 c1 hA
      have c0 := hS2.two.c0
      have c1 := hS2.two.c1
      have hA : Below (v2.alloc (.cells #[.int .i64 0, .slice ga2 0 ca2] 24)).heap.size (v2.alloc (.cells #[.int .i64 0, .slice ga2 0 ca2] 24)) ((v2.alloc (.cells #[.int .i64 0, .slice ga2 0 ca2] 24)).alloc (.cells #[.int .i64 y] 3)) := (Below.refl _ _).alloc (Nat.le_refl _) _
      have hO := (Blk.new .i64 3 (v2.alloc (.cells #[.int .i64 0, .slice ga2 0 ca2] 24)) [y]).sl (by show 1 ≤ 9223372036854775807; omega)
      rw [World.size_alloc] at hO
      simp only [List.map_cons, List.map_nil, List.length_cons, List.length_nil] at hO
      have hS3 := hS2.step hA
      have hL3 := hL2.below hA
      have q := of_any _ N (by omega) _ _ _ _ hO
      go_wp2_with fail
      refine q.mono ?_
      rintro e v3 ⟨_, hbad⟩
      obtain ⟨ga3, ca3, rfl, _, hD⟩ := hbad ⟨y, by simp, hyo⟩
      have hA4 : Below v3.heap.size v3 (v3.alloc (.cells #[.int .i64 0, .slice ga3 0 ca3] 24)) := (Below.refl _ v3).alloc (Nat.le_refl _) _
      have hS4 := (hS3.step hD).step hA4
      have hL4 := (hL3.below hD).below hA4
      clear hS2 hL2 hS3 hL3 q hD c0 c1 hA hA4 hO hbad
      have c0 := hS4.two.c0
      have c1 := hS4.two.c1
      have q := has_any _ (N : Int) y g K c R hS4.set hyb.1 hyb.2
      rw [hef, hhas] at q
      go_wp2_with fail
      refine q.mono ?_
      rintro e v4 ⟨rfl, hD⟩
      have hS5 := hS4.step hD
      have hL5 := hL4.below hD
      clear hS4 hL4 q hD c0 c1
      go_wp2_with fail
      go_roundw
      case rel => exact ⟨k + 1, by omega, by go_num, hS5, hL5⟩
      case measure => simp [intOf]; omega
    · obtain rfl : k = 2 := by omega
      have c0 := hS0.two.c0
      have c1 := hS0.two.c1
      have hA : Below wr.heap.size wr (wr.alloc (.cells #[.int .i64 (N : Int), .slice g K c] 24)) := (Below.refl _ wr).alloc (Nat.le_refl _) _
      have hS5 := hS0.step hA
      have hT5 := Two.new wr 24 (.int .i64 (N : Int)) (.slice g K c)
      have hsl : sb < wr.heap.size := hS0.two.lt
      go_upto_block 2 with fail
      obtain ⟨w5, hw5⟩ : ∃ wz, wz = wr.alloc (.cells #[.int .i64 (N : Int), .slice g K c] 24) := ⟨_, rfl⟩
      rw [← hw5] at hS5 hT5 hA ⊢
      obtain ⟨tb, htb⟩ : ∃ q, q = wr.heap.size := ⟨_, rfl⟩
      rw [← htb] at hT5 hsl ⊢
      have htl := hT5.lt
      have hrt : wr.heap.size ≤ tb := by omega
      have HS0 := Lib.hid hS0
      clear hw5 htb hS0 hL0 c0 c1
      have h2c : ((2 : Nat) : Int) = 2 := rfl
      simp only [h2c]
      clear h2c
      go_cut [] from 96 to 146 (fun wx => ∃ (N' : Int) (g' : Option Addr) (n' c' : Nat) (R' : List Int), BadS wx tb N' g' n' c' R' ∧ MdS w wx sb N K g c R)
      case first =>
        have c0 := hS5.two.c0
        have c1 := hS5.two.c1
        have t0 := hT5.c0
        have t1 := hT5.c1
        have u0 := hT5.f0
        have u1 := hT5.f1
        have hq : way % 4 = 0 ∨ way % 4 = 1 ∨ way % 4 = 2 ∨ way % 4 = 3 := by omega
        have htm : way.tmod 4 = way % 4 := Int.tmod_eq_emod_of_nonneg hy0
        have hKn := HK.out
        have hKb : K ≤ 1024 := by omega
        have hRl : R.length = K := hS5.set.sl.1
        clear hKn
        obtain ⟨i0, hinf, hz0, hz1, hz2⟩ := info_parts infoU
        rcases hq with hq | hq | hq | hq
        · rw [hq] at htm
          have hE := own_empty w5 30 w5.heap.size (Nat.le_refl _)
          have hB1 : Below w5.heap.size w5 (w5.alloc (.cells #[] 30)) := (Below.refl _ _).alloc (Nat.le_refl _) _
          have hs6 : Sl .u64 (w5.alloc (.cells #[] 30)) g K c R := hS5.set.sl.below hB1
          have HRL := Lib.hid hRl
          have c1e := cell_keep c1 hB1
          clear hRl
          go_wp2_with (at_builtin; refine wpList_append_onsl _ rfl (.tmp 130) (.tmp 132) 22 rfl .u64 w5.heap.size 30 i0 8 Tryd.underlying22 hinf hz0 hz1 hz2 _ [] g K c R rfl rfl hE hs6 (by unfold maxLen; simp; omega) (by simp; omega) (by simp) ?_)
          intro v' w6 hown hgrow
          obtain ⟨g6, c6, rfl⟩ := own_shape hown
          have hB6 : Below w5.heap.size w5 w6 := hB1.grown hgrow (by simp) (fun k e => by simp [Value.ownBlock] at e; omega)
          simp only [HRL.out] at hown
          have hA7 : Below w6.heap.size w6 (w6.alloc (.cells #[.int .u64 0] 30)) := (Below.refl _ _).alloc (Nat.le_refl _) _
          have hown7 := ownsRow_below hown hA7
          have hL7 := (Blk.new .u64 30 w6 [0]).sl (by show 1 ≤ 9223372036854775807; omega)
          simp only [List.map_cons, List.map_nil, List.length_cons, List.length_nil] at hL7
          have hsz6 := hB6.size
          have hown7' : (w6.alloc (.cells #[.int .u64 0] 30)).ownsRow w5.heap.size 30 1 (.slice g6 R.length c6) R.length (R.map (Value.int .u64)) := by rw [HRL.out]; exact hown7
          simp only [HRL.out]
          go_wp2_with (at_builtin; refine wpList_append_onsl _ rfl (.tmp 133) (.tmp 134) 22 rfl .u64 w5.heap.size 30 i0 8 Tryd.underlying22 hinf hz0 hz1 hz2 _ R (some ⟨w6.heap.size, 0, none⟩) 1 1 [0] (by rw [HRL.out]; rfl) rfl hown7' hL7 (by unfold maxLen; rw [HRL.out]; omega) (by rw [HRL.out]; omega) (by simp; omega) ?_)
          intro v' w8 hown8 hgrow8
          obtain ⟨g8, c8, rfl⟩ := own_shape hown8
          have hB8 : Below w5.heap.size w5 w8 := (hB6.trans (hA7.mono hsz6)).grown hgrow8 (by simp; omega) (fun k e => own_base_blk hown7' e)
          have hT8 := hT5.below hB8 htl
          have hBx := (hA.trans (hB8.mono (by have := hA.size; omega))).setCell (p := ⟨tb, 1, none⟩) hrt (.slice g8 (R.length + 1) c8)
          have hS9 := HS0.out.step hBx
          have hown9 := own_set hown8 tb 1 (.slice g8 (R.length + 1) c8) htl
          have hX : BadS (w8.setCell ⟨tb, 1, none⟩ (.slice g8 (R.length + 1) c8)) tb (N : Int) g8 (R.length + 1) c8 (R ++ [0]) := by
            refine ⟨⟨own_sl (l := R ++ [0]) (by simpa using hown9), ?_, by omega, by omega, hS9.set.tab⟩, rightB_no fun h => ?_, two_put1 hT8 _⟩
            · intro y hy
              rcases List.mem_append.1 hy with hy | hy
              · exact hWd y hy
              · simp at hy; omega
            · have h1 := h.2.2.1
              have h2 := hR.2.2.1
              simp at h1
              omega
          have t0 := hT8.c0
          have t1 := hT8.c1
          have u0 := hT8.f0
          have u1 := hT8.f1
          clear hT8 hBx hown9 hown8 hgrow8 hown hown7 hown7' hA7 hL7 hB6 hB8 hS5 hT5 hgrow
          go_wp2_with fail
          go_meet
          case rel => exact ⟨_, _, _, _, _, hX, hS9⟩
        · rw [hq] at htm
          have hbad : rightB (min i (-1)) R = false := rightB_no fun h => by have := h.1; omega
          have hBx := hA.setCell (p := ⟨tb, 0, none⟩) hrt (.int .i64 (min i (-1)))
          have hS6 := HS0.out.step hBx
          have hX : BadS (w5.setCell ⟨tb, 0, none⟩ (.int .i64 (min i (-1)))) tb (min i (-1)) g K c R :=
            ⟨⟨hS6.set.sl, hWd, by omega, by omega, hS6.set.tab⟩, hbad, two_put0 hT5 _⟩
          clear hS5 hT5
          go_wp2_with fail
          go_meet
          case rel => exact ⟨_, _, _, _, _, hX, hS6⟩
        · rw [hq] at htm
          have hbad : rightB (max i 65537) R = false := rightB_no fun h => by have := h.2.1; omega
          have hBx := hA.setCell (p := ⟨tb, 0, none⟩) hrt (.int .i64 (max i 65537))
          have hS6 := HS0.out.step hBx
          have hX : BadS (w5.setCell ⟨tb, 0, none⟩ (.int .i64 (max i 65537))) tb (max i 65537) g K c R :=
            ⟨⟨hS6.set.sl, hWd, by omega, by omega, hS6.set.tab⟩, hbad, two_put0 hT5 _⟩
          clear hS5 hT5
          go_wp2_with fail
          go_meet
          case rel => exact ⟨_, _, _, _, _, hX, hS6⟩
        · rw [hq] at htm
          by_cases hr0 : N % 64 = 0
          · have er : (N : Int) % 64 = 0 := by omega
            have er2 : (N : Int).tmod 64 = 0 := by rw [Int.tmod_eq_emod_of_nonneg (by omega)]; exact er
            clear hr0
            go_wp2_with fail
            go_ret
            exact ⟨rfl, hS5.bel⟩
          · obtain ⟨r, hr⟩ : ∃ r : Nat, r = N % 64 := ⟨_, rfl⟩
            have er : (N : Int) % 64 = (r : Int) := by omega
            have er2 : (N : Int).tmod 64 = (r : Int) := by rw [Int.tmod_eq_emod_of_nonneg (by omega)]; exact er
            have hrz : ((r : Int) == 0) = false := by simp; omega
            have hr64 : r < 64 := by omega
            have hr1 : 0 < r := by omega
            have hKn := HK.out
            obtain ⟨j, hj⟩ : ∃ j : Nat, j + 1 = K := ⟨K - 1, by omega⟩
            have hNj : N = 64 * j + r := by omega
            obtain ⟨d, hd⟩ : ∃ d : Nat, (d : Int) = way % (64 - (r : Int)) := ⟨(way % (64 - (r : Int))).toNat, Int.toNat_of_nonneg (Int.emod_nonneg _ (by omega))⟩
            have hdl : d < 64 - r := by
              have := Int.emod_lt_of_pos way (show (0 : Int) < 64 - (r : Int) by omega)
              omega
            have ed : way % (64 - (r : Int)) = (d : Int) := hd.symm
            have ed2 : way.tmod (64 - (r : Int)) = (d : Int) := by rw [Int.tmod_eq_emod_of_nonneg hy0]; exact ed
            obtain ⟨p, hp⟩ : ∃ p : Nat, p = r + d := ⟨_, rfl⟩
            have ep : (r : Int) + (d : Int) = (p : Int) := by omega
            have hp64 : p < 64 := by omega
            have hX := wd_lt hWd j
            have hP : 2 ^ p < 18446744073709551616 := Nat.pow_lt_pow_right (n := 64) (by omega) hp64
            have hor := bits_or_nat (wd R j) (2 ^ p) hX hP
            have hVb := or_bit (wd R j) p p
            have hVl : wd R j ||| 2 ^ p < 18446744073709551616 := Nat.or_lt_two_pow (n := 64) hX hP
            obtain ⟨X, hXe⟩ : ∃ X, X = wd R j := ⟨_, rfl⟩
            obtain ⟨P, hPe⟩ : ∃ P, P = 2 ^ p := ⟨_, rfl⟩
            rw [← hXe, ← hPe] at hor hVb hVl
            obtain ⟨V, hV⟩ : ∃ V, V = X ||| P := ⟨_, rfl⟩
            rw [← hV] at hor hVb hVl
            have hlx : R[j]?.getD 0 = (X : Int) := by rw [hXe]; exact wd_eq hWd j
            have eP : (2 : Int) ^ p = (P : Int) := by rw [hPe]; push_cast; rfl
            rw [← hPe] at hP
            have eP2 : IntKind.u64.wrap (P : Int) = (P : Int) := by rw [IntKind.wrap_u64]; omega
            have hE := own_empty w5 30 w5.heap.size (Nat.le_refl _)
            have hB1 : Below w5.heap.size w5 (w5.alloc (.cells #[] 30)) := (Below.refl _ _).alloc (Nat.le_refl _) _
            have hs6 : Sl .u64 (w5.alloc (.cells #[] 30)) g K c R := hS5.set.sl.below hB1
            have HRL := Lib.hid hRl
            have c1e := cell_keep c1 hB1
            have HHJ := Lib.hid (And.intro hj (And.intro hNj (And.intro hp hr1)))
            clear hRl hr0 hr hKn hd hV hPe hXe hj hNj hp
            go_wp2_with (at_builtin; refine wpList_append_onsl _ rfl (.tmp 101) (.tmp 103) 22 rfl .u64 w5.heap.size 30 i0 8 Tryd.underlying22 hinf hz0 hz1 hz2 _ [] g K c R rfl rfl hE hs6 (by unfold maxLen; simp; omega) (by simp; omega) (by simp) ?_)
            intro v' w6 hown hgrow
            obtain ⟨g6, c6, rfl⟩ := own_shape hown
            have hB6 : Below w5.heap.size w5 w6 := hB1.grown hgrow (by simp) (fun k e => by simp [Value.ownBlock] at e; omega)
            simp only [HRL.out] at hown
            have hown6 : w6.ownsRow w5.heap.size 30 1 (.slice g6 K c6) K (R.map (Value.int .u64)) := hown
            obtain ⟨gg, rfl, hbg, hgl, _, hnc⟩ := own_addr2 hown6 (by have := HHJ.out.1; omega)
            have hT6 := hT5.below hB6 htl
            have hS6 := hS5.step hB6
            have hown7 := own_set hown6 tb 1 (.slice (some ⟨gg, 0, none⟩) K c6) htl
            have hT7 := two_put1 hT6 (.slice (some ⟨gg, 0, none⟩) K c6)
            have hBx := (hA.trans (hB6.mono (by have := hA.size; omega))).setCell (p := ⟨tb, 1, none⟩) hrt (.slice (some ⟨gg, 0, none⟩) K c6)
            have hs7 : sb ≠ tb := by omega
            have t0 := hT6.c0
            have t1 := hT6.c1
            have u0 := hT6.f0
            have u1 := hT6.f1
            simp only [HRL.out]
            clear hown hown6 hgrow hB1 hE hs6 c1e
            go_wp2_with fail
            have hS7 := HS0.out.step hBx
            clear t0 t1 u0 u1 c0 c1
            obtain ⟨w7, hw7⟩ : ∃ wz, wz = w6.setCell ⟨tb, 1, none⟩ (.slice (some ⟨gg, 0, none⟩) K c6) := ⟨_, rfl⟩
            rw [← hw7] at hown7 hT7 hS7 hBx ⊢
            have c0 := hS7.two.c0
            have t1 := hT7.c1
            obtain ⟨jj1, jj2, jj3, jj4⟩ := HHJ.out
            have ej : (K : Int) - 1 = (j : Int) := by omega
            have i2 : (j : Int) < (K : Int) := by omega
            have hjK : j < K := by omega
            have wj : IntKind.i64.wrap (j : Int) = (j : Int) := by rw [IntKind.wrap_i64]; omega
            have wr2 : IntKind.i64.wrap (r : Int) = (r : Int) := by rw [IntKind.wrap_i64]; omega
            have wd2 : IntKind.i64.wrap (d : Int) = (d : Int) := by rw [IntKind.wrap_i64]; omega
            have wp2 : IntKind.i64.wrap (p : Int) = (p : Int) := by rw [IntKind.wrap_i64]; omega
            have w64 : IntKind.i64.wrap (64 - (r : Int)) = 64 - (r : Int) := by rw [IntKind.wrap_i64]; omega
            have wwy : IntKind.i64.wrap way = way := by rw [IntKind.wrap_i64]; omega
            have h64 : ¬ 64 - (r : Int) = 0 := by omega
            have h64b : ((64 - (r : Int)) == 0) = false := by simp; omega
            have hp0 : (0 : Int) ≤ (p : Int) := by omega
            have cW : w7.cell? ⟨gg, j, none⟩ = some (.int .u64 (X : Int)) := by
              rw [World.ownsRow.cellAt hown7 j (by omega), List.getElem?_map, List.getElem?_eq_getElem (by rw [HRL.out]; omega)]
              rw [List.getElem?_eq_getElem (by rw [HRL.out]; omega)] at hlx
              simp only [Option.getD_some] at hlx
              rw [Option.map_some, hlx]
            have fW := World.ownsRow.frozenAt hown7 j
            have hst := (World.ownsRow.stored hown7 j (.int .u64 (V : Int))).1
            rw [← List.map_set] at hst
            have hB8 := hBx.setCell (p := ⟨gg, j, none⟩) (by show wr.heap.size ≤ gg; have := hA.size; omega) (.int .u64 (V : Int))
            have hS8 := HS0.out.step hB8.drew
            have hT8 := two_drew (two_set hT7 (g := gg) (by omega) j (.int .u64 (V : Int)))
            have hX8 : BadS (w7.setCell ⟨gg, j, none⟩ (.int .u64 (V : Int))).drew tb (N : Int) (some ⟨gg, 0, none⟩) K c6 (R.set j (V : Int)) := by
              refine ⟨⟨own_sl (l := R.set j (V : Int)) hst, hWd.set j ⟨by omega, by omega⟩, by omega, by omega, hS8.set.tab⟩, rightB_no fun h => ?_, hT8⟩
              have h4 := h.2.2.2 (64 * j + p) (by rw [List.length_set, HRL.out]; omega) (by omega)
              rw [bt_set (by rw [HRL.out]; omega), if_pos (by omega)] at h4
              have : (64 * j + p) % 64 = p := by omega
              rw [this] at h4
              simp [hVb] at h4
            have HX := Lib.hid (And.intro hS8 hX8)
            clear hw7 hown7 hT7 hS7 hBx hB8 hS8 hT8 hX8 hst jj1 jj2 jj3 jj4 hT6 hS6 hB6 hA hS5 hT5 hVb hX hP
            go_region
            all_goals
              clear cW fW c0 t1
              go_wp2_with fail
              go_meet
              case rel => exact ⟨_, _, _, _, _, HX.out.2, HX.out.1⟩
      case rest =>
        obtain ⟨N', g', n', c', R', hX0, hS0⟩ := hcut
        have t0 := hX0.two.c0
        have t1 := hX0.two.c1
        have q := bad_with hX0.set hX0.bad 0
        unfold ErrS at q
        go_wp2_with fail
        refine q.mono ?_
        rintro e v ⟨ga, ca, rfl, hD⟩
        have hA : Below v.heap.size v (v.alloc (.cells #[.int .i64 0, .slice ga 0 ca] 24)) := (Below.refl _ v).alloc (Nat.le_refl _) _
        have hX1 := (hX0.step hD).step hA
        have hS1 := (hS0.step hD).step hA
        clear hX0 hS0 q hD hA t0 t1
        have t0 := hX1.two.c0
        have t1 := hX1.two.c1
        have q := bad_without hX1.set hX1.bad (-1)
        unfold ErrS at q
        go_wp2_with fail
        refine q.mono ?_
        rintro e v ⟨ga, ca, rfl, hD⟩
        have hA : Below v.heap.size v (v.alloc (.cells #[.int .i64 0, .slice ga 0 ca] 24)) := (Below.refl _ v).alloc (Nat.le_refl _) _
        have hX2 := (hX1.step hD).step hA
        have hS2 := (hS1.step hD).step hA
        clear hX1 hS1 q hD hA t0 t1
        have t0 := hX2.two.c0
        have t1 := hX2.two.c1
        have q := bad_not hX2.set hX2.bad
        unfold ErrS at q
        go_wp2_with fail
        refine q.mono ?_
        rintro e v ⟨ga, ca, rfl, hD⟩
        have hA : Below v.heap.size v (v.alloc (.cells #[.int .i64 0, .slice ga 0 ca] 24)) := (Below.refl _ v).alloc (Nat.le_refl _) _
        have hX3 := (hX2.step hD).step hA
        have hS3 := (hS2.step hD).step hA
        clear hX2 hS2 q hD hA t0 t1
        have t0 := hX3.two.c0
        have t1 := hX3.two.c1
        have c0 := hS3.two.c0
        have c1 := hS3.two.c1
        have q := bad_or hX3.set hS3.set (.inl hX3.bad)
        unfold ErrS at q
        go_wp2_with fail
        refine q.mono ?_
        rintro e v ⟨ga, ca, rfl, hD⟩
        have hA : Below v.heap.size v (v.alloc (.cells #[.int .i64 0, .slice ga 0 ca] 24)) := (Below.refl _ v).alloc (Nat.le_refl _) _
        have hX4 := (hX3.step hD).step hA
        have hS4 := (hS3.step hD).step hA
        clear hX3 hS3 q hD hA t0 t1 c0 c1
        have t0 := hX4.two.c0
        have t1 := hX4.two.c1
        have c0 := hS4.two.c0
        have c1 := hS4.two.c1
        have q := bad_and hS4.set hX4.set (.inr hX4.bad)
        unfold ErrS at q
        go_wp2_with fail
        refine q.mono ?_
        rintro e v ⟨ga, ca, rfl, hD⟩
        have hA : Below v.heap.size v (v.alloc (.cells #[.int .i64 0, .slice ga 0 ca] 24)) := (Below.refl _ v).alloc (Nat.le_refl _) _
        have hX5 := (hX4.step hD).step hA
        have hS5 := (hS4.step hD).step hA
        clear hX4 hS4 q hD hA t0 t1 c0 c1
        have t0 := hX5.two.c0
        have t1 := hX5.two.c1
        have q := bad_minus hX5.set hX5.set (.inl hX5.bad)
        unfold ErrS at q
        go_wp2_with fail
        refine q.mono ?_
        rintro e v ⟨ga, ca, rfl, hD⟩
        have hA : Below v.heap.size v (v.alloc (.cells #[.int .i64 0, .slice ga 0 ca] 24)) := (Below.refl _ v).alloc (Nat.le_refl _) _
        have hX6 := (hX5.step hD).step hA
        have hS6 := (hS5.step hD).step hA
        clear hX5 hS5 q hD hA t0 t1
        have t0 := hX6.two.c0
        have t1 := hX6.two.c1
        have q := bad_select hX6.set hX6.bad 0 (by omega) (by omega)
        go_wp2_with fail
        refine q.mono ?_
        rintro e v ⟨rfl, hD⟩
        have hX7 := hX6.step hD
        have hS7 := hS6.step hD
        clear hX6 hS6 q hD t0 t1
        have t0 := hX7.two.c0
        have t1 := hX7.two.c1
        have q := bad_next hX7.set hX7.bad 0 (by omega) (by omega)
        go_wp2_with fail
        refine q.mono ?_
        rintro e v ⟨rfl, hD⟩
        have hX8 := hX7.step hD
        have hS8 := hS7.step hD
        clear hX7 hS7 q hD t0 t1
        have t0 := hX8.two.c0
        have t1 := hX8.two.c1
        have q := bad_before hX8.set hX8.bad 1000 (by omega) (by omega)
        go_wp2_with fail
        refine q.mono ?_
        rintro e v ⟨rfl, hD⟩
        have hX9 := hX8.step hD
        have hS9 := hS8.step hD
        clear hX8 hS8 q hD t0 t1
        have t0 := hX9.two.c0
        have t1 := hX9.two.c1
        have q := fun W => new_both W N'
        go_wp2_with fail
        refine (q _).mono ?_
        rintro e v ⟨mm, ga, ka, ca, E, rfl, hE, hD⟩
        have hA : Below v.heap.size v (v.alloc (.cells #[.int .i64 mm, .slice ga ka ca] 24)) := (Below.refl _ v).alloc (Nat.le_refl _) _
        have hX10 := (hX9.step hD).step hA
        have hS10 := (hS9.step hD).step hA
        clear hX9 hS9 q hD hA t0 t1
        have HE := Lib.hid hE
        clear hE
        have hA : Below (v.alloc (.cells #[.int .i64 mm, .slice ga ka ca] 24)).heap.size (v.alloc (.cells #[.int .i64 mm, .slice ga ka ca] 24)) ((v.alloc (.cells #[.int .i64 mm, .slice ga ka ca] 24)).alloc (.cells #[.int .i64 50, .int .i64 50, .int .i64 50, .int .i64 50, .int .i64 50, .int .i64 50] 35)) := (Below.refl _ _).alloc (Nat.le_refl _) _
        have hL9 := (Blk.new .i64 35 (v.alloc (.cells #[.int .i64 mm, .slice ga ka ca] 24)) [50, 50, 50, 50, 50, 50]).sl (by show 6 ≤ 9223372036854775807; omega)
        rw [World.size_alloc] at hL9
        simp only [List.map_cons, List.map_nil, List.length_cons, List.length_nil] at hL9
        have hX9 := hX10.step hA
        have hS9 := hS10.step hA
        obtain ⟨v9, hv9⟩ : ∃ wz, wz = (v.alloc (.cells #[.int .i64 mm, .slice ga ka ca] 24)).alloc (.cells #[.int .i64 50, .int .i64 50, .int .i64 50, .int .i64 50, .int .i64 50, .int .i64 50] 35) := ⟨_, rfl⟩
        go_wp2_with fail
        rw [← hv9] at hX9 hS9 hL9 ⊢
        obtain ⟨eb, heb⟩ : ∃ b, b = v.heap.size + 1 := ⟨_, rfl⟩
        rw [← heb] at hL9 ⊢
        clear hv9 heb hA hX10 hS10
        go_loopw [209] (fun I wr => ∃ k : Nat, k ≤ 6 ∧ I = .int .i64 (k : Int) ∧ BadS wr tb N' g' n' c' R' ∧ MdS w wr sb N K g c R ∧ Sl .i64 wr (some ⟨eb, 0, none⟩) 6 6 [50, 50, 50, 50, 50, 50]) (fun I _ => 6 - (intOf I).toNat)
        case atStart => exact ⟨0, by omega, rfl, hX9, hS9, hL9⟩
        case round =>
          obtain ⟨k, hk, rfl, hX0, hS0, hL0⟩ := hrel
          clear hX9 hS9 hL9
          by_cases hlt : k < 6
          · obtain ⟨b9, o9, he9, hc⟩ := hL0.view (by omega)
            cases he9
            have hcell := hc k hlt
            rw [Nat.zero_add] at hcell
            obtain ⟨y, hy⟩ : ∃ y, y = ([50, 50, 50, 50, 50, 50] : List Int)[k]?.getD 0 := ⟨_, rfl⟩
            rw [← hy] at hcell
            have hy50 : y = 50 := by
              rw [hy]
              have : k = 0 ∨ k = 1 ∨ k = 2 ∨ k = 3 ∨ k = 4 ∨ k = 5 := by omega
              rcases this with rfl | rfl | rfl | rfl | rfl | rfl <;> rfl
            rw [hy50] at hcell
            clear hy hy50 hc
            have i1 : (k : Int) < 6 := by omega
            go_wp2_with fail
            go_roundw
            case rel => exact ⟨k + 1, by omega, by go_num, hX0, hS0, hL0⟩
            case measure => simp [intOf]; omega
          · obtain rfl : k = 6 := by omega
            clear hL0
            have t0 := hX0.two.c0
            have t1 := hX0.two.c1
            have h0 : Below w.heap.size w wr ∧ BadS wr tb N' g' n' c' R' ∧ wr.cell? ⟨tb, 0, none⟩ = some (.int .i64 N') ∧ wr.cell? ⟨tb, 1, none⟩ = some (.slice g' n' c') := ⟨hS0.bel, hX0, t0, t1⟩
            go_wp2_with fail
            have hbad := hX0.bad
            clear hX0 hS0 t0 t1
            have h0 : Below w.heap.size w wr.drew ∧ BadS wr.drew tb N' g' n' c' R' ∧ wr.drew.cell? ⟨tb, 0, none⟩ = some (.int .i64 N') ∧ wr.drew.cell? ⟨tb, 1, none⟩ = some (.slice g' n' c') := ⟨h0.1.drew, h0.2.1.drew, h0.2.2⟩
            by_cases hneg : N' < 0
            · have hlo : decide (N' < 0) = true := decide_eq_true hneg
              have hE2 : (E == 2) = true := by rw [HE.out, hlo]; rfl
              refine wp_region_noPanic ?_
              refine wp_region_held_drew (S := fun W => Below w.heap.size w W ∧ BadS W tb N' g' n' c' R' ∧ W.cell? ⟨tb, 0, none⟩ = some (.int .i64 N') ∧ W.cell? ⟨tb, 1, none⟩ = some (.slice g' n' c')) (by kernel_rfl) (h0) (fun hHeld => ?_)
              refine wpAnyH_take (i := 0) (oi := { dst := some 216, op := Go.Op.load 24 (Go.Operand.tmp 18), type := 24, pos := "outright.go:196", after := #[], guard := none }) (v := ?v0na) rfl (by kernel_rfl) (by kernel_rfl) (by kernel_rfl) (fun _ _ _ h => h) (Or.inl ⟨by rfl, ?hy0na⟩) hHeld ?rest0na
              case hy0na =>
                intro w hSw
                try dsimp only at hSw
                go_simp
                try with_reducible rfl
              try simp only [Act.put, List.setIfInBounds_toArray, List.set_cons_zero, List.set_cons_succ]
              refine wpAnyH_ready (rs := [1]) (by kernel_rfl) (by simp) ?_
              refine AllReadyH.cons (o := { dst := some 217, op := Go.Op.call { callee := Go.Callee.value (Go.Operand.func 34), args := #[Go.Operand.tmp 216], argTypes := #[24] }, type := 4, pos := "outright.go:196", after := #[{ on := 0, ground := Go.Ground.data }], guard := none }) rfl (fun K hK => ?_) AllReadyH.nil
              go_simp
              refine (bad_right' h0.2.1.set h0.2.1.bad).mono ?_
              rintro e v1 ⟨rfl, hD1⟩
              have h1 : Below w.heap.size w v1 ∧ BadS v1 tb N' g' n' c' R' ∧ v1.cell? ⟨tb, 0, none⟩ = some (.int .i64 N') ∧ v1.cell? ⟨tb, 1, none⟩ = some (.slice g' n' c') := ⟨bstep h0.1 hD1, h0.2.1.step hD1, (h0.2.1.step hD1).two.c0, (h0.2.1.step hD1).two.c1⟩
              go_wp2_with fail
              refine hK.out _ _ (h1) (fun hHeld => ?_)
              clear hK K
              try simp only [Act.put, List.setIfInBounds_toArray, List.set_cons_zero, List.set_cons_succ]
              refine wpAnyH_take (i := 2) (oi := { dst := some 218, op := Go.Op.unOp Go.UnOp.not 4 (Go.Operand.tmp 217), type := 4, pos := "outright.go:196", after := #[{ on := 1, ground := Go.Ground.data }], guard := none }) (v := ?v2na) rfl (by kernel_rfl) (by kernel_rfl) (by kernel_rfl) (fun _ _ _ h => h) (Or.inl ⟨by rfl, ?hy2na⟩) hHeld ?rest2na
              case hy2na =>
                intro w hSw
                try dsimp only at hSw
                go_simp
                try with_reducible rfl
              try simp only [Act.put, List.setIfInBounds_toArray, List.set_cons_zero, List.set_cons_succ]
              refine wpAnyH_take (i := 3) (oi := { dst := some 219, op := Go.Op.move (Go.Operand.tmp 218), type := 4, pos := "outright.go:196", after := #[{ on := 2, ground := Go.Ground.data }, { on := 1, ground := Go.Ground.chain }], guard := none }) (v := ?v3na) rfl (by kernel_rfl) (by kernel_rfl) (by kernel_rfl) (fun _ _ _ h => h) (Or.inl ⟨by rfl, ?hy3na⟩) hHeld ?rest3na
              case hy3na =>
                intro w hSw
                try dsimp only at hSw
                go_simp
                try with_reducible rfl
              try simp only [Act.put, List.setIfInBounds_toArray, List.set_cons_zero, List.set_cons_succ]
              refine wpAnyH_take (i := 4) (oi := { dst := some 220, op := Go.Op.load 24 (Go.Operand.tmp 18), type := 24, pos := "outright.go:196", after := #[{ on := 3, ground := Go.Ground.guard }], guard := some (3, true) }) (v := ?v4na) rfl (by kernel_rfl) (by kernel_rfl) (by kernel_rfl) (fun _ _ _ h => h) (Or.inl ⟨by rfl, ?hy4na⟩) hHeld ?rest4na
              case hy4na =>
                intro w hSw
                try dsimp only at hSw
                go_simp
                try with_reducible rfl
              try simp only [Act.put, List.setIfInBounds_toArray, List.set_cons_zero, List.set_cons_succ]
              refine wpAnyH_ready (rs := [5]) (by kernel_rfl) (by simp) ?_
              refine AllReadyH.cons (o := { dst := some 221, op := Go.Op.call { callee := Go.Callee.value (Go.Operand.func 28), args := #[Go.Operand.tmp 220, Go.Operand.const (Go.Value.int Go.IntKind.i64 0)], argTypes := #[24, 3] }, type := 4, pos := "outright.go:196", after := #[{ on := 4, ground := Go.Ground.data }, { on := 3, ground := Go.Ground.chain }, { on := 3, ground := Go.Ground.guard }], guard := some (3, true) }) rfl (fun K hK => ?_) AllReadyH.nil
              go_simp
              refine (bad_has h1.2.1.set h1.2.1.bad 0 (by omega) (by omega)).mono ?_
              rintro e v2 ⟨rfl, hD2⟩
              have h2 : Below w.heap.size w v2 ∧ BadS v2 tb N' g' n' c' R' ∧ v2.cell? ⟨tb, 0, none⟩ = some (.int .i64 N') ∧ v2.cell? ⟨tb, 1, none⟩ = some (.slice g' n' c') := ⟨bstep h1.1 hD2, h1.2.1.step hD2, (h1.2.1.step hD2).two.c0, (h1.2.1.step hD2).two.c1⟩
              go_wp2_with fail
              refine hK.out _ _ (h2) (fun hHeld => ?_)
              clear hK K
              try simp only [Act.put, List.setIfInBounds_toArray, List.set_cons_zero, List.set_cons_succ]
              refine wpAnyH_take (i := 6) (oi := { dst := some 222, op := Go.Op.unOp Go.UnOp.not 4 (Go.Operand.tmp 221), type := 4, pos := "outright.go:196", after := #[{ on := 5, ground := Go.Ground.data }, { on := 3, ground := Go.Ground.guard }], guard := some (3, true) }) (v := ?v6na) rfl (by kernel_rfl) (by kernel_rfl) (by kernel_rfl) (fun _ _ _ h => h) (Or.inl ⟨by rfl, ?hy6na⟩) hHeld ?rest6na
              case hy6na =>
                intro w hSw
                try dsimp only at hSw
                go_simp
                try with_reducible rfl
              try simp only [Act.put, List.setIfInBounds_toArray, List.set_cons_zero, List.set_cons_succ]
              refine wpAnyH_take (i := 7) (oi := { dst := some 223, op := Go.Op.pick (Go.Operand.tmp 219) (Go.Operand.tmp 222) (Go.Operand.const (Go.Value.bool false)), type := 4, pos := "outright.go:196", after := #[{ on := 3, ground := Go.Ground.data }, { on := 6, ground := Go.Ground.data }], guard := none }) (v := ?v7na) rfl (by kernel_rfl) (by kernel_rfl) (by kernel_rfl) (fun _ _ _ h => h) (Or.inl ⟨by rfl, ?hy7na⟩) hHeld ?rest7na
              case hy7na =>
                intro w hSw
                try dsimp only at hSw
                go_simp
                try with_reducible rfl
              try simp only [Act.put, List.setIfInBounds_toArray, List.set_cons_zero, List.set_cons_succ]
              refine wpAnyH_take (i := 8) (oi := { dst := some 224, op := Go.Op.move (Go.Operand.tmp 223), type := 4, pos := "outright.go:196", after := #[{ on := 7, ground := Go.Ground.data }, { on := 5, ground := Go.Ground.chain }], guard := none }) (v := ?v8na) rfl (by kernel_rfl) (by kernel_rfl) (by kernel_rfl) (fun _ _ _ h => h) (Or.inl ⟨by rfl, ?hy8na⟩) hHeld ?rest8na
              case hy8na =>
                intro w hSw
                try dsimp only at hSw
                go_simp
                try with_reducible rfl
              try simp only [Act.put, List.setIfInBounds_toArray, List.set_cons_zero, List.set_cons_succ]
              refine wpAnyH_take (i := 9) (oi := { dst := some 225, op := Go.Op.load 24 (Go.Operand.tmp 18), type := 24, pos := "outright.go:196", after := #[{ on := 8, ground := Go.Ground.guard }], guard := some (8, true) }) (v := ?v9na) rfl (by kernel_rfl) (by kernel_rfl) (by kernel_rfl) (fun _ _ _ h => h) (Or.inl ⟨by rfl, ?hy9na⟩) hHeld ?rest9na
              case hy9na =>
                intro w hSw
                try dsimp only at hSw
                go_simp
                try with_reducible rfl
              try simp only [Act.put, List.setIfInBounds_toArray, List.set_cons_zero, List.set_cons_succ]
              refine wpAnyH_take (i := 11) (oi := { dst := some 227, op := Go.Op.load 24 (Go.Operand.tmp 18), type := 24, pos := "outright.go:196", after := #[{ on := 8, ground := Go.Ground.guard }], guard := some (8, true) }) (v := ?v11na) rfl (by kernel_rfl) (by kernel_rfl) (by kernel_rfl) (fun _ _ _ h => h) (Or.inl ⟨by rfl, ?hy11na⟩) hHeld ?rest11na
              case hy11na =>
                intro w hSw
                try dsimp only at hSw
                go_simp
                try with_reducible rfl
              try simp only [Act.put, List.setIfInBounds_toArray, List.set_cons_zero, List.set_cons_succ]
              refine wpAnyH_take (i := 14) (oi := { dst := some 230, op := Go.Op.load 24 (Go.Operand.tmp 18), type := 24, pos := "outright.go:196", after := #[{ on := 8, ground := Go.Ground.guard }], guard := some (8, true) }) (v := ?v14na) rfl (by kernel_rfl) (by kernel_rfl) (by kernel_rfl) (fun _ _ _ h => h) (Or.inl ⟨by rfl, ?hy14na⟩) hHeld ?rest14na
              case hy14na =>
                intro w hSw
                try dsimp only at hSw
                go_simp
                try with_reducible rfl
              try simp only [Act.put, List.setIfInBounds_toArray, List.set_cons_zero, List.set_cons_succ]
              refine wpAnyH_take (i := 18) (oi := { dst := some 234, op := Go.Op.load 24 (Go.Operand.tmp 18), type := 24, pos := "outright.go:196", after := #[{ on := 8, ground := Go.Ground.guard }], guard := some (8, true) }) (v := ?v18na) rfl (by kernel_rfl) (by kernel_rfl) (by kernel_rfl) (fun _ _ _ h => h) (Or.inl ⟨by rfl, ?hy18na⟩) hHeld ?rest18na
              case hy18na =>
                intro w hSw
                try dsimp only at hSw
                go_simp
                try with_reducible rfl
              try simp only [Act.put, List.setIfInBounds_toArray, List.set_cons_zero, List.set_cons_succ]
              refine wpAnyH_ready (rs := [10]) (by kernel_rfl) (by simp) ?_
              refine AllReadyH.cons (o := { dst := some 226, op := Go.Op.call { callee := Go.Callee.value (Go.Operand.func 21), args := #[Go.Operand.tmp 225], argTypes := #[24] }, type := 3, pos := "outright.go:196", after := #[{ on := 9, ground := Go.Ground.data }, { on := 8, ground := Go.Ground.chain }, { on := 8, ground := Go.Ground.guard }], guard := some (8, true) }) rfl (fun K hK => ?_) AllReadyH.nil
              go_simp
              refine (bad_count h2.2.1.set h2.2.1.bad).mono ?_
              rintro e v3 ⟨rfl, hD3⟩
              have h3 : Below w.heap.size w v3 ∧ BadS v3 tb N' g' n' c' R' ∧ v3.cell? ⟨tb, 0, none⟩ = some (.int .i64 N') ∧ v3.cell? ⟨tb, 1, none⟩ = some (.slice g' n' c') := ⟨bstep h2.1 hD3, h2.2.1.step hD3, (h2.2.1.step hD3).two.c0, (h2.2.1.step hD3).two.c1⟩
              go_wp2_with fail
              refine hK.out _ _ (h3) (fun hHeld => ?_)
              clear hK K
              try simp only [Act.put, List.setIfInBounds_toArray, List.set_cons_zero, List.set_cons_succ]
              refine wpAnyH_ready (rs := [12]) (by kernel_rfl) (by simp) ?_
              refine AllReadyH.cons (o := { dst := some 228, op := Go.Op.call { callee := Go.Callee.value (Go.Operand.func 25), args := #[Go.Operand.tmp 227, Go.Operand.const (Go.Value.int Go.IntKind.i64 5)], argTypes := #[24, 3] }, type := 3, pos := "outright.go:196", after := #[{ on := 11, ground := Go.Ground.data }, { on := 10, ground := Go.Ground.chain }, { on := 8, ground := Go.Ground.guard }], guard := some (8, true) }) rfl (fun K hK => ?_) AllReadyH.nil
              go_simp
              refine (bad_rank h3.2.1.set h3.2.1.bad 5 (by omega) (by omega)).mono ?_
              rintro e v4 ⟨rfl, hD4⟩
              have h4 : Below w.heap.size w v4 ∧ BadS v4 tb N' g' n' c' R' ∧ v4.cell? ⟨tb, 0, none⟩ = some (.int .i64 N') ∧ v4.cell? ⟨tb, 1, none⟩ = some (.slice g' n' c') := ⟨bstep h3.1 hD4, h3.2.1.step hD4, (h3.2.1.step hD4).two.c0, (h3.2.1.step hD4).two.c1⟩
              go_wp2_with fail
              refine hK.out _ _ (h4) (fun hHeld => ?_)
              clear hK K
              try simp only [Act.put, List.setIfInBounds_toArray, List.set_cons_zero, List.set_cons_succ]
              refine wpAnyH_take (i := 13) (oi := { dst := some 229, op := Go.Op.binOp Go.BinOp.add 3 (Go.Operand.tmp 226) (Go.Operand.tmp 228) 3, type := 3, pos := "outright.go:196", after := #[{ on := 10, ground := Go.Ground.data }, { on := 12, ground := Go.Ground.data }, { on := 8, ground := Go.Ground.guard }], guard := some (8, true) }) (v := ?v13na) rfl (by kernel_rfl) (by kernel_rfl) (by kernel_rfl) (fun _ _ _ h => h) (Or.inl ⟨by rfl, ?hy13na⟩) hHeld ?rest13na
              case hy13na =>
                intro w hSw
                try dsimp only at hSw
                go_simp
                try with_reducible rfl
              try simp only [Act.put, List.setIfInBounds_toArray, List.set_cons_zero, List.set_cons_succ]
              refine wpAnyH_ready (rs := [15]) (by kernel_rfl) (by simp) ?_
              refine AllReadyH.cons (o := { dst := some 231, op := Go.Op.call { callee := Go.Callee.value (Go.Operand.func 24), args := #[Go.Operand.tmp 230], argTypes := #[24] }, type := 27, pos := "outright.go:196", after := #[{ on := 14, ground := Go.Ground.data }, { on := 12, ground := Go.Ground.chain }, { on := 8, ground := Go.Ground.guard }], guard := some (8, true) }) rfl (fun K hK => ?_) AllReadyH.nil
              go_simp
              refine (bad_members h4.2.1.set h4.2.1.bad).mono ?_
              rintro e v5 ⟨ba, ka1, rfl, hD5⟩
              have h5 : Below w.heap.size w v5 ∧ BadS v5 tb N' g' n' c' R' ∧ v5.cell? ⟨tb, 0, none⟩ = some (.int .i64 N') ∧ v5.cell? ⟨tb, 1, none⟩ = some (.slice g' n' c') := ⟨bstep h4.1 hD5, h4.2.1.step hD5, (h4.2.1.step hD5).two.c0, (h4.2.1.step hD5).two.c1⟩
              go_wp2_with fail
              refine hK.out _ _ (h5) (fun hHeld => ?_)
              clear hK K
              try simp only [Act.put, List.setIfInBounds_toArray, List.set_cons_zero, List.set_cons_succ]
              refine wpAnyH_take (i := 16) (oi := { dst := some 232, op := Go.Op.call { callee := Go.Callee.builtin Go.Builtin.len, args := #[Go.Operand.tmp 231], argTypes := #[27] }, type := 3, pos := "outright.go:196", after := #[{ on := 15, ground := Go.Ground.data }, { on := 8, ground := Go.Ground.guard }], guard := some (8, true) }) (v := ?v16na) rfl (by kernel_rfl) (by kernel_rfl) (by kernel_rfl) (fun _ _ _ h => h) (Or.inl ⟨by rfl, ?hy16na⟩) hHeld ?rest16na
              case hy16na =>
                intro w hSw
                try dsimp only at hSw
                go_simp
                try with_reducible rfl
              try simp only [Act.put, List.setIfInBounds_toArray, List.set_cons_zero, List.set_cons_succ]
              refine wpAnyH_take (i := 17) (oi := { dst := some 233, op := Go.Op.binOp Go.BinOp.add 3 (Go.Operand.tmp 229) (Go.Operand.tmp 232) 3, type := 3, pos := "outright.go:196", after := #[{ on := 13, ground := Go.Ground.data }, { on := 16, ground := Go.Ground.data }, { on := 8, ground := Go.Ground.guard }], guard := some (8, true) }) (v := ?v17na) rfl (by kernel_rfl) (by kernel_rfl) (by kernel_rfl) (fun _ _ _ h => h) (Or.inl ⟨by rfl, ?hy17na⟩) hHeld ?rest17na
              case hy17na =>
                intro w hSw
                try dsimp only at hSw
                go_simp
                try with_reducible rfl
              try simp only [Act.put, List.setIfInBounds_toArray, List.set_cons_zero, List.set_cons_succ]
              refine wpAnyH_ready (rs := [19]) (by kernel_rfl) (by simp) ?_
              refine AllReadyH.cons (o := { dst := some 235, op := Go.Op.call { callee := Go.Callee.value (Go.Operand.func 22), args := #[Go.Operand.tmp 234], argTypes := #[24] }, type := 42, pos := "outright.go:196", after := #[{ on := 18, ground := Go.Ground.data }, { on := 15, ground := Go.Ground.chain }, { on := 8, ground := Go.Ground.guard }], guard := some (8, true) }) rfl (fun K hK => ?_) AllReadyH.nil
              go_simp
              refine (bad_runs h5.2.1.set h5.2.1.bad).mono ?_
              rintro e v6 ⟨bb, kb1, rfl, hD6⟩
              have h6 : Below w.heap.size w v6 ∧ BadS v6 tb N' g' n' c' R' ∧ v6.cell? ⟨tb, 0, none⟩ = some (.int .i64 N') ∧ v6.cell? ⟨tb, 1, none⟩ = some (.slice g' n' c') := ⟨bstep h5.1 hD6, h5.2.1.step hD6, (h5.2.1.step hD6).two.c0, (h5.2.1.step hD6).two.c1⟩
              go_wp2_with fail
              refine hK.out _ _ (h6) (fun hHeld => ?_)
              clear hK K
              try simp only [Act.put, List.setIfInBounds_toArray, List.set_cons_zero, List.set_cons_succ]
              refine wpAnyH_take (i := 20) (oi := { dst := some 236, op := Go.Op.call { callee := Go.Callee.builtin Go.Builtin.len, args := #[Go.Operand.tmp 235], argTypes := #[42] }, type := 3, pos := "outright.go:196", after := #[{ on := 19, ground := Go.Ground.data }, { on := 8, ground := Go.Ground.guard }], guard := some (8, true) }) (v := ?v20na) rfl (by kernel_rfl) (by kernel_rfl) (by kernel_rfl) (fun _ _ _ h => h) (Or.inl ⟨by rfl, ?hy20na⟩) hHeld ?rest20na
              case hy20na =>
                intro w hSw
                try dsimp only at hSw
                go_simp
                try with_reducible rfl
              try simp only [Act.put, List.setIfInBounds_toArray, List.set_cons_zero, List.set_cons_succ]
              refine wpAnyH_take (i := 21) (oi := { dst := some 237, op := Go.Op.binOp Go.BinOp.add 3 (Go.Operand.tmp 233) (Go.Operand.tmp 236) 3, type := 3, pos := "outright.go:196", after := #[{ on := 17, ground := Go.Ground.data }, { on := 20, ground := Go.Ground.data }, { on := 8, ground := Go.Ground.guard }], guard := some (8, true) }) (v := ?v21na) rfl (by kernel_rfl) (by kernel_rfl) (by kernel_rfl) (fun _ _ _ h => h) (Or.inl ⟨by rfl, ?hy21na⟩) hHeld ?rest21na
              case hy21na =>
                intro w hSw
                try dsimp only at hSw
                go_simp
                try with_reducible rfl
              try simp only [Act.put, List.setIfInBounds_toArray, List.set_cons_zero, List.set_cons_succ]
              refine wpAnyH_take (i := 22) (oi := { dst := some 238, op := Go.Op.binOp Go.BinOp.eql 3 (Go.Operand.tmp 237) (Go.Operand.const (Go.Value.int Go.IntKind.i64 0)) 3, type := 4, pos := "outright.go:196", after := #[{ on := 21, ground := Go.Ground.data }, { on := 8, ground := Go.Ground.guard }], guard := some (8, true) }) (v := ?v22na) rfl (by kernel_rfl) (by kernel_rfl) (by kernel_rfl) (fun _ _ _ h => h) (Or.inl ⟨by rfl, ?hy22na⟩) hHeld ?rest22na
              case hy22na =>
                intro w hSw
                try dsimp only at hSw
                go_simp
                try with_reducible rfl
              try simp only [Act.put, List.setIfInBounds_toArray, List.set_cons_zero, List.set_cons_succ]
              refine wpAnyH_take (i := 23) (oi := { dst := some 239, op := Go.Op.pick (Go.Operand.tmp 224) (Go.Operand.tmp 238) (Go.Operand.const (Go.Value.bool false)), type := 4, pos := "outright.go:196", after := #[{ on := 8, ground := Go.Ground.data }, { on := 22, ground := Go.Ground.data }], guard := none }) (v := ?v23na) rfl (by kernel_rfl) (by kernel_rfl) (by kernel_rfl) (fun _ _ _ h => h) (Or.inl ⟨by rfl, ?hy23na⟩) hHeld ?rest23na
              case hy23na =>
                intro w hSw
                try dsimp only at hSw
                go_simp
                try with_reducible rfl
              try simp only [Act.put, List.setIfInBounds_toArray, List.set_cons_zero, List.set_cons_succ]
              refine wpAnyH_take (i := 24) (oi := { dst := some 240, op := Go.Op.move (Go.Operand.tmp 239), type := 4, pos := "outright.go:196", after := #[{ on := 23, ground := Go.Ground.data }, { on := 19, ground := Go.Ground.chain }], guard := none }) (v := ?v24na) rfl (by kernel_rfl) (by kernel_rfl) (by kernel_rfl) (fun _ _ _ h => h) (Or.inl ⟨by rfl, ?hy24na⟩) hHeld ?rest24na
              case hy24na =>
                intro w hSw
                try dsimp only at hSw
                go_simp
                try with_reducible rfl
              try simp only [Act.put, List.setIfInBounds_toArray, List.set_cons_zero, List.set_cons_succ]
              refine wpAnyH_take (i := 25) (oi := { dst := some 241, op := Go.Op.move (Go.Operand.tmp 32), type := 4, pos := "outright.go:196", after := #[{ on := 24, ground := Go.Ground.guard }], guard := some (24, true) }) (v := ?v25na) rfl (by kernel_rfl) (by kernel_rfl) (by kernel_rfl) (fun _ _ _ h => h) (Or.inl ⟨by rfl, ?hy25na⟩) hHeld ?rest25na
              case hy25na =>
                intro w hSw
                try dsimp only at hSw
                go_simp
                try with_reducible rfl
              try simp only [Act.put, List.setIfInBounds_toArray, List.set_cons_zero, List.set_cons_succ]
              refine wpAnyH_take (i := 26) (oi := { dst := some 242, op := Go.Op.unOp Go.UnOp.not 4 (Go.Operand.tmp 241), type := 4, pos := "outright.go:196", after := #[{ on := 25, ground := Go.Ground.data }, { on := 24, ground := Go.Ground.guard }], guard := some (24, true) }) (v := ?v26na) rfl (by kernel_rfl) (by kernel_rfl) (by kernel_rfl) (fun _ _ _ h => h) (Or.inl ⟨by rfl, ?hy26na⟩) hHeld ?rest26na
              case hy26na =>
                intro w hSw
                try dsimp only at hSw
                go_simp
                try with_reducible rfl
              try simp only [Act.put, List.setIfInBounds_toArray, List.set_cons_zero, List.set_cons_succ]
              refine wpAnyH_take (i := 27) (oi := { dst := some 243, op := Go.Op.pick (Go.Operand.tmp 240) (Go.Operand.tmp 242) (Go.Operand.const (Go.Value.bool false)), type := 4, pos := "outright.go:196", after := #[{ on := 24, ground := Go.Ground.data }, { on := 26, ground := Go.Ground.data }], guard := none }) (v := ?v27na) rfl (by kernel_rfl) (by kernel_rfl) (by kernel_rfl) (fun _ _ _ h => h) (Or.inl ⟨by rfl, ?hy27na⟩) hHeld ?rest27na
              case hy27na =>
                intro w hSw
                try dsimp only at hSw
                go_simp
                try with_reducible rfl
              try simp only [Act.put, List.setIfInBounds_toArray, List.set_cons_zero, List.set_cons_succ]
              refine wpAnyH_take (i := 28) (oi := { dst := some 244, op := Go.Op.move (Go.Operand.tmp 243), type := 4, pos := "outright.go:196", after := #[{ on := 27, ground := Go.Ground.data }, { on := 24, ground := Go.Ground.chain }], guard := none }) (v := ?v28na) rfl (by kernel_rfl) (by kernel_rfl) (by kernel_rfl) (fun _ _ _ h => h) (Or.inl ⟨by rfl, ?hy28na⟩) hHeld ?rest28na
              case hy28na =>
                intro w hSw
                try dsimp only at hSw
                go_simp
                try with_reducible rfl
              try simp only [Act.put, List.setIfInBounds_toArray, List.set_cons_zero, List.set_cons_succ]
              refine wpAnyH_take (i := 29) (oi := { dst := some 245, op := Go.Op.move (Go.Operand.tmp 34), type := 4, pos := "outright.go:196", after := #[{ on := 28, ground := Go.Ground.guard }], guard := some (28, true) }) (v := ?v29na) rfl (by kernel_rfl) (by kernel_rfl) (by kernel_rfl) (fun _ _ _ h => h) (Or.inl ⟨by rfl, ?hy29na⟩) hHeld ?rest29na
              case hy29na =>
                intro w hSw
                try dsimp only at hSw
                go_simp
                try with_reducible rfl
              try simp only [Act.put, List.setIfInBounds_toArray, List.set_cons_zero, List.set_cons_succ]
              refine wpAnyH_take (i := 30) (oi := { dst := some 246, op := Go.Op.unOp Go.UnOp.not 4 (Go.Operand.tmp 245), type := 4, pos := "outright.go:196", after := #[{ on := 29, ground := Go.Ground.data }, { on := 28, ground := Go.Ground.guard }], guard := some (28, true) }) (v := ?v30na) rfl (by kernel_rfl) (by kernel_rfl) (by kernel_rfl) (fun _ _ _ h => h) (Or.inl ⟨by rfl, ?hy30na⟩) hHeld ?rest30na
              case hy30na =>
                intro w hSw
                try dsimp only at hSw
                go_simp
                try with_reducible rfl
              try simp only [Act.put, List.setIfInBounds_toArray, List.set_cons_zero, List.set_cons_succ]
              refine wpAnyH_take (i := 31) (oi := { dst := some 247, op := Go.Op.pick (Go.Operand.tmp 244) (Go.Operand.tmp 246) (Go.Operand.const (Go.Value.bool false)), type := 4, pos := "outright.go:196", after := #[{ on := 28, ground := Go.Ground.data }, { on := 30, ground := Go.Ground.data }], guard := none }) (v := ?v31na) rfl (by kernel_rfl) (by kernel_rfl) (by kernel_rfl) (fun _ _ _ h => h) (Or.inl ⟨by rfl, ?hy31na⟩) hHeld ?rest31na
              case hy31na =>
                intro w hSw
                try dsimp only at hSw
                go_simp
                try with_reducible rfl
              try simp only [Act.put, List.setIfInBounds_toArray, List.set_cons_zero, List.set_cons_succ]
              refine wpAnyH_take (i := 32) (oi := { dst := some 248, op := Go.Op.move (Go.Operand.tmp 247), type := 4, pos := "outright.go:196", after := #[{ on := 31, ground := Go.Ground.data }, { on := 28, ground := Go.Ground.chain }], guard := none }) (v := ?v32na) rfl (by kernel_rfl) (by kernel_rfl) (by kernel_rfl) (fun _ _ _ h => h) (Or.inl ⟨by rfl, ?hy32na⟩) hHeld ?rest32na
              case hy32na =>
                intro w hSw
                try dsimp only at hSw
                go_simp
                try with_reducible rfl
              try simp only [Act.put, List.setIfInBounds_toArray, List.set_cons_zero, List.set_cons_succ]
              refine wpAnyH_take (i := 33) (oi := { dst := some 249, op := Go.Op.move (Go.Operand.tmp 36), type := 4, pos := "outright.go:196", after := #[{ on := 32, ground := Go.Ground.guard }], guard := some (32, true) }) (v := ?v33na) rfl (by kernel_rfl) (by kernel_rfl) (by kernel_rfl) (fun _ _ _ h => h) (Or.inl ⟨by rfl, ?hy33na⟩) hHeld ?rest33na
              case hy33na =>
                intro w hSw
                try dsimp only at hSw
                go_simp
                try with_reducible rfl
              try simp only [Act.put, List.setIfInBounds_toArray, List.set_cons_zero, List.set_cons_succ]
              refine wpAnyH_take (i := 34) (oi := { dst := some 250, op := Go.Op.unOp Go.UnOp.not 4 (Go.Operand.tmp 249), type := 4, pos := "outright.go:196", after := #[{ on := 33, ground := Go.Ground.data }, { on := 32, ground := Go.Ground.guard }], guard := some (32, true) }) (v := ?v34na) rfl (by kernel_rfl) (by kernel_rfl) (by kernel_rfl) (fun _ _ _ h => h) (Or.inl ⟨by rfl, ?hy34na⟩) hHeld ?rest34na
              case hy34na =>
                intro w hSw
                try dsimp only at hSw
                go_simp
                try with_reducible rfl
              try simp only [Act.put, List.setIfInBounds_toArray, List.set_cons_zero, List.set_cons_succ]
              refine wpAnyH_take (i := 35) (oi := { dst := some 251, op := Go.Op.pick (Go.Operand.tmp 248) (Go.Operand.tmp 250) (Go.Operand.const (Go.Value.bool false)), type := 4, pos := "outright.go:196", after := #[{ on := 32, ground := Go.Ground.data }, { on := 34, ground := Go.Ground.data }], guard := none }) (v := ?v35na) rfl (by kernel_rfl) (by kernel_rfl) (by kernel_rfl) (fun _ _ _ h => h) (Or.inl ⟨by rfl, ?hy35na⟩) hHeld ?rest35na
              case hy35na =>
                intro w hSw
                try dsimp only at hSw
                go_simp
                try with_reducible rfl
              try simp only [Act.put, List.setIfInBounds_toArray, List.set_cons_zero, List.set_cons_succ]
              refine wpAnyH_take (i := 36) (oi := { dst := some 252, op := Go.Op.move (Go.Operand.tmp 251), type := 4, pos := "outright.go:196", after := #[{ on := 35, ground := Go.Ground.data }, { on := 32, ground := Go.Ground.chain }], guard := none }) (v := ?v36na) rfl (by kernel_rfl) (by kernel_rfl) (by kernel_rfl) (fun _ _ _ h => h) (Or.inl ⟨by rfl, ?hy36na⟩) hHeld ?rest36na
              case hy36na =>
                intro w hSw
                try dsimp only at hSw
                go_simp
                try with_reducible rfl
              try simp only [Act.put, List.setIfInBounds_toArray, List.set_cons_zero, List.set_cons_succ]
              refine wpAnyH_take (i := 37) (oi := { dst := some 253, op := Go.Op.move (Go.Operand.tmp 38), type := 35, pos := "outright.go:196", after := #[{ on := 36, ground := Go.Ground.guard }], guard := some (36, true) }) (v := ?v37na) rfl (by kernel_rfl) (by kernel_rfl) (by kernel_rfl) (fun _ _ _ h => h) (Or.inl ⟨by rfl, ?hy37na⟩) hHeld ?rest37na
              case hy37na =>
                intro w hSw
                try dsimp only at hSw
                go_simp
                try with_reducible rfl
              try simp only [Act.put, List.setIfInBounds_toArray, List.set_cons_zero, List.set_cons_succ]
              refine wpAnyH_take (i := 38) (oi := { dst := some 254, op := Go.Op.binOp Go.BinOp.eql 35 (Go.Operand.tmp 253) (Go.Operand.const (Go.Value.int Go.IntKind.i64 2)) 35, type := 4, pos := "outright.go:196", after := #[{ on := 37, ground := Go.Ground.data }, { on := 36, ground := Go.Ground.guard }], guard := some (36, true) }) (v := ?v38na) rfl (by kernel_rfl) (by kernel_rfl) (by kernel_rfl) (fun _ _ _ h => h) (Or.inl ⟨by rfl, ?hy38na⟩) hHeld ?rest38na
              case hy38na =>
                intro w hSw
                try dsimp only at hSw
                go_simp
                try with_reducible rfl
              try simp only [Act.put, List.setIfInBounds_toArray, List.set_cons_zero, List.set_cons_succ]
              refine wpAnyH_take (i := 39) (oi := { dst := some 255, op := Go.Op.fieldAddr 24 (Go.Operand.tmp 18) 0, type := 0, pos := "outright.go:196", after := #[{ on := 36, ground := Go.Ground.guard }], guard := some (36, true) }) (v := ?v39na) rfl (by kernel_rfl) (by kernel_rfl) (by kernel_rfl) (fun _ _ _ h => h) (Or.inl ⟨by rfl, ?hy39na⟩) hHeld ?rest39na
              case hy39na =>
                intro w hSw
                try dsimp only at hSw
                go_simp
                try with_reducible rfl
              try simp only [Act.put, List.setIfInBounds_toArray, List.set_cons_zero, List.set_cons_succ]
              refine wpAnyH_take (i := 40) (oi := { dst := some 256, op := Go.Op.load 3 (Go.Operand.tmp 255), type := 3, pos := "outright.go:196", after := #[{ on := 39, ground := Go.Ground.data }, { on := 36, ground := Go.Ground.guard }], guard := some (36, true) }) (v := ?v40na) rfl (by kernel_rfl) (by kernel_rfl) (by kernel_rfl) (fun _ _ _ h => h) (Or.inl ⟨by rfl, ?hy40na⟩) hHeld ?rest40na
              case hy40na =>
                intro w hSw
                try dsimp only at hSw
                go_simp
                try with_reducible rfl
              try simp only [Act.put, List.setIfInBounds_toArray, List.set_cons_zero, List.set_cons_succ]
              refine wpAnyH_take (i := 41) (oi := { dst := some 257, op := Go.Op.binOp Go.BinOp.lss 3 (Go.Operand.tmp 256) (Go.Operand.const (Go.Value.int Go.IntKind.i64 0)) 3, type := 4, pos := "outright.go:196", after := #[{ on := 40, ground := Go.Ground.data }, { on := 36, ground := Go.Ground.guard }], guard := some (36, true) }) (v := ?v41na) rfl (by kernel_rfl) (by kernel_rfl) (by kernel_rfl) (fun _ _ _ h => h) (Or.inl ⟨by rfl, ?hy41na⟩) hHeld ?rest41na
              case hy41na =>
                intro w hSw
                try dsimp only at hSw
                go_simp
                try with_reducible rfl
              try simp only [Act.put, List.setIfInBounds_toArray, List.set_cons_zero, List.set_cons_succ]
              refine wpAnyH_take (i := 42) (oi := { dst := some 258, op := Go.Op.move (Go.Operand.tmp 257), type := 4, pos := "outright.go:196", after := #[{ on := 41, ground := Go.Ground.data }, { on := 36, ground := Go.Ground.chain }, { on := 36, ground := Go.Ground.guard }], guard := some (36, true) }) (v := ?v42na) rfl (by kernel_rfl) (by kernel_rfl) (by kernel_rfl) (fun _ _ _ h => h) (Or.inl ⟨by rfl, ?hy42na⟩) hHeld ?rest42na
              case hy42na =>
                intro w hSw
                try dsimp only at hSw
                go_simp
                try with_reducible rfl
              try simp only [Act.put, List.setIfInBounds_toArray, List.set_cons_zero, List.set_cons_succ]
              refine wpAnyH_take (i := 43) (oi := { dst := some 259, op := Go.Op.fieldAddr 24 (Go.Operand.tmp 18) 0, type := 0, pos := "outright.go:196", after := #[{ on := 42, ground := Go.Ground.guard }], guard := some (42, false) }) (v := undef) rfl (by kernel_rfl) (by kernel_rfl) (by kernel_rfl) (fun _ _ _ h => h) (Or.inr ⟨by rfl, rfl⟩) hHeld ?_
              try simp only [Act.put, List.setIfInBounds_toArray, List.set_cons_zero, List.set_cons_succ]
              refine wpAnyH_take (i := 44) (oi := { dst := some 260, op := Go.Op.load 3 (Go.Operand.tmp 259), type := 3, pos := "outright.go:196", after := #[{ on := 43, ground := Go.Ground.data }, { on := 42, ground := Go.Ground.guard }], guard := some (42, false) }) (v := undef) rfl (by kernel_rfl) (by kernel_rfl) (by kernel_rfl) (fun _ _ _ h => h) (Or.inr ⟨by rfl, rfl⟩) hHeld ?_
              try simp only [Act.put, List.setIfInBounds_toArray, List.set_cons_zero, List.set_cons_succ]
              refine wpAnyH_take (i := 45) (oi := { dst := some 261, op := Go.Op.binOp Go.BinOp.gtr 3 (Go.Operand.tmp 260) (Go.Operand.const (Go.Value.int Go.IntKind.i64 65536)) 3, type := 4, pos := "outright.go:196", after := #[{ on := 44, ground := Go.Ground.data }, { on := 42, ground := Go.Ground.guard }], guard := some (42, false) }) (v := undef) rfl (by kernel_rfl) (by kernel_rfl) (by kernel_rfl) (fun _ _ _ h => h) (Or.inr ⟨by rfl, rfl⟩) hHeld ?_
              try simp only [Act.put, List.setIfInBounds_toArray, List.set_cons_zero, List.set_cons_succ]
              refine wpAnyH_take (i := 46) (oi := { dst := some 262, op := Go.Op.pick (Go.Operand.tmp 258) (Go.Operand.const (Go.Value.bool true)) (Go.Operand.tmp 261), type := 4, pos := "outright.go:196", after := #[{ on := 42, ground := Go.Ground.data }, { on := 45, ground := Go.Ground.data }, { on := 36, ground := Go.Ground.guard }], guard := some (36, true) }) (v := ?v46na) rfl (by kernel_rfl) (by kernel_rfl) (by kernel_rfl) (fun _ _ _ h => h) (Or.inl ⟨by rfl, ?hy46na⟩) hHeld ?rest46na
              case hy46na =>
                intro w hSw
                try dsimp only at hSw
                go_simp
                try with_reducible rfl
              try simp only [Act.put, List.setIfInBounds_toArray, List.set_cons_zero, List.set_cons_succ]
              refine wpAnyH_take (i := 47) (oi := { dst := some 263, op := Go.Op.binOp Go.BinOp.eql 4 (Go.Operand.tmp 254) (Go.Operand.tmp 262) 4, type := 4, pos := "outright.go:196", after := #[{ on := 38, ground := Go.Ground.data }, { on := 46, ground := Go.Ground.data }, { on := 36, ground := Go.Ground.guard }], guard := some (36, true) }) (v := ?v47na) rfl (by kernel_rfl) (by kernel_rfl) (by kernel_rfl) (fun _ _ _ h => h) (Or.inl ⟨by rfl, ?hy47na⟩) hHeld ?rest47na
              case hy47na =>
                intro w hSw
                try dsimp only at hSw
                go_simp
                try with_reducible rfl
              try simp only [Act.put, List.setIfInBounds_toArray, List.set_cons_zero, List.set_cons_succ]
              refine wpAnyH_take (i := 48) (oi := { dst := some 264, op := Go.Op.pick (Go.Operand.tmp 252) (Go.Operand.tmp 263) (Go.Operand.const (Go.Value.bool false)), type := 4, pos := "outright.go:196", after := #[{ on := 36, ground := Go.Ground.data }, { on := 47, ground := Go.Ground.data }], guard := none }) (v := ?v48na) rfl (by kernel_rfl) (by kernel_rfl) (by kernel_rfl) (fun _ _ _ h => h) (Or.inl ⟨by rfl, ?hy48na⟩) hHeld ?rest48na
              case hy48na =>
                intro w hSw
                try dsimp only at hSw
                go_simp
                try with_reducible rfl
              try simp only [Act.put, List.setIfInBounds_toArray, List.set_cons_zero, List.set_cons_succ]
              refine wpAnyH_take (i := 49) (oi := { dst := some 8, op := Go.Op.assign (Go.Operand.tmp 264), type := 4, pos := "outright.go:196", after := #[{ on := 48, ground := Go.Ground.data }, { on := 42, ground := Go.Ground.chain }, { on := 0, ground := Go.Ground.phase }, { on := 1, ground := Go.Ground.phase }, { on := 2, ground := Go.Ground.phase }, { on := 3, ground := Go.Ground.phase }, { on := 4, ground := Go.Ground.phase }, { on := 5, ground := Go.Ground.phase }, { on := 6, ground := Go.Ground.phase }, { on := 7, ground := Go.Ground.phase }, { on := 8, ground := Go.Ground.phase }, { on := 9, ground := Go.Ground.phase }, { on := 10, ground := Go.Ground.phase }, { on := 11, ground := Go.Ground.phase }, { on := 12, ground := Go.Ground.phase }, { on := 13, ground := Go.Ground.phase }, { on := 14, ground := Go.Ground.phase }, { on := 15, ground := Go.Ground.phase }, { on := 16, ground := Go.Ground.phase }, { on := 17, ground := Go.Ground.phase }, { on := 18, ground := Go.Ground.phase }, { on := 19, ground := Go.Ground.phase }, { on := 20, ground := Go.Ground.phase }, { on := 21, ground := Go.Ground.phase }, { on := 22, ground := Go.Ground.phase }, { on := 23, ground := Go.Ground.phase }, { on := 24, ground := Go.Ground.phase }, { on := 25, ground := Go.Ground.phase }, { on := 26, ground := Go.Ground.phase }, { on := 27, ground := Go.Ground.phase }, { on := 28, ground := Go.Ground.phase }, { on := 29, ground := Go.Ground.phase }, { on := 30, ground := Go.Ground.phase }, { on := 31, ground := Go.Ground.phase }, { on := 32, ground := Go.Ground.phase }, { on := 33, ground := Go.Ground.phase }, { on := 34, ground := Go.Ground.phase }, { on := 35, ground := Go.Ground.phase }, { on := 36, ground := Go.Ground.phase }, { on := 37, ground := Go.Ground.phase }, { on := 38, ground := Go.Ground.phase }, { on := 39, ground := Go.Ground.phase }, { on := 40, ground := Go.Ground.phase }, { on := 41, ground := Go.Ground.phase }, { on := 42, ground := Go.Ground.phase }, { on := 43, ground := Go.Ground.phase }, { on := 44, ground := Go.Ground.phase }, { on := 45, ground := Go.Ground.phase }, { on := 46, ground := Go.Ground.phase }, { on := 47, ground := Go.Ground.phase }, { on := 48, ground := Go.Ground.phase }], guard := none }) (v := ?v49na) rfl (by kernel_rfl) (by kernel_rfl) (by kernel_rfl) (fun _ _ _ h => h) (Or.inl ⟨by rfl, ?hy49na⟩) hHeld ?rest49na
              case hy49na =>
                intro w hSw
                try dsimp only at hSw
                go_simp
                try with_reducible rfl
              try simp only [Act.put, List.setIfInBounds_toArray, List.set_cons_zero, List.set_cons_succ]
              refine wpAnyH_done (by kernel_rfl) ?_ _
              refine NoPanic.normal ?_
              go_wp2_with fail
              go_ret
              exact ⟨rfl, h6.1⟩
            · have hlo : decide (N' < 0) = false := decide_eq_false hneg
              obtain ⟨bb1, hbb1⟩ : ∃ q, q = decide (65536 < N') := ⟨_, rfl⟩
              have hhi : decide (65536 < N') = bb1 := hbb1.symm
              have hE2 : (E == 2) = bb1 := by rw [HE.out, hlo, hhi]; rfl
              clear hbb1
              refine wp_region_noPanic ?_
              refine wp_region_held_drew (S := fun W => Below w.heap.size w W ∧ BadS W tb N' g' n' c' R' ∧ W.cell? ⟨tb, 0, none⟩ = some (.int .i64 N') ∧ W.cell? ⟨tb, 1, none⟩ = some (.slice g' n' c')) (by kernel_rfl) (h0) (fun hHeld => ?_)
              refine wpAnyH_take (i := 0) (oi := { dst := some 216, op := Go.Op.load 24 (Go.Operand.tmp 18), type := 24, pos := "outright.go:196", after := #[], guard := none }) (v := ?v0nb) rfl (by kernel_rfl) (by kernel_rfl) (by kernel_rfl) (fun _ _ _ h => h) (Or.inl ⟨by rfl, ?hy0nb⟩) hHeld ?rest0nb
              case hy0nb =>
                intro w hSw
                try dsimp only at hSw
                go_simp
                try with_reducible rfl
              try simp only [Act.put, List.setIfInBounds_toArray, List.set_cons_zero, List.set_cons_succ]
              refine wpAnyH_ready (rs := [1]) (by kernel_rfl) (by simp) ?_
              refine AllReadyH.cons (o := { dst := some 217, op := Go.Op.call { callee := Go.Callee.value (Go.Operand.func 34), args := #[Go.Operand.tmp 216], argTypes := #[24] }, type := 4, pos := "outright.go:196", after := #[{ on := 0, ground := Go.Ground.data }], guard := none }) rfl (fun K hK => ?_) AllReadyH.nil
              go_simp
              refine (bad_right' h0.2.1.set h0.2.1.bad).mono ?_
              rintro e v1 ⟨rfl, hD1⟩
              have h1 : Below w.heap.size w v1 ∧ BadS v1 tb N' g' n' c' R' ∧ v1.cell? ⟨tb, 0, none⟩ = some (.int .i64 N') ∧ v1.cell? ⟨tb, 1, none⟩ = some (.slice g' n' c') := ⟨bstep h0.1 hD1, h0.2.1.step hD1, (h0.2.1.step hD1).two.c0, (h0.2.1.step hD1).two.c1⟩
              go_wp2_with fail
              refine hK.out _ _ (h1) (fun hHeld => ?_)
              clear hK K
              try simp only [Act.put, List.setIfInBounds_toArray, List.set_cons_zero, List.set_cons_succ]
              refine wpAnyH_take (i := 2) (oi := { dst := some 218, op := Go.Op.unOp Go.UnOp.not 4 (Go.Operand.tmp 217), type := 4, pos := "outright.go:196", after := #[{ on := 1, ground := Go.Ground.data }], guard := none }) (v := ?v2nb) rfl (by kernel_rfl) (by kernel_rfl) (by kernel_rfl) (fun _ _ _ h => h) (Or.inl ⟨by rfl, ?hy2nb⟩) hHeld ?rest2nb
              case hy2nb =>
                intro w hSw
                try dsimp only at hSw
                go_simp
                try with_reducible rfl
              try simp only [Act.put, List.setIfInBounds_toArray, List.set_cons_zero, List.set_cons_succ]
              refine wpAnyH_take (i := 3) (oi := { dst := some 219, op := Go.Op.move (Go.Operand.tmp 218), type := 4, pos := "outright.go:196", after := #[{ on := 2, ground := Go.Ground.data }, { on := 1, ground := Go.Ground.chain }], guard := none }) (v := ?v3nb) rfl (by kernel_rfl) (by kernel_rfl) (by kernel_rfl) (fun _ _ _ h => h) (Or.inl ⟨by rfl, ?hy3nb⟩) hHeld ?rest3nb
              case hy3nb =>
                intro w hSw
                try dsimp only at hSw
                go_simp
                try with_reducible rfl
              try simp only [Act.put, List.setIfInBounds_toArray, List.set_cons_zero, List.set_cons_succ]
              refine wpAnyH_take (i := 4) (oi := { dst := some 220, op := Go.Op.load 24 (Go.Operand.tmp 18), type := 24, pos := "outright.go:196", after := #[{ on := 3, ground := Go.Ground.guard }], guard := some (3, true) }) (v := ?v4nb) rfl (by kernel_rfl) (by kernel_rfl) (by kernel_rfl) (fun _ _ _ h => h) (Or.inl ⟨by rfl, ?hy4nb⟩) hHeld ?rest4nb
              case hy4nb =>
                intro w hSw
                try dsimp only at hSw
                go_simp
                try with_reducible rfl
              try simp only [Act.put, List.setIfInBounds_toArray, List.set_cons_zero, List.set_cons_succ]
              refine wpAnyH_ready (rs := [5]) (by kernel_rfl) (by simp) ?_
              refine AllReadyH.cons (o := { dst := some 221, op := Go.Op.call { callee := Go.Callee.value (Go.Operand.func 28), args := #[Go.Operand.tmp 220, Go.Operand.const (Go.Value.int Go.IntKind.i64 0)], argTypes := #[24, 3] }, type := 4, pos := "outright.go:196", after := #[{ on := 4, ground := Go.Ground.data }, { on := 3, ground := Go.Ground.chain }, { on := 3, ground := Go.Ground.guard }], guard := some (3, true) }) rfl (fun K hK => ?_) AllReadyH.nil
              go_simp
              refine (bad_has h1.2.1.set h1.2.1.bad 0 (by omega) (by omega)).mono ?_
              rintro e v2 ⟨rfl, hD2⟩
              have h2 : Below w.heap.size w v2 ∧ BadS v2 tb N' g' n' c' R' ∧ v2.cell? ⟨tb, 0, none⟩ = some (.int .i64 N') ∧ v2.cell? ⟨tb, 1, none⟩ = some (.slice g' n' c') := ⟨bstep h1.1 hD2, h1.2.1.step hD2, (h1.2.1.step hD2).two.c0, (h1.2.1.step hD2).two.c1⟩
              go_wp2_with fail
              refine hK.out _ _ (h2) (fun hHeld => ?_)
              clear hK K
              try simp only [Act.put, List.setIfInBounds_toArray, List.set_cons_zero, List.set_cons_succ]
              refine wpAnyH_take (i := 6) (oi := { dst := some 222, op := Go.Op.unOp Go.UnOp.not 4 (Go.Operand.tmp 221), type := 4, pos := "outright.go:196", after := #[{ on := 5, ground := Go.Ground.data }, { on := 3, ground := Go.Ground.guard }], guard := some (3, true) }) (v := ?v6nb) rfl (by kernel_rfl) (by kernel_rfl) (by kernel_rfl) (fun _ _ _ h => h) (Or.inl ⟨by rfl, ?hy6nb⟩) hHeld ?rest6nb
              case hy6nb =>
                intro w hSw
                try dsimp only at hSw
                go_simp
                try with_reducible rfl
              try simp only [Act.put, List.setIfInBounds_toArray, List.set_cons_zero, List.set_cons_succ]
              refine wpAnyH_take (i := 7) (oi := { dst := some 223, op := Go.Op.pick (Go.Operand.tmp 219) (Go.Operand.tmp 222) (Go.Operand.const (Go.Value.bool false)), type := 4, pos := "outright.go:196", after := #[{ on := 3, ground := Go.Ground.data }, { on := 6, ground := Go.Ground.data }], guard := none }) (v := ?v7nb) rfl (by kernel_rfl) (by kernel_rfl) (by kernel_rfl) (fun _ _ _ h => h) (Or.inl ⟨by rfl, ?hy7nb⟩) hHeld ?rest7nb
              case hy7nb =>
                intro w hSw
                try dsimp only at hSw
                go_simp
                try with_reducible rfl
              try simp only [Act.put, List.setIfInBounds_toArray, List.set_cons_zero, List.set_cons_succ]
              refine wpAnyH_take (i := 8) (oi := { dst := some 224, op := Go.Op.move (Go.Operand.tmp 223), type := 4, pos := "outright.go:196", after := #[{ on := 7, ground := Go.Ground.data }, { on := 5, ground := Go.Ground.chain }], guard := none }) (v := ?v8nb) rfl (by kernel_rfl) (by kernel_rfl) (by kernel_rfl) (fun _ _ _ h => h) (Or.inl ⟨by rfl, ?hy8nb⟩) hHeld ?rest8nb
              case hy8nb =>
                intro w hSw
                try dsimp only at hSw
                go_simp
                try with_reducible rfl
              try simp only [Act.put, List.setIfInBounds_toArray, List.set_cons_zero, List.set_cons_succ]
              refine wpAnyH_take (i := 9) (oi := { dst := some 225, op := Go.Op.load 24 (Go.Operand.tmp 18), type := 24, pos := "outright.go:196", after := #[{ on := 8, ground := Go.Ground.guard }], guard := some (8, true) }) (v := ?v9nb) rfl (by kernel_rfl) (by kernel_rfl) (by kernel_rfl) (fun _ _ _ h => h) (Or.inl ⟨by rfl, ?hy9nb⟩) hHeld ?rest9nb
              case hy9nb =>
                intro w hSw
                try dsimp only at hSw
                go_simp
                try with_reducible rfl
              try simp only [Act.put, List.setIfInBounds_toArray, List.set_cons_zero, List.set_cons_succ]
              refine wpAnyH_take (i := 11) (oi := { dst := some 227, op := Go.Op.load 24 (Go.Operand.tmp 18), type := 24, pos := "outright.go:196", after := #[{ on := 8, ground := Go.Ground.guard }], guard := some (8, true) }) (v := ?v11nb) rfl (by kernel_rfl) (by kernel_rfl) (by kernel_rfl) (fun _ _ _ h => h) (Or.inl ⟨by rfl, ?hy11nb⟩) hHeld ?rest11nb
              case hy11nb =>
                intro w hSw
                try dsimp only at hSw
                go_simp
                try with_reducible rfl
              try simp only [Act.put, List.setIfInBounds_toArray, List.set_cons_zero, List.set_cons_succ]
              refine wpAnyH_take (i := 14) (oi := { dst := some 230, op := Go.Op.load 24 (Go.Operand.tmp 18), type := 24, pos := "outright.go:196", after := #[{ on := 8, ground := Go.Ground.guard }], guard := some (8, true) }) (v := ?v14nb) rfl (by kernel_rfl) (by kernel_rfl) (by kernel_rfl) (fun _ _ _ h => h) (Or.inl ⟨by rfl, ?hy14nb⟩) hHeld ?rest14nb
              case hy14nb =>
                intro w hSw
                try dsimp only at hSw
                go_simp
                try with_reducible rfl
              try simp only [Act.put, List.setIfInBounds_toArray, List.set_cons_zero, List.set_cons_succ]
              refine wpAnyH_take (i := 18) (oi := { dst := some 234, op := Go.Op.load 24 (Go.Operand.tmp 18), type := 24, pos := "outright.go:196", after := #[{ on := 8, ground := Go.Ground.guard }], guard := some (8, true) }) (v := ?v18nb) rfl (by kernel_rfl) (by kernel_rfl) (by kernel_rfl) (fun _ _ _ h => h) (Or.inl ⟨by rfl, ?hy18nb⟩) hHeld ?rest18nb
              case hy18nb =>
                intro w hSw
                try dsimp only at hSw
                go_simp
                try with_reducible rfl
              try simp only [Act.put, List.setIfInBounds_toArray, List.set_cons_zero, List.set_cons_succ]
              refine wpAnyH_ready (rs := [10]) (by kernel_rfl) (by simp) ?_
              refine AllReadyH.cons (o := { dst := some 226, op := Go.Op.call { callee := Go.Callee.value (Go.Operand.func 21), args := #[Go.Operand.tmp 225], argTypes := #[24] }, type := 3, pos := "outright.go:196", after := #[{ on := 9, ground := Go.Ground.data }, { on := 8, ground := Go.Ground.chain }, { on := 8, ground := Go.Ground.guard }], guard := some (8, true) }) rfl (fun K hK => ?_) AllReadyH.nil
              go_simp
              refine (bad_count h2.2.1.set h2.2.1.bad).mono ?_
              rintro e v3 ⟨rfl, hD3⟩
              have h3 : Below w.heap.size w v3 ∧ BadS v3 tb N' g' n' c' R' ∧ v3.cell? ⟨tb, 0, none⟩ = some (.int .i64 N') ∧ v3.cell? ⟨tb, 1, none⟩ = some (.slice g' n' c') := ⟨bstep h2.1 hD3, h2.2.1.step hD3, (h2.2.1.step hD3).two.c0, (h2.2.1.step hD3).two.c1⟩
              go_wp2_with fail
              refine hK.out _ _ (h3) (fun hHeld => ?_)
              clear hK K
              try simp only [Act.put, List.setIfInBounds_toArray, List.set_cons_zero, List.set_cons_succ]
              refine wpAnyH_ready (rs := [12]) (by kernel_rfl) (by simp) ?_
              refine AllReadyH.cons (o := { dst := some 228, op := Go.Op.call { callee := Go.Callee.value (Go.Operand.func 25), args := #[Go.Operand.tmp 227, Go.Operand.const (Go.Value.int Go.IntKind.i64 5)], argTypes := #[24, 3] }, type := 3, pos := "outright.go:196", after := #[{ on := 11, ground := Go.Ground.data }, { on := 10, ground := Go.Ground.chain }, { on := 8, ground := Go.Ground.guard }], guard := some (8, true) }) rfl (fun K hK => ?_) AllReadyH.nil
              go_simp
              refine (bad_rank h3.2.1.set h3.2.1.bad 5 (by omega) (by omega)).mono ?_
              rintro e v4 ⟨rfl, hD4⟩
              have h4 : Below w.heap.size w v4 ∧ BadS v4 tb N' g' n' c' R' ∧ v4.cell? ⟨tb, 0, none⟩ = some (.int .i64 N') ∧ v4.cell? ⟨tb, 1, none⟩ = some (.slice g' n' c') := ⟨bstep h3.1 hD4, h3.2.1.step hD4, (h3.2.1.step hD4).two.c0, (h3.2.1.step hD4).two.c1⟩
              go_wp2_with fail
              refine hK.out _ _ (h4) (fun hHeld => ?_)
              clear hK K
              try simp only [Act.put, List.setIfInBounds_toArray, List.set_cons_zero, List.set_cons_succ]
              refine wpAnyH_take (i := 13) (oi := { dst := some 229, op := Go.Op.binOp Go.BinOp.add 3 (Go.Operand.tmp 226) (Go.Operand.tmp 228) 3, type := 3, pos := "outright.go:196", after := #[{ on := 10, ground := Go.Ground.data }, { on := 12, ground := Go.Ground.data }, { on := 8, ground := Go.Ground.guard }], guard := some (8, true) }) (v := ?v13nb) rfl (by kernel_rfl) (by kernel_rfl) (by kernel_rfl) (fun _ _ _ h => h) (Or.inl ⟨by rfl, ?hy13nb⟩) hHeld ?rest13nb
              case hy13nb =>
                intro w hSw
                try dsimp only at hSw
                go_simp
                try with_reducible rfl
              try simp only [Act.put, List.setIfInBounds_toArray, List.set_cons_zero, List.set_cons_succ]
              refine wpAnyH_ready (rs := [15]) (by kernel_rfl) (by simp) ?_
              refine AllReadyH.cons (o := { dst := some 231, op := Go.Op.call { callee := Go.Callee.value (Go.Operand.func 24), args := #[Go.Operand.tmp 230], argTypes := #[24] }, type := 27, pos := "outright.go:196", after := #[{ on := 14, ground := Go.Ground.data }, { on := 12, ground := Go.Ground.chain }, { on := 8, ground := Go.Ground.guard }], guard := some (8, true) }) rfl (fun K hK => ?_) AllReadyH.nil
              go_simp
              refine (bad_members h4.2.1.set h4.2.1.bad).mono ?_
              rintro e v5 ⟨ba, ka1, rfl, hD5⟩
              have h5 : Below w.heap.size w v5 ∧ BadS v5 tb N' g' n' c' R' ∧ v5.cell? ⟨tb, 0, none⟩ = some (.int .i64 N') ∧ v5.cell? ⟨tb, 1, none⟩ = some (.slice g' n' c') := ⟨bstep h4.1 hD5, h4.2.1.step hD5, (h4.2.1.step hD5).two.c0, (h4.2.1.step hD5).two.c1⟩
              go_wp2_with fail
              refine hK.out _ _ (h5) (fun hHeld => ?_)
              clear hK K
              try simp only [Act.put, List.setIfInBounds_toArray, List.set_cons_zero, List.set_cons_succ]
              refine wpAnyH_take (i := 16) (oi := { dst := some 232, op := Go.Op.call { callee := Go.Callee.builtin Go.Builtin.len, args := #[Go.Operand.tmp 231], argTypes := #[27] }, type := 3, pos := "outright.go:196", after := #[{ on := 15, ground := Go.Ground.data }, { on := 8, ground := Go.Ground.guard }], guard := some (8, true) }) (v := ?v16nb) rfl (by kernel_rfl) (by kernel_rfl) (by kernel_rfl) (fun _ _ _ h => h) (Or.inl ⟨by rfl, ?hy16nb⟩) hHeld ?rest16nb
              case hy16nb =>
                intro w hSw
                try dsimp only at hSw
                go_simp
                try with_reducible rfl
              try simp only [Act.put, List.setIfInBounds_toArray, List.set_cons_zero, List.set_cons_succ]
              refine wpAnyH_take (i := 17) (oi := { dst := some 233, op := Go.Op.binOp Go.BinOp.add 3 (Go.Operand.tmp 229) (Go.Operand.tmp 232) 3, type := 3, pos := "outright.go:196", after := #[{ on := 13, ground := Go.Ground.data }, { on := 16, ground := Go.Ground.data }, { on := 8, ground := Go.Ground.guard }], guard := some (8, true) }) (v := ?v17nb) rfl (by kernel_rfl) (by kernel_rfl) (by kernel_rfl) (fun _ _ _ h => h) (Or.inl ⟨by rfl, ?hy17nb⟩) hHeld ?rest17nb
              case hy17nb =>
                intro w hSw
                try dsimp only at hSw
                go_simp
                try with_reducible rfl
              try simp only [Act.put, List.setIfInBounds_toArray, List.set_cons_zero, List.set_cons_succ]
              refine wpAnyH_ready (rs := [19]) (by kernel_rfl) (by simp) ?_
              refine AllReadyH.cons (o := { dst := some 235, op := Go.Op.call { callee := Go.Callee.value (Go.Operand.func 22), args := #[Go.Operand.tmp 234], argTypes := #[24] }, type := 42, pos := "outright.go:196", after := #[{ on := 18, ground := Go.Ground.data }, { on := 15, ground := Go.Ground.chain }, { on := 8, ground := Go.Ground.guard }], guard := some (8, true) }) rfl (fun K hK => ?_) AllReadyH.nil
              go_simp
              refine (bad_runs h5.2.1.set h5.2.1.bad).mono ?_
              rintro e v6 ⟨bb, kb1, rfl, hD6⟩
              have h6 : Below w.heap.size w v6 ∧ BadS v6 tb N' g' n' c' R' ∧ v6.cell? ⟨tb, 0, none⟩ = some (.int .i64 N') ∧ v6.cell? ⟨tb, 1, none⟩ = some (.slice g' n' c') := ⟨bstep h5.1 hD6, h5.2.1.step hD6, (h5.2.1.step hD6).two.c0, (h5.2.1.step hD6).two.c1⟩
              go_wp2_with fail
              refine hK.out _ _ (h6) (fun hHeld => ?_)
              clear hK K
              try simp only [Act.put, List.setIfInBounds_toArray, List.set_cons_zero, List.set_cons_succ]
              refine wpAnyH_take (i := 20) (oi := { dst := some 236, op := Go.Op.call { callee := Go.Callee.builtin Go.Builtin.len, args := #[Go.Operand.tmp 235], argTypes := #[42] }, type := 3, pos := "outright.go:196", after := #[{ on := 19, ground := Go.Ground.data }, { on := 8, ground := Go.Ground.guard }], guard := some (8, true) }) (v := ?v20nb) rfl (by kernel_rfl) (by kernel_rfl) (by kernel_rfl) (fun _ _ _ h => h) (Or.inl ⟨by rfl, ?hy20nb⟩) hHeld ?rest20nb
              case hy20nb =>
                intro w hSw
                try dsimp only at hSw
                go_simp
                try with_reducible rfl
              try simp only [Act.put, List.setIfInBounds_toArray, List.set_cons_zero, List.set_cons_succ]
              refine wpAnyH_take (i := 21) (oi := { dst := some 237, op := Go.Op.binOp Go.BinOp.add 3 (Go.Operand.tmp 233) (Go.Operand.tmp 236) 3, type := 3, pos := "outright.go:196", after := #[{ on := 17, ground := Go.Ground.data }, { on := 20, ground := Go.Ground.data }, { on := 8, ground := Go.Ground.guard }], guard := some (8, true) }) (v := ?v21nb) rfl (by kernel_rfl) (by kernel_rfl) (by kernel_rfl) (fun _ _ _ h => h) (Or.inl ⟨by rfl, ?hy21nb⟩) hHeld ?rest21nb
              case hy21nb =>
                intro w hSw
                try dsimp only at hSw
                go_simp
                try with_reducible rfl
              try simp only [Act.put, List.setIfInBounds_toArray, List.set_cons_zero, List.set_cons_succ]
              refine wpAnyH_take (i := 22) (oi := { dst := some 238, op := Go.Op.binOp Go.BinOp.eql 3 (Go.Operand.tmp 237) (Go.Operand.const (Go.Value.int Go.IntKind.i64 0)) 3, type := 4, pos := "outright.go:196", after := #[{ on := 21, ground := Go.Ground.data }, { on := 8, ground := Go.Ground.guard }], guard := some (8, true) }) (v := ?v22nb) rfl (by kernel_rfl) (by kernel_rfl) (by kernel_rfl) (fun _ _ _ h => h) (Or.inl ⟨by rfl, ?hy22nb⟩) hHeld ?rest22nb
              case hy22nb =>
                intro w hSw
                try dsimp only at hSw
                go_simp
                try with_reducible rfl
              try simp only [Act.put, List.setIfInBounds_toArray, List.set_cons_zero, List.set_cons_succ]
              refine wpAnyH_take (i := 23) (oi := { dst := some 239, op := Go.Op.pick (Go.Operand.tmp 224) (Go.Operand.tmp 238) (Go.Operand.const (Go.Value.bool false)), type := 4, pos := "outright.go:196", after := #[{ on := 8, ground := Go.Ground.data }, { on := 22, ground := Go.Ground.data }], guard := none }) (v := ?v23nb) rfl (by kernel_rfl) (by kernel_rfl) (by kernel_rfl) (fun _ _ _ h => h) (Or.inl ⟨by rfl, ?hy23nb⟩) hHeld ?rest23nb
              case hy23nb =>
                intro w hSw
                try dsimp only at hSw
                go_simp
                try with_reducible rfl
              try simp only [Act.put, List.setIfInBounds_toArray, List.set_cons_zero, List.set_cons_succ]
              refine wpAnyH_take (i := 24) (oi := { dst := some 240, op := Go.Op.move (Go.Operand.tmp 239), type := 4, pos := "outright.go:196", after := #[{ on := 23, ground := Go.Ground.data }, { on := 19, ground := Go.Ground.chain }], guard := none }) (v := ?v24nb) rfl (by kernel_rfl) (by kernel_rfl) (by kernel_rfl) (fun _ _ _ h => h) (Or.inl ⟨by rfl, ?hy24nb⟩) hHeld ?rest24nb
              case hy24nb =>
                intro w hSw
                try dsimp only at hSw
                go_simp
                try with_reducible rfl
              try simp only [Act.put, List.setIfInBounds_toArray, List.set_cons_zero, List.set_cons_succ]
              refine wpAnyH_take (i := 25) (oi := { dst := some 241, op := Go.Op.move (Go.Operand.tmp 32), type := 4, pos := "outright.go:196", after := #[{ on := 24, ground := Go.Ground.guard }], guard := some (24, true) }) (v := ?v25nb) rfl (by kernel_rfl) (by kernel_rfl) (by kernel_rfl) (fun _ _ _ h => h) (Or.inl ⟨by rfl, ?hy25nb⟩) hHeld ?rest25nb
              case hy25nb =>
                intro w hSw
                try dsimp only at hSw
                go_simp
                try with_reducible rfl
              try simp only [Act.put, List.setIfInBounds_toArray, List.set_cons_zero, List.set_cons_succ]
              refine wpAnyH_take (i := 26) (oi := { dst := some 242, op := Go.Op.unOp Go.UnOp.not 4 (Go.Operand.tmp 241), type := 4, pos := "outright.go:196", after := #[{ on := 25, ground := Go.Ground.data }, { on := 24, ground := Go.Ground.guard }], guard := some (24, true) }) (v := ?v26nb) rfl (by kernel_rfl) (by kernel_rfl) (by kernel_rfl) (fun _ _ _ h => h) (Or.inl ⟨by rfl, ?hy26nb⟩) hHeld ?rest26nb
              case hy26nb =>
                intro w hSw
                try dsimp only at hSw
                go_simp
                try with_reducible rfl
              try simp only [Act.put, List.setIfInBounds_toArray, List.set_cons_zero, List.set_cons_succ]
              refine wpAnyH_take (i := 27) (oi := { dst := some 243, op := Go.Op.pick (Go.Operand.tmp 240) (Go.Operand.tmp 242) (Go.Operand.const (Go.Value.bool false)), type := 4, pos := "outright.go:196", after := #[{ on := 24, ground := Go.Ground.data }, { on := 26, ground := Go.Ground.data }], guard := none }) (v := ?v27nb) rfl (by kernel_rfl) (by kernel_rfl) (by kernel_rfl) (fun _ _ _ h => h) (Or.inl ⟨by rfl, ?hy27nb⟩) hHeld ?rest27nb
              case hy27nb =>
                intro w hSw
                try dsimp only at hSw
                go_simp
                try with_reducible rfl
              try simp only [Act.put, List.setIfInBounds_toArray, List.set_cons_zero, List.set_cons_succ]
              refine wpAnyH_take (i := 28) (oi := { dst := some 244, op := Go.Op.move (Go.Operand.tmp 243), type := 4, pos := "outright.go:196", after := #[{ on := 27, ground := Go.Ground.data }, { on := 24, ground := Go.Ground.chain }], guard := none }) (v := ?v28nb) rfl (by kernel_rfl) (by kernel_rfl) (by kernel_rfl) (fun _ _ _ h => h) (Or.inl ⟨by rfl, ?hy28nb⟩) hHeld ?rest28nb
              case hy28nb =>
                intro w hSw
                try dsimp only at hSw
                go_simp
                try with_reducible rfl
              try simp only [Act.put, List.setIfInBounds_toArray, List.set_cons_zero, List.set_cons_succ]
              refine wpAnyH_take (i := 29) (oi := { dst := some 245, op := Go.Op.move (Go.Operand.tmp 34), type := 4, pos := "outright.go:196", after := #[{ on := 28, ground := Go.Ground.guard }], guard := some (28, true) }) (v := ?v29nb) rfl (by kernel_rfl) (by kernel_rfl) (by kernel_rfl) (fun _ _ _ h => h) (Or.inl ⟨by rfl, ?hy29nb⟩) hHeld ?rest29nb
              case hy29nb =>
                intro w hSw
                try dsimp only at hSw
                go_simp
                try with_reducible rfl
              try simp only [Act.put, List.setIfInBounds_toArray, List.set_cons_zero, List.set_cons_succ]
              refine wpAnyH_take (i := 30) (oi := { dst := some 246, op := Go.Op.unOp Go.UnOp.not 4 (Go.Operand.tmp 245), type := 4, pos := "outright.go:196", after := #[{ on := 29, ground := Go.Ground.data }, { on := 28, ground := Go.Ground.guard }], guard := some (28, true) }) (v := ?v30nb) rfl (by kernel_rfl) (by kernel_rfl) (by kernel_rfl) (fun _ _ _ h => h) (Or.inl ⟨by rfl, ?hy30nb⟩) hHeld ?rest30nb
              case hy30nb =>
                intro w hSw
                try dsimp only at hSw
                go_simp
                try with_reducible rfl
              try simp only [Act.put, List.setIfInBounds_toArray, List.set_cons_zero, List.set_cons_succ]
              refine wpAnyH_take (i := 31) (oi := { dst := some 247, op := Go.Op.pick (Go.Operand.tmp 244) (Go.Operand.tmp 246) (Go.Operand.const (Go.Value.bool false)), type := 4, pos := "outright.go:196", after := #[{ on := 28, ground := Go.Ground.data }, { on := 30, ground := Go.Ground.data }], guard := none }) (v := ?v31nb) rfl (by kernel_rfl) (by kernel_rfl) (by kernel_rfl) (fun _ _ _ h => h) (Or.inl ⟨by rfl, ?hy31nb⟩) hHeld ?rest31nb
              case hy31nb =>
                intro w hSw
                try dsimp only at hSw
                go_simp
                try with_reducible rfl
              try simp only [Act.put, List.setIfInBounds_toArray, List.set_cons_zero, List.set_cons_succ]
              refine wpAnyH_take (i := 32) (oi := { dst := some 248, op := Go.Op.move (Go.Operand.tmp 247), type := 4, pos := "outright.go:196", after := #[{ on := 31, ground := Go.Ground.data }, { on := 28, ground := Go.Ground.chain }], guard := none }) (v := ?v32nb) rfl (by kernel_rfl) (by kernel_rfl) (by kernel_rfl) (fun _ _ _ h => h) (Or.inl ⟨by rfl, ?hy32nb⟩) hHeld ?rest32nb
              case hy32nb =>
                intro w hSw
                try dsimp only at hSw
                go_simp
                try with_reducible rfl
              try simp only [Act.put, List.setIfInBounds_toArray, List.set_cons_zero, List.set_cons_succ]
              refine wpAnyH_take (i := 33) (oi := { dst := some 249, op := Go.Op.move (Go.Operand.tmp 36), type := 4, pos := "outright.go:196", after := #[{ on := 32, ground := Go.Ground.guard }], guard := some (32, true) }) (v := ?v33nb) rfl (by kernel_rfl) (by kernel_rfl) (by kernel_rfl) (fun _ _ _ h => h) (Or.inl ⟨by rfl, ?hy33nb⟩) hHeld ?rest33nb
              case hy33nb =>
                intro w hSw
                try dsimp only at hSw
                go_simp
                try with_reducible rfl
              try simp only [Act.put, List.setIfInBounds_toArray, List.set_cons_zero, List.set_cons_succ]
              refine wpAnyH_take (i := 34) (oi := { dst := some 250, op := Go.Op.unOp Go.UnOp.not 4 (Go.Operand.tmp 249), type := 4, pos := "outright.go:196", after := #[{ on := 33, ground := Go.Ground.data }, { on := 32, ground := Go.Ground.guard }], guard := some (32, true) }) (v := ?v34nb) rfl (by kernel_rfl) (by kernel_rfl) (by kernel_rfl) (fun _ _ _ h => h) (Or.inl ⟨by rfl, ?hy34nb⟩) hHeld ?rest34nb
              case hy34nb =>
                intro w hSw
                try dsimp only at hSw
                go_simp
                try with_reducible rfl
              try simp only [Act.put, List.setIfInBounds_toArray, List.set_cons_zero, List.set_cons_succ]
              refine wpAnyH_take (i := 35) (oi := { dst := some 251, op := Go.Op.pick (Go.Operand.tmp 248) (Go.Operand.tmp 250) (Go.Operand.const (Go.Value.bool false)), type := 4, pos := "outright.go:196", after := #[{ on := 32, ground := Go.Ground.data }, { on := 34, ground := Go.Ground.data }], guard := none }) (v := ?v35nb) rfl (by kernel_rfl) (by kernel_rfl) (by kernel_rfl) (fun _ _ _ h => h) (Or.inl ⟨by rfl, ?hy35nb⟩) hHeld ?rest35nb
              case hy35nb =>
                intro w hSw
                try dsimp only at hSw
                go_simp
                try with_reducible rfl
              try simp only [Act.put, List.setIfInBounds_toArray, List.set_cons_zero, List.set_cons_succ]
              refine wpAnyH_take (i := 36) (oi := { dst := some 252, op := Go.Op.move (Go.Operand.tmp 251), type := 4, pos := "outright.go:196", after := #[{ on := 35, ground := Go.Ground.data }, { on := 32, ground := Go.Ground.chain }], guard := none }) (v := ?v36nb) rfl (by kernel_rfl) (by kernel_rfl) (by kernel_rfl) (fun _ _ _ h => h) (Or.inl ⟨by rfl, ?hy36nb⟩) hHeld ?rest36nb
              case hy36nb =>
                intro w hSw
                try dsimp only at hSw
                go_simp
                try with_reducible rfl
              try simp only [Act.put, List.setIfInBounds_toArray, List.set_cons_zero, List.set_cons_succ]
              refine wpAnyH_take (i := 37) (oi := { dst := some 253, op := Go.Op.move (Go.Operand.tmp 38), type := 35, pos := "outright.go:196", after := #[{ on := 36, ground := Go.Ground.guard }], guard := some (36, true) }) (v := ?v37nb) rfl (by kernel_rfl) (by kernel_rfl) (by kernel_rfl) (fun _ _ _ h => h) (Or.inl ⟨by rfl, ?hy37nb⟩) hHeld ?rest37nb
              case hy37nb =>
                intro w hSw
                try dsimp only at hSw
                go_simp
                try with_reducible rfl
              try simp only [Act.put, List.setIfInBounds_toArray, List.set_cons_zero, List.set_cons_succ]
              refine wpAnyH_take (i := 38) (oi := { dst := some 254, op := Go.Op.binOp Go.BinOp.eql 35 (Go.Operand.tmp 253) (Go.Operand.const (Go.Value.int Go.IntKind.i64 2)) 35, type := 4, pos := "outright.go:196", after := #[{ on := 37, ground := Go.Ground.data }, { on := 36, ground := Go.Ground.guard }], guard := some (36, true) }) (v := ?v38nb) rfl (by kernel_rfl) (by kernel_rfl) (by kernel_rfl) (fun _ _ _ h => h) (Or.inl ⟨by rfl, ?hy38nb⟩) hHeld ?rest38nb
              case hy38nb =>
                intro w hSw
                try dsimp only at hSw
                go_simp
                try with_reducible rfl
              try simp only [Act.put, List.setIfInBounds_toArray, List.set_cons_zero, List.set_cons_succ]
              refine wpAnyH_take (i := 39) (oi := { dst := some 255, op := Go.Op.fieldAddr 24 (Go.Operand.tmp 18) 0, type := 0, pos := "outright.go:196", after := #[{ on := 36, ground := Go.Ground.guard }], guard := some (36, true) }) (v := ?v39nb) rfl (by kernel_rfl) (by kernel_rfl) (by kernel_rfl) (fun _ _ _ h => h) (Or.inl ⟨by rfl, ?hy39nb⟩) hHeld ?rest39nb
              case hy39nb =>
                intro w hSw
                try dsimp only at hSw
                go_simp
                try with_reducible rfl
              try simp only [Act.put, List.setIfInBounds_toArray, List.set_cons_zero, List.set_cons_succ]
              refine wpAnyH_take (i := 40) (oi := { dst := some 256, op := Go.Op.load 3 (Go.Operand.tmp 255), type := 3, pos := "outright.go:196", after := #[{ on := 39, ground := Go.Ground.data }, { on := 36, ground := Go.Ground.guard }], guard := some (36, true) }) (v := ?v40nb) rfl (by kernel_rfl) (by kernel_rfl) (by kernel_rfl) (fun _ _ _ h => h) (Or.inl ⟨by rfl, ?hy40nb⟩) hHeld ?rest40nb
              case hy40nb =>
                intro w hSw
                try dsimp only at hSw
                go_simp
                try with_reducible rfl
              try simp only [Act.put, List.setIfInBounds_toArray, List.set_cons_zero, List.set_cons_succ]
              refine wpAnyH_take (i := 41) (oi := { dst := some 257, op := Go.Op.binOp Go.BinOp.lss 3 (Go.Operand.tmp 256) (Go.Operand.const (Go.Value.int Go.IntKind.i64 0)) 3, type := 4, pos := "outright.go:196", after := #[{ on := 40, ground := Go.Ground.data }, { on := 36, ground := Go.Ground.guard }], guard := some (36, true) }) (v := ?v41nb) rfl (by kernel_rfl) (by kernel_rfl) (by kernel_rfl) (fun _ _ _ h => h) (Or.inl ⟨by rfl, ?hy41nb⟩) hHeld ?rest41nb
              case hy41nb =>
                intro w hSw
                try dsimp only at hSw
                go_simp
                try with_reducible rfl
              try simp only [Act.put, List.setIfInBounds_toArray, List.set_cons_zero, List.set_cons_succ]
              refine wpAnyH_take (i := 42) (oi := { dst := some 258, op := Go.Op.move (Go.Operand.tmp 257), type := 4, pos := "outright.go:196", after := #[{ on := 41, ground := Go.Ground.data }, { on := 36, ground := Go.Ground.chain }, { on := 36, ground := Go.Ground.guard }], guard := some (36, true) }) (v := ?v42nb) rfl (by kernel_rfl) (by kernel_rfl) (by kernel_rfl) (fun _ _ _ h => h) (Or.inl ⟨by rfl, ?hy42nb⟩) hHeld ?rest42nb
              case hy42nb =>
                intro w hSw
                try dsimp only at hSw
                go_simp
                try with_reducible rfl
              try simp only [Act.put, List.setIfInBounds_toArray, List.set_cons_zero, List.set_cons_succ]
              refine wpAnyH_take (i := 43) (oi := { dst := some 259, op := Go.Op.fieldAddr 24 (Go.Operand.tmp 18) 0, type := 0, pos := "outright.go:196", after := #[{ on := 42, ground := Go.Ground.guard }], guard := some (42, false) }) (v := ?v43nb) rfl (by kernel_rfl) (by kernel_rfl) (by kernel_rfl) (fun _ _ _ h => h) (Or.inl ⟨by rfl, ?hy43nb⟩) hHeld ?rest43nb
              case hy43nb =>
                intro w hSw
                try dsimp only at hSw
                go_simp
                try with_reducible rfl
              try simp only [Act.put, List.setIfInBounds_toArray, List.set_cons_zero, List.set_cons_succ]
              refine wpAnyH_take (i := 44) (oi := { dst := some 260, op := Go.Op.load 3 (Go.Operand.tmp 259), type := 3, pos := "outright.go:196", after := #[{ on := 43, ground := Go.Ground.data }, { on := 42, ground := Go.Ground.guard }], guard := some (42, false) }) (v := ?v44nb) rfl (by kernel_rfl) (by kernel_rfl) (by kernel_rfl) (fun _ _ _ h => h) (Or.inl ⟨by rfl, ?hy44nb⟩) hHeld ?rest44nb
              case hy44nb =>
                intro w hSw
                try dsimp only at hSw
                go_simp
                try with_reducible rfl
              try simp only [Act.put, List.setIfInBounds_toArray, List.set_cons_zero, List.set_cons_succ]
              refine wpAnyH_take (i := 45) (oi := { dst := some 261, op := Go.Op.binOp Go.BinOp.gtr 3 (Go.Operand.tmp 260) (Go.Operand.const (Go.Value.int Go.IntKind.i64 65536)) 3, type := 4, pos := "outright.go:196", after := #[{ on := 44, ground := Go.Ground.data }, { on := 42, ground := Go.Ground.guard }], guard := some (42, false) }) (v := ?v45nb) rfl (by kernel_rfl) (by kernel_rfl) (by kernel_rfl) (fun _ _ _ h => h) (Or.inl ⟨by rfl, ?hy45nb⟩) hHeld ?rest45nb
              case hy45nb =>
                intro w hSw
                try dsimp only at hSw
                go_simp
                try with_reducible rfl
              try simp only [Act.put, List.setIfInBounds_toArray, List.set_cons_zero, List.set_cons_succ]
              refine wpAnyH_take (i := 46) (oi := { dst := some 262, op := Go.Op.pick (Go.Operand.tmp 258) (Go.Operand.const (Go.Value.bool true)) (Go.Operand.tmp 261), type := 4, pos := "outright.go:196", after := #[{ on := 42, ground := Go.Ground.data }, { on := 45, ground := Go.Ground.data }, { on := 36, ground := Go.Ground.guard }], guard := some (36, true) }) (v := ?v46nb) rfl (by kernel_rfl) (by kernel_rfl) (by kernel_rfl) (fun _ _ _ h => h) (Or.inl ⟨by rfl, ?hy46nb⟩) hHeld ?rest46nb
              case hy46nb =>
                intro w hSw
                try dsimp only at hSw
                go_simp
                try with_reducible rfl
              try simp only [Act.put, List.setIfInBounds_toArray, List.set_cons_zero, List.set_cons_succ]
              refine wpAnyH_take (i := 47) (oi := { dst := some 263, op := Go.Op.binOp Go.BinOp.eql 4 (Go.Operand.tmp 254) (Go.Operand.tmp 262) 4, type := 4, pos := "outright.go:196", after := #[{ on := 38, ground := Go.Ground.data }, { on := 46, ground := Go.Ground.data }, { on := 36, ground := Go.Ground.guard }], guard := some (36, true) }) (v := ?v47nb) rfl (by kernel_rfl) (by kernel_rfl) (by kernel_rfl) (fun _ _ _ h => h) (Or.inl ⟨by rfl, ?hy47nb⟩) hHeld ?rest47nb
              case hy47nb =>
                intro w hSw
                try dsimp only at hSw
                go_simp
                try with_reducible rfl
              try simp only [Act.put, List.setIfInBounds_toArray, List.set_cons_zero, List.set_cons_succ]
              refine wpAnyH_take (i := 48) (oi := { dst := some 264, op := Go.Op.pick (Go.Operand.tmp 252) (Go.Operand.tmp 263) (Go.Operand.const (Go.Value.bool false)), type := 4, pos := "outright.go:196", after := #[{ on := 36, ground := Go.Ground.data }, { on := 47, ground := Go.Ground.data }], guard := none }) (v := ?v48nb) rfl (by kernel_rfl) (by kernel_rfl) (by kernel_rfl) (fun _ _ _ h => h) (Or.inl ⟨by rfl, ?hy48nb⟩) hHeld ?rest48nb
              case hy48nb =>
                intro w hSw
                try dsimp only at hSw
                go_simp
                try with_reducible rfl
              try simp only [Act.put, List.setIfInBounds_toArray, List.set_cons_zero, List.set_cons_succ]
              refine wpAnyH_take (i := 49) (oi := { dst := some 8, op := Go.Op.assign (Go.Operand.tmp 264), type := 4, pos := "outright.go:196", after := #[{ on := 48, ground := Go.Ground.data }, { on := 42, ground := Go.Ground.chain }, { on := 0, ground := Go.Ground.phase }, { on := 1, ground := Go.Ground.phase }, { on := 2, ground := Go.Ground.phase }, { on := 3, ground := Go.Ground.phase }, { on := 4, ground := Go.Ground.phase }, { on := 5, ground := Go.Ground.phase }, { on := 6, ground := Go.Ground.phase }, { on := 7, ground := Go.Ground.phase }, { on := 8, ground := Go.Ground.phase }, { on := 9, ground := Go.Ground.phase }, { on := 10, ground := Go.Ground.phase }, { on := 11, ground := Go.Ground.phase }, { on := 12, ground := Go.Ground.phase }, { on := 13, ground := Go.Ground.phase }, { on := 14, ground := Go.Ground.phase }, { on := 15, ground := Go.Ground.phase }, { on := 16, ground := Go.Ground.phase }, { on := 17, ground := Go.Ground.phase }, { on := 18, ground := Go.Ground.phase }, { on := 19, ground := Go.Ground.phase }, { on := 20, ground := Go.Ground.phase }, { on := 21, ground := Go.Ground.phase }, { on := 22, ground := Go.Ground.phase }, { on := 23, ground := Go.Ground.phase }, { on := 24, ground := Go.Ground.phase }, { on := 25, ground := Go.Ground.phase }, { on := 26, ground := Go.Ground.phase }, { on := 27, ground := Go.Ground.phase }, { on := 28, ground := Go.Ground.phase }, { on := 29, ground := Go.Ground.phase }, { on := 30, ground := Go.Ground.phase }, { on := 31, ground := Go.Ground.phase }, { on := 32, ground := Go.Ground.phase }, { on := 33, ground := Go.Ground.phase }, { on := 34, ground := Go.Ground.phase }, { on := 35, ground := Go.Ground.phase }, { on := 36, ground := Go.Ground.phase }, { on := 37, ground := Go.Ground.phase }, { on := 38, ground := Go.Ground.phase }, { on := 39, ground := Go.Ground.phase }, { on := 40, ground := Go.Ground.phase }, { on := 41, ground := Go.Ground.phase }, { on := 42, ground := Go.Ground.phase }, { on := 43, ground := Go.Ground.phase }, { on := 44, ground := Go.Ground.phase }, { on := 45, ground := Go.Ground.phase }, { on := 46, ground := Go.Ground.phase }, { on := 47, ground := Go.Ground.phase }, { on := 48, ground := Go.Ground.phase }], guard := none }) (v := ?v49nb) rfl (by kernel_rfl) (by kernel_rfl) (by kernel_rfl) (fun _ _ _ h => h) (Or.inl ⟨by rfl, ?hy49nb⟩) hHeld ?rest49nb
              case hy49nb =>
                intro w hSw
                try dsimp only at hSw
                go_simp
                try with_reducible rfl
              try simp only [Act.put, List.setIfInBounds_toArray, List.set_cons_zero, List.set_cons_succ]
              refine wpAnyH_done (by kernel_rfl) ?_ _
              refine NoPanic.normal ?_
              go_wp2_with fail
              go_ret
              exact ⟨rfl, h6.1⟩
end Go.Proofs.YtgkckoejkljngaaDoor
