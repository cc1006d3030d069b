/-
  The contract of the examples of the chapter: they hold; nothing that was there is changed.
-/
import Derived.Test.YteddbpcpllehoaaRead
namespace Go.Proofs.Yteddbpcpllehoaa
open Go.RowKit Go.Shelf

def exRows : List (List Int) := [[0], [127], [128, 1], [172, 2], [255, 255, 255, 255, 255, 255, 255, 255, 255, 1]]
def exNums : List Int := [0, 127, 128, 300, 18446744073709551615]
theorem exForm (j : Nat) (hj : j < 5) : vform (exNums[j]?.getD 0) = exRows[j]?.getD [] ∧ 0 ≤ exNums[j]?.getD 0 ∧ exNums[j]?.getD 0 ≤ 18446744073709551615 := by
  match j, hj with
  | 0, _ => exact ⟨vform_lt (by decide), by decide, by decide⟩
  | 1, _ => exact ⟨vform_lt (by decide), by decide, by decide⟩
  | 2, _ => exact ⟨by show vform 128 = [128, 1]; rw [vform_ge (by decide), vform_lt (by decide)]; decide, by decide, by decide⟩
  | 3, _ => exact ⟨by show vform 300 = [172, 2]; rw [vform_ge (by decide), vform_lt (by decide)]; decide, by decide, by decide⟩
  | 4, _ =>
    refine ⟨?_, by decide, by decide⟩
    show vform 18446744073709551615 = [255, 255, 255, 255, 255, 255, 255, 255, 255, 1]
    iterate 9 rw [vform_ge (by decide)]
    rw [vform_lt (by decide)]
    decide
def exBad : List (List Int) := [[], [128], [255, 255, 255, 255, 255, 255, 255, 255, 255, 2], [128, 0]]
def exErrs : List Int := [10, 10, 11, 12]
theorem exErr (j : Nat) (hj : j < 4) : vread (exBad[j]?.getD []) = (0, 0, exErrs[j]?.getD 0) ∧ Bytes (exBad[j]?.getD []) := by
  match j, hj with
  | 0, _ => exact ⟨by decide, by unfold Bytes; decide⟩
  | 1, _ => exact ⟨by decide, by unfold Bytes; decide⟩
  | 2, _ => exact ⟨by decide, by unfold Bytes; decide⟩
  | 3, _ => exact ⟨by decide, by unfold Bytes; decide⟩

/-- A cell of a table of slices, and what it reads as. -/
def TabAt (w : World) (g j : Nat) (l : List Int) : Prop := ∃ a n c, w.cell? ⟨g, j, none⟩ = some (.slice a n c) ∧ g < w.heap.size ∧ Sl .u8 w a n c l
theorem TabAt.below {w w' : World} {g j : Nat} {l : List Int} (h : TabAt w g j l) (hb : Below w.heap.size w w') : TabAt w' g j l := by
  obtain ⟨a, n, c, h1, h2, h3⟩ := h
  exact ⟨a, n, c, (hb.cell (p := ⟨g, j, none⟩) h2).trans h1, Nat.lt_of_lt_of_le h2 hb.size, h3.below hb⟩

/-- The cells of a block, as the append laws ask for them. -/
theorem Blk.cells {k : IntKind} {e : TypeId} {w : World} {g : Nat} {l : List Int} (h : Blk k e w g l) : ∀ j u, (l.map (Value.int k))[j]? = some u → w.cell? ((⟨g, 0, none⟩ : Addr).add j) = some u := by
  intro j u hj
  have hlt : j < l.length := by
    have := (List.getElem?_eq_some_iff.1 hj).1
    simpa using this
  have hx := h.at j hlt
  have e0 : (⟨g, 0, none⟩ : Addr).add j = ⟨g, j, none⟩ := by cases j <;> simp [Addr.add]
  rw [e0, hx]
  simp [List.getElem?_eq_getElem hlt] at hj
  simp [List.getElem?_eq_getElem hlt, hj]

/-- The world behind the literals of the first table. -/
def aw6 (w : World) : World := (((((w.alloc (.cells #[.int .u8 255, .int .u8 255, .int .u8 255, .int .u8 255, .int .u8 255, .int .u8 255, .int .u8 255, .int .u8 255, .int .u8 255] 5)).alloc (.cells #[.int .u8 0] 5)).alloc (.cells #[.int .u8 127] 5)).alloc (.cells #[.int .u8 128, .int .u8 1] 5)).alloc (.cells #[.int .u8 172, .int .u8 2] 5)).alloc (.cells #[.int .u8 1] 5)

structure Aw6 (w w1 : World) : Prop where
  b0 : Blk .u8 5 w1 w.heap.size [255, 255, 255, 255, 255, 255, 255, 255, 255]
  b1 : Blk .u8 5 w1 (w.heap.size + 1) [0]
  b2 : Blk .u8 5 w1 (w.heap.size + 2) [127]
  b3 : Blk .u8 5 w1 (w.heap.size + 3) [128, 1]
  b4 : Blk .u8 5 w1 (w.heap.size + 4) [172, 2]
  b5 : Blk .u8 5 w1 (w.heap.size + 5) [1]
  hb : Below w.heap.size w w1
  hs : w1.heap.size ≥ w.heap.size + 6

theorem Blk.new' (k : IntKind) (e : TypeId) (w : World) (n : Nat) (hn : w.heap.size = n) (l : List Int) : Blk k e (w.alloc (.cells (l.map (Value.int k)).toArray e)) n l := by
  subst hn; exact Blk.new k e w l

theorem aw6_are (w : World) : Aw6 w (aw6 w) where
  b0 := (((((Blk.new' .u8 5 w _ rfl [255, 255, 255, 255, 255, 255, 255, 255, 255]).alloc _).alloc _).alloc _).alloc _).alloc _
  b1 := ((((Blk.new' .u8 5 _ _ (by simp) [0]).alloc _).alloc _).alloc _).alloc _
  b2 := (((Blk.new' .u8 5 _ _ (by simp) [127]).alloc _).alloc _).alloc _
  b3 := ((Blk.new' .u8 5 _ _ (by simp) [128, 1]).alloc _).alloc _
  b4 := (Blk.new' .u8 5 _ _ (by simp) [172, 2]).alloc _
  b5 := Blk.new' .u8 5 _ _ (by simp) [1]
  hb := ((((((Below.refl _ w).alloc (Nat.le_refl _) _).alloc (by simp) _).alloc (by simp; omega) _).alloc (by simp; omega) _).alloc (by simp; omega) _).alloc (by simp; omega) _
  hs := by simp [aw6]

theorem Aw6.kept {w w1 w2 : World} (h : Aw6 w w1) (hg : w1.grownBy w2 none) : Aw6 w w2 :=
  ⟨h.b0.kept hg (by simp), h.b1.kept hg (by simp), h.b2.kept hg (by simp), h.b3.kept hg (by simp), h.b4.kept hg (by simp), h.b5.kept hg (by simp),
   h.hb.grown hg (by have := h.hs; omega) (by simp), Nat.le_trans h.hs hg.size⟩

theorem TabAt.of {w w1 : World} {T j : Nat} {l : List Int} {a : Option Addr} {n c : Nat} (hc : w1.cell? ⟨T, j, none⟩ = some (.slice a n c)) (hT : T < w1.heap.size) (hs : Sl .u8 w a n c l) (hb : Below w.heap.size w w1) : TabAt w1 T j l :=
  ⟨a, n, c, hc, hT, hs.below hb⟩

theorem tabs1 {w w1 : World} (hA : Aw6 w w1) {a5 : Option Addr} {cap5 : Nat} (b5 : Sl .u8 w1 a5 10 cap5 [255, 255, 255, 255, 255, 255, 255, 255, 255, 1]) (j : Nat) (hj : j < 5) :
    TabAt (w1.alloc (.cells #[.slice (some ⟨w.heap.size + 1, 0, none⟩) 1 1, .slice (some ⟨w.heap.size + 1 + 1, 0, none⟩) 1 1, .slice (some ⟨w.heap.size + 1 + 1 + 1, 0, none⟩) 2 2, .slice (some ⟨w.heap.size + 1 + 1 + 1 + 1, 0, none⟩) 2 2, .slice a5 10 cap5] 25)) w1.heap.size j (exRows[j]?.getD []) := by
  have hb := (Below.refl w1.heap.size w1).alloc (Nat.le_refl _) (.cells #[.slice (some ⟨w.heap.size + 1, 0, none⟩) 1 1, .slice (some ⟨w.heap.size + 1 + 1, 0, none⟩) 1 1, .slice (some ⟨w.heap.size + 1 + 1 + 1, 0, none⟩) 2 2, .slice (some ⟨w.heap.size + 1 + 1 + 1 + 1, 0, none⟩) 2 2, .slice a5 10 cap5] 25)
  match j, hj with
  | 0, _ => exact TabAt.of (by simp) (by simp) (hA.b1.sl (by decide)) hb
  | 1, _ => exact TabAt.of (by simp) (by simp) (hA.b2.sl (by decide)) hb
  | 2, _ => exact TabAt.of (by simp) (by simp) (hA.b3.sl (by decide)) hb
  | 3, _ => exact TabAt.of (by simp) (by simp) (hA.b4.sl (by decide)) hb
  | 4, _ => exact TabAt.of (by simp) (by simp) b5 hb

theorem numsCell (w : World) (j : Nat) (hj : j < 5) : (w.alloc (.cells #[.int .u64 0, .int .u64 127, .int .u64 128, .int .u64 300, .int .u64 18446744073709551615] 22)).cell? ⟨w.heap.size, j, none⟩ = some (.int .u64 (exNums[j]?.getD 0)) :=
  (Blk.new .u64 22 w exNums).at j hj
theorem errsCell (w : World) (j : Nat) (hj : j < 4) : (w.alloc (.cells #[.int .i64 10, .int .i64 10, .int .i64 11, .int .i64 12] 32)).cell? ⟨w.heap.size, j, none⟩ = some (.int .i64 (exErrs[j]?.getD 0)) :=
  (Blk.new .i64 32 w exErrs).at j hj

theorem exRead (w : World) : Calls Try.prog 18 #[.slice (some ⟨w.heap.size, 0, none⟩) 3 3] (w.alloc (.cells #[.int .u8 172, .int .u8 2, .int .u8 7] 5)) fun e w' => e = .returned (.tuple #[.int .u64 300, .int .i64 2, .int .i64 0]) ∧ Below (w.alloc (.cells #[.int .u8 172, .int .u8 2, .int .u8 7] 5)).heap.size (w.alloc (.cells #[.int .u8 172, .int .u8 2, .int .u8 7] 5)) w' :=
  (read_any _ _ _ [172, 2, 7] _ ((Blk.new .u8 5 w [172, 2, 7]).sl (by decide)) (by unfold Bytes; decide)).mono fun _ _ ⟨he, hb⟩ => ⟨by rw [he]; rfl, hb⟩

theorem readRes_err {l : List Int} {E : Int} (h : vread l = (0, 0, E)) : ReadRes l = .returned (.tuple #[.int .u64 0, .int .i64 0, .int .i64 E]) := by
  unfold ReadRes; rw [h]; rfl

theorem tabs2 {w2 w3 : World} (h1 : Blk .u8 5 w3 w2.heap.size [128]) {a5 : Option Addr} {cap5 : Nat} (b5 : Sl .u8 w3 a5 10 cap5 [255, 255, 255, 255, 255, 255, 255, 255, 255, 2]) (j : Nat) (hj : j < 4) :
    TabAt ((w3.alloc (.cells #[.int .u8 128, .int .u8 0] 5)).alloc (.cells #[.slice none 0 0, .slice (some ⟨w2.heap.size, 0, none⟩) 1 1, .slice a5 10 cap5, .slice (some ⟨w3.heap.size, 0, none⟩) 2 2] 25)) (w3.heap.size + 1) j (exBad[j]?.getD []) := by
  have hb := ((Below.refl w3.heap.size w3).alloc (Nat.le_refl _) (.cells #[.int .u8 128, .int .u8 0] 5)).alloc (by simp) (.cells #[.slice none 0 0, .slice (some ⟨w2.heap.size, 0, none⟩) 1 1, .slice a5 10 cap5, .slice (some ⟨w3.heap.size, 0, none⟩) 2 2] 25)
  match j, hj with
  | 0, _ => exact TabAt.of (by simp) (by simp) (Sl.nil _ _) hb
  | 1, _ => exact TabAt.of (by simp) (by simp) (h1.sl (by decide)) hb
  | 2, _ => exact TabAt.of (by simp) (by simp) b5 hb
  | 3, _ => exact ⟨_, _, _, (by simp), by simp, ((Blk.new .u8 5 w3 [128, 0]).alloc _).sl (by decide)⟩

structure AwInv (w : World) (T n : Nat) (rows : List (List Int)) (wr : World) : Prop where
  b0 : Blk .u8 5 wr w.heap.size [255, 255, 255, 255, 255, 255, 255, 255, 255]
  tab : ∀ j, j < n → TabAt wr T j (rows[j]?.getD [])
  hb : Below w.heap.size w wr
theorem AwInv.below {w : World} {T n : Nat} {rows : List (List Int)} {wr w2 : World} (h : AwInv w T n rows wr) (hb : Below wr.heap.size wr w2) : AwInv w T n rows w2 :=
  ⟨h.b0.below hb, fun j hj => (h.tab j hj).below hb, h.hb.trans (hb.mono h.hb.size)⟩
theorem AwInv.alloc {w : World} {T n : Nat} {rows : List (List Int)} {wr : World} (h : AwInv w T n rows wr) (o : Obj) : AwInv w T n rows (wr.alloc o) :=
  h.below ((Below.refl _ _).alloc (Nat.le_refl _) o)

set_option maxRecDepth 100000 in
set_option maxHeartbeats 2000000 in
theorem awake_any (w : World) :
    Calls Try.prog 13 #[] w fun e w' => e = .returned (.bool true) ∧ Below w.heap.size w w' := by
  obtain ⟨i0, hi, hz0, hz1, hz2⟩ := info_parts infoU8
  go_enter Try.func13, Try.ntmps13
  go_wp2_with (at_builtin; refine wpList_append_grows _ rfl (.tmp 18) (.tmp 19) 25 rfl 5 i0 (.int .u8 0) 1 1 Try.underlying25 hi hz0 hz1 hz2 rfl (by decide) _ 9 9 (([255, 255, 255, 255, 255, 255, 255, 255, 255] : List Int).map (Value.int .u8)) rfl (by simp) (by simp) ?c1 ⟨w.heap.size + 5, 0, none⟩ 1 1 (([1] : List Int).map (Value.int .u8)) rfl rfl ?c2 ?c3 (by omega) (by decide) (by decide) ?_)
  case c1 =>
    intro b hb
    cases hb
    exact (aw6_are w).b0.cells
  case c2 => exact (aw6_are w).b5.cells
  case c3 => exact one_one _ _
  intro v' w1 hown hgrow
  have hA : Aw6 w w1 := (aw6_are w).kept hgrow
  obtain ⟨a5, cap5, rfl⟩ := own_shape hown
  have b5 : Sl .u8 w1 a5 10 cap5 [255, 255, 255, 255, 255, 255, 255, 255, 255, 1] := own_sl hown
  clear hgrow hown
  have hT := tabs1 hA b5
  have hI : AwInv w w1.heap.size 5 exRows _ := ⟨hA.b0.alloc _, hT, hA.hb.alloc (by have := hA.hs; omega) _⟩
  clear hT b5
  go_wp2_with fail
  go_loopw [23] (fun i wr => ∃ j : Nat, i = .int .i64 j ∧ j ≤ 5 ∧ AwInv w w1.heap.size 5 exRows wr) (fun i _ => 5 - (intOf i).toNat)
  case atStart => exact ⟨0, rfl, by omega, hI⟩
  case round =>
    obtain ⟨j, rfl, hj, hInv⟩ := hrel
    by_cases hlt : j < 5
    · obtain ⟨a, n, c, hcell, _, hsl⟩ := hInv.tab j hlt
      have hnum := numsCell wr j hlt
      obtain ⟨hform, hx0, hx1⟩ := exForm j hlt
      obtain ⟨x, hx⟩ : ∃ x, x = exNums[j]?.getD 0 := ⟨_, rfl⟩
      rw [← hx] at hnum hform hx0 hx1
      have HF := Lib.hid hform
      clear hform hx
      go_wp2_with fail
      refine (write_any x _ hx0 hx1).mono ?_
      rintro e w2 ⟨a2, cap2, rfl, hown2, hB2⟩
      have hInv2 := (hInv.alloc _).below hB2
      have hsl2 := (hsl.below ((Below.refl _ _).alloc (Nat.le_refl _) _)).below hB2
      go_wp2_with fail
      refine (sameBytes_yes _ _ _ _ _ _ _ _ _ (own_sl hown2) hsl2 HF.out).mono ?_
      rintro e w3 ⟨rfl, hD⟩
      have hInv3 := hInv2.below hD.below
      clear hInv hInv2 hnum hcell hsl hsl2 hown2 hB2 hD hI hA
      go_wp2
      go_roundw
      case rel => exact ⟨j + 1, by go_num, by omega, hInv3⟩
      case measure => simp [intOf]; omega
    · obtain rfl : j = 5 := by omega
      clear hI hA
      have hInv1 := hInv.alloc (.cells #[.int .u8 172, .int .u8 2, .int .u8 7] 5)
      have hc := exRead wr
      go_wp2_with fail
      refine hc.mono ?_
      rintro e w2 ⟨rfl, hB2⟩
      have hInv2 := hInv1.below hB2
      have hInv3 := (hInv2.alloc (.cells #[.int .u8 128] 5)).alloc (.cells #[.int .u8 2] 5)
      have hb128 := (Blk.new .u8 5 w2 [128]).alloc (.cells #[.int .u8 2] 5)
      clear hInv hInv1 hInv2 hB2 hc
      go_wp2_with (at_builtin; refine wpList_append_grows _ rfl (.tmp 55) (.tmp 56) 25 rfl 5 i0 (.int .u8 0) 1 1 Try.underlying25 hi hz0 hz1 hz2 rfl (by decide) _ 9 9 (([255, 255, 255, 255, 255, 255, 255, 255, 255] : List Int).map (Value.int .u8)) rfl (by simp) (by simp) ?d1 ⟨w2.heap.size + 1, 0, none⟩ 1 1 (([2] : List Int).map (Value.int .u8)) rfl rfl ?d2 ?d3 (by omega) (by decide) (by decide) ?_)
      case d1 =>
        intro b hb
        cases hb
        exact hInv3.b0.cells
      case d2 => exact (Blk.new' .u8 5 (w2.alloc (.cells #[.int .u8 128] 5)) (w2.heap.size + 1) (by simp) [2]).cells
      case d3 => exact one_one _ _
      intro v2 w3 hown hgrow
      have hB3 := (Below.refl _ _).grown hgrow (Nat.le_refl _) (by simp)
      have hInv4 := hInv3.below hB3
      have hb128' := hb128.kept hgrow (by simp)
      obtain ⟨a5, cap5, rfl⟩ := own_shape hown
      have b5 : Sl .u8 w3 a5 10 cap5 [255, 255, 255, 255, 255, 255, 255, 255, 255, 2] := own_sl hown
      have hT := tabs2 hb128' b5
      have hI : AwInv w (w3.heap.size + 1) 4 exBad _ := ⟨(hInv4.b0.alloc _).alloc _, hT, (hInv4.hb.alloc hInv4.hb.size _).alloc (by have := hInv4.hb.size; simp; omega) _⟩
      clear hT b5 hInv3 hInv4 hb128 hb128' hown hgrow hB3
      go_wp2_with fail
      go_loopw [61] (fun i wr => ∃ j : Nat, i = .int .i64 j ∧ j ≤ 4 ∧ AwInv w (w3.heap.size + 1) 4 exBad wr) (fun i _ => 4 - (intOf i).toNat)
      case atStart => exact ⟨0, rfl, by omega, hI⟩
      case round =>
        obtain ⟨j, rfl, hj, hInv⟩ := hrel
        by_cases hlt : j < 4
        · obtain ⟨a, n, c, hcell, _, hsl⟩ := hInv.tab j hlt
          obtain ⟨hvr, hby⟩ := exErr j hlt
          obtain ⟨E, hE⟩ : ∃ E, E = exErrs[j]?.getD 0 := ⟨_, rfl⟩
          rw [← hE] at hvr
          have hrc := readRes_err hvr
          have hnum := fun w => errsCell w j hlt
          rw [← hE] at hnum
          clear hE hvr
          go_wp2_with fail
          refine (read_any a n c _ _ hsl hby).mono ?_
          rw [hrc]
          rintro e w4 ⟨rfl, hB4⟩
          have hInv2 := hInv.below hB4
          have hnum4 := hnum w4
          clear hInv hnum hcell hsl hB4 hI hrc
          go_wp2
          go_roundw
          case rel => exact ⟨j + 1, by go_num, by omega, hInv2.alloc _⟩
          case measure => simp [intOf]; omega
        · obtain rfl : j = 4 := by omega
          have z0 : zig 0 = 0 := by decide
          have z1 : zig (-1) = 1 := by decide
          have z2 : zig 1 = 2 := by decide
          have z3 : zig (-2) = 3 := by decide
          have z4 : zig (-9223372036854775808) = 18446744073709551615 := by decide
          clear hI
          go_wp2_with (go_at_call 23; refine (zigzag_any _ _ (by decide) (by decide)).mono ?_; rintro e w' ⟨rfl, rfl⟩)
          go_ret
          exact ⟨rfl, hInv.hb⟩
end Go.Proofs.Yteddbpcpllehoaa
