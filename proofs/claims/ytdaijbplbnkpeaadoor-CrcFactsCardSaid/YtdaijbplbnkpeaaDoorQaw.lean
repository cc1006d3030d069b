/-
  The chapter's examples, which every law asks: they are all right. Strings of bytes. Where the table of the halves lies as the program's text lays it.
-/
import Derived.Test.YtdaijbplbnkpeaaDoorCrc
import Derived.Lib.SlBytesConst
import Derived.Laws.BytesArg
import Derived.Laws.IdiomStrings
namespace Go.Proofs.YtdaijbplbnkpeaaDoor
open Go.RowKit Go.Shelf

/-- Bytes as a string. -/
theorem conv_sl {w : World} {a : Option Addr} {n cap : Nat} {l : List Int} (h : Sl .u8 w a n cap l) :
    (convert 22 9 (.slice a n cap)).run Tryd.prog w = .ok (.string (strOfNums l)) w := by
  obtain ⟨h1, h2, h3, h4⟩ := h
  rcases h4 with ⟨h5, h6⟩ | ⟨b, off, rfl, hlt, hc⟩
  · subst h5 h6
    obtain rfl : l = [] := List.eq_nil_of_length_eq_zero h1
    have he : strOfNums [] = ByteArray.empty := by
      refine ByteArray.ext (Array.toList_inj.1 ?_)
      rw [strOfNums_data]; rfl
    rw [he]
    cases a with
    | none => exact run_convert_bytes_nil w _ _ Tryd.underlying22 Tryd.underlying5 0 0 _ Tryd.underlying9
    | some x => exact run_convert_bytes_back (P := Tryd.prog) w 22 9 5 x 0 [] Tryd.underlying22 Tryd.underlying5 Tryd.underlying9 (fun j hj => absurd hj (by simp))
  · refine run_convert_bytes_arg (P := Tryd.prog) w 22 5 Tryd.underlying22 Tryd.underlying5 b off n cap l h1 (fun i hi => ?_) 9 Tryd.underlying9
    rw [hc i hi, List.getD_eq_getElem?_getD]
theorem str_inj {l m : List Int} (hl : Bys l) (hm : Bys m) (h : strOfNums l = strOfNums m) : l = m := by
  have h2 : (strOfNums l).data.toList = (strOfNums m).data.toList := by rw [h]
  rw [strOfNums_data, strOfNums_data] at h2
  clear h
  induction l generalizing m with
  | nil => cases m with
    | nil => rfl
    | cons y m => simp at h2
  | cons x l ih => cases m with
    | nil => simp at h2
    | cons y m =>
      simp only [List.map_cons, List.cons.injEq] at h2
      have hx := hl.head
      have hy := hm.head
      have e : x.toNat % 256 = y.toNat % 256 := by
        have := congrArg UInt8.toNat h2.1
        simpa using this
      rw [ih hl.tail hm.tail h2.2, show x = y from by omega]

/-- A literal's bytes, newly laid. -/
theorem new_sl (w : World) (l : List Int) (fr : Nat × Nat) (hl : l.length ≤ 9223372036854775807) : Sl .u8 (w.alloc (.cells (l.map (Value.int .u8)).toArray 5 fr)) (some ⟨w.heap.size, 0, none⟩) l.length l.length l := by
  refine ⟨rfl, Nat.le_refl _, hl, .inr ⟨w.heap.size, 0, rfl, by simp, fun i hi => ?_⟩⟩
  rw [Nat.zero_add, World.cell?_alloc_mark]
  simp [List.getElem?_map, List.getElem?_eq_getElem hi]
theorem below_mark {w w' : World} (h : Below w.heap.size w w') (o : Obj) : Below w.heap.size w (w'.alloc o) := h.alloc h.size o

def t1234 : List Int := [49, 50, 51, 52]
def t59 : List Int := [53, 54, 55, 56, 57]
def t19 : List Int := [49, 50, 51, 52, 53, 54, 55, 56, 57]
theorem bys_of {l : List Int} (h : (l.all fun x => decide (0 ≤ x ∧ x < 256)) = true) : Bys l := fun x hx => of_decide_eq_true (List.all_eq_true.1 h x hx)

set_option maxRecDepth 100000 in
set_option maxHeartbeats 1000000 in
theorem awake_any (W : World) (hT : Tab W) : Calls Tryd.prog 15 #[] W fun e w' => e = .returned (.bool true) ∧ Below W.heap.size W w' := by
  have kc := fun (w : World) (C : Array Value) (n c : Nat) => Lib.run_convert_bytes_const (P := Tryd.prog) w 22 5 C n c Tryd.underlying22 Tryd.underlying5
  go_enter Tryd.func15, Tryd.ntmps15
  go_wp2_with fail
  have e1 : [] ++ le4 (upd 0 []) = [0, 0, 0, 0] := by decide +kernel
  have q0 := seal_any none 0 0 [] W hT (Sl.nil _ _) Bys.nil (by omega)
  rw [e1] at q0
  refine q0.mono ?_
  rintro e w1 ⟨v1, rfl, hm1⟩
  obtain ⟨a1, c1, rfl, hs1, hown1, hB1⟩ := hm1.view 4 rfl
  have d1 := Below.refl w1.heap.size w1
  have hT1 := hT.step hB1
  clear q0 hm1
  have hz : strOfNums [0, 0, 0, 0] = ⟨#[0, 0, 0, 0]⟩ := by
    refine ByteArray.ext (Array.toList_inj.1 ?_)
    rw [strOfNums_data]; rfl
  have v1 : upd 0 t1234 = 2615402659 := by decide +kernel
  have v2 : upd 0 t59 = 320708720 := by decide +kernel
  have v3 : upd 0 t19 = 3421780262 := by decide +kernel
  have v4 : upd 0 [0] = 3523407757 := by decide +kernel
  have v5 : fol 0 [128] = 3988292384 := by decide +kernel
  have v6 : fol 0 [1] = 1996959894 := by decide +kernel
  have v7 : hn (8 * 5) 2615402659 ^^^ 320708720 = 3421780262 := by decide +kernel
  have v8 : prt 1 7 = 3988292384 := by decide +kernel
  have v9 : upd 0 [] = 0 := by decide +kernel
  clear hown1 e1
  have HZ := Lib.hid hz
  clear hz
  go_wp2_with fail
  have b2 := below_mark hB1 (.cells #[.int .u8 49, .int .u8 50, .int .u8 51, .int .u8 52] 5 (4, 5))
  have q1 := sum_any' _ 4 4 t1234 _ (hT.step b2) (new_sl w1 t1234 (4, 5) (by decide)) (bys_of (by decide))
  rw [v1] at q1
  refine q1.mono ?_
  rintro e w' ⟨rfl, rfl⟩
  clear q1
  have kc2 := kc (w1.alloc (.cells #[.int .u8 49, .int .u8 50, .int .u8 51, .int .u8 52] 5 (4, 5))) #[.int .u8 53, .int .u8 54, .int .u8 55, .int .u8 56, .int .u8 57] 5 5
  rw [World.size_alloc] at kc2
  go_wp2_with fail
  have d3 := below_mark (below_mark d1 (.cells #[.int .u8 49, .int .u8 50, .int .u8 51, .int .u8 52] 5 (4, 5))) (.cells #[.int .u8 53, .int .u8 54, .int .u8 55, .int .u8 56, .int .u8 57] 5 (5, 6))
  have b3 := below_mark b2 (.cells #[.int .u8 53, .int .u8 54, .int .u8 55, .int .u8 56, .int .u8 57] 5 (5, 6))
  have q1 := sum_any' _ 5 5 t59 _ (hT.step b3) (new_sl (w1.alloc (.cells #[.int .u8 49, .int .u8 50, .int .u8 51, .int .u8 52] 5 (4, 5))) t59 (5, 6) (by decide)) (bys_of (by decide))
  rw [v2] at q1
  rw [World.size_alloc] at q1
  refine q1.mono ?_
  rintro e w' ⟨rfl, rfl⟩
  clear q1
  go_wp2_with fail
  have q1 := join_any 2615402659 320708720 5 ((w1.alloc (.cells #[.int .u8 49, .int .u8 50, .int .u8 51, .int .u8 52] 5 (4, 5))).alloc (.cells #[.int .u8 53, .int .u8 54, .int .u8 55, .int .u8 56, .int .u8 57] 5 (5, 6))) (by omega) (by omega) (by omega)
  rw [v7] at q1
  refine q1.mono ?_
  rintro e w2 ⟨rfl, hb⟩
  clear q1
  have hB2 := below_step b3 hb
  have hD2 := below_step d3 hb
  clear hb b3 b2
  go_wp2_with fail
  have q1 := bit_any 1 7 w2 (by omega) (by omega)
  rw [v8] at q1
  refine q1.mono ?_
  rintro e w3 ⟨rfl, hb⟩
  clear q1
  have hB3 := below_step hB2 hb
  have hc1 := conv_sl (hs1.below (below_step hD2 hb))
  rw [HZ.out] at hc1
  have hT3 := hT.step hB3
  clear hb hB2 hD2 d1 d3 kc2 hB1 hs1 hT1
  have q1 := sum_any' none 0 0 [] w3 hT3 (Sl.nil _ _) Bys.nil
  rw [v9] at q1
  go_wp2_with fail
  refine q1.mono ?_
  rintro e w' ⟨rfl, rfl⟩
  clear q1
  have b4 := below_mark hB3 (.cells #[.int .u8 49, .int .u8 50, .int .u8 51, .int .u8 52, .int .u8 53, .int .u8 54, .int .u8 55, .int .u8 56, .int .u8 57] 5 (9, 10))
  have q1 := sum_any' _ 9 9 t19 _ (hT.step b4) (new_sl w3 t19 (9, 10) (by decide)) (bys_of (by decide))
  rw [v3] at q1
  go_wp2_with fail
  refine q1.mono ?_
  rintro e w' ⟨rfl, rfl⟩
  clear q1
  obtain ⟨w4, hw4⟩ : ∃ w4, w4 = w3.alloc (.cells #[.int .u8 49, .int .u8 50, .int .u8 51, .int .u8 52, .int .u8 53, .int .u8 54, .int .u8 55, .int .u8 56, .int .u8 57] 5 (9, 10)) := ⟨_, rfl⟩
  rw [← hw4] at b4
  have HW4 := Lib.hid hw4
  rw [← hw4]
  clear hw4
  have b5 := below_mark b4 (.cells #[.int .u8 0] 5 (0, 0))
  have q1 := sum_any' _ 1 1 [0] _ (hT.step b5) (new_sl w4 [0] (0, 0) (by decide)) (bys_of (by decide))
  rw [v4] at q1
  go_wp2_with fail
  refine q1.mono ?_
  rintro e w' ⟨rfl, rfl⟩
  clear q1
  obtain ⟨w5, hw5⟩ : ∃ w5, w5 = w4.alloc (.cells #[.int .u8 0] 5 (0, 0)) := ⟨_, rfl⟩
  rw [← hw5] at b5
  rw [← hw5]
  clear hw5
  have b6 := below_mark b5 (.cells #[.int .u8 128] 5 (0, 0))
  have q1 := linear_any _ 1 1 [128] _ (hT.step b6) (new_sl w5 [128] (0, 0) (by decide)) (bys_of (by decide))
  rw [v5] at q1
  go_wp2_with fail
  refine q1.mono ?_
  rintro e w' ⟨rfl, rfl⟩
  clear q1
  obtain ⟨w6, hw6⟩ : ∃ w6, w6 = w5.alloc (.cells #[.int .u8 128] 5 (0, 0)) := ⟨_, rfl⟩
  rw [← hw6] at b6
  rw [← hw6]
  clear hw6
  have b7 := below_mark b6 (.cells #[.int .u8 1] 5 (0, 0))
  have q1 := linear_any _ 1 1 [1] _ (hT.step b7) (new_sl w6 [1] (0, 0) (by decide)) (bys_of (by decide))
  rw [v6] at q1
  go_wp2_with fail
  refine q1.mono ?_
  rintro e w' ⟨rfl, rfl⟩
  clear q1
  go_wp2_with fail
  go_ret
  exact ⟨rfl, b7⟩
end Go.Proofs.YtdaijbplbnkpeaaDoor
