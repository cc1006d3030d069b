/-
  The contracts of the reference's Has and Members; for all words.
-/
import Derived.Test.YtcdjfgkjllonhaaDoorBra
import Derived.Test.YtcdjfgkjllonhaaDoorApp
import Derived.OwnWalk
namespace Go.Proofs.YtcdjfgkjllonhaaDoor
open Go.RowKit Go.Shelf

theorem infoI : (Tryd.prog.info? 3).map (fun i => (i.zero, i.size, i.bytes)) = some (some (.int .i64 0), 1, 8) := by kernel_rfl
theorem one_cellI2 (w : World) (x : Int) : ∀ j u, [Value.int .i64 x][j]? = some u → (w.alloc (.cells #[.int .i64 x] 3)).cell? ((⟨w.heap.size, 0, none⟩ : Addr).add j) = some u := one_cell w .i64 x _
theorem one_oneI2 (x : Int) : ∀ u ∈ [Value.int .i64 x], u.oneCell' = true := one_one .i64 x

/-- Numbers as integers. -/
def ints (L : List Nat) : List Int := L.map fun x : Nat => (x : Int)
theorem ints_len (L : List Nat) : (ints L).length = L.length := by simp [ints]
theorem ints_snoc (L : List Nat) (x : Nat) : ints (L ++ [x]) = ints L ++ [(x : Int)] := by simp [ints]
theorem ints_at {L : List Nat} {k : Nat} (h : k < L.length) : (ints L)[k]?.getD 0 = ((L[k] : Nat) : Int) := by simp [ints, List.getElem?_eq_getElem h]

/-- What a call that returns a list of numbers in new memory ends in. -/
def GivesI (w : World) (L : List Nat) (e : Ending) (w' : World) : Prop := ∃ a cap, e = .returned (.slice a L.length cap) ∧ w'.ownsRow w.heap.size 3 1 (.slice a L.length cap) L.length ((ints L).map (Value.int .i64)) ∧ Below w.heap.size w w'

set_option maxRecDepth 100000 in
set_option maxHeartbeats 1000000 in
theorem rhas_any (w : World) (N i : Int) (a : Option Addr) (n c : Nat) (l : List Int) (hs : Sl .u64 w a n c l) (hw : Wds l) (hN : N ≤ 9223372036854775807) :
    Calls Tryd.prog 41 #[.agg #[.int .i64 N, .slice a n c], .int .i64 i] w fun e w' => e = .returned (.bool (decide (0 ≤ i) && bt (ef N l) i.toNat)) ∧ Below w.heap.size w w' := by
  have hB1 : Below w.heap.size w (w.alloc (.cells #[.int .i64 N, .slice a n c] 31)) := (Below.refl _ w).alloc (Nat.le_refl _) _
  have hB2 : Below w.heap.size w ((w.alloc (.cells #[.int .i64 N, .slice a n c] 31)).alloc (.cells #[.int .i64 N, .slice a n c] 31)) := hB1.alloc hB1.size _
  have hs1 := hs.below hB1
  have hs2 := hs.below hB2
  have qr := fun w hs => rright_any w N a n c l hs hw hN
  cases hR : rightB N l with
  | false =>
    have hb : (decide (0 ≤ i) && bt (ef N l) i.toNat) = false := by rw [ef_no hR, bt_nil, Bool.and_false]
    rw [hb]
    rw [hR] at qr
    clear hs hs2 hb hR
    go_enter Tryd.func41, Tryd.ntmps41
    go_wp2_with fail
    refine (qr _ hs1).mono ?_
    rintro e w' ⟨rfl, hw'⟩
    rw [hw']
    clear hw' qr
    go_wp2_with fail
    go_ret
    exact ⟨rfl, hB2⟩
  | true =>
    have hr := of_rightB hR
    rw [ef_yes hR]
    rw [hR] at qr
    clear hR
    by_cases h0 : 0 ≤ i
    · have hd0 : decide (0 ≤ i) = true := by simpa using h0
      obtain ⟨k, rfl⟩ : ∃ k : Nat, i = (k : Int) := ⟨i.toNat, by omega⟩
      rw [hd0, Bool.true_and, Int.toNat_natCast]
      by_cases h1 : (k : Int) < N
      · have hd1 : decide ((k : Int) < N) = true := by simpa using h1
        have hk : (k : Int) ≤ 65536 := by have := hr.2.1; omega
        have qb := fun w hs => rbit_any w a n c l (k : Int) hs hw (by omega) (by omega)
        simp only [Int.toNat_natCast] at qb
        obtain ⟨B, hBl⟩ : ∃ B, B = bt l k := ⟨_, rfl⟩
        rw [← hBl] at qb ⊢
        clear hr hs hBl
        go_enter Tryd.func41, Tryd.ntmps41
        go_wp2_with fail
        refine (qr _ hs1).mono ?_
        rintro e w' ⟨rfl, hw'⟩
        rw [hw']
        clear hw' qr
        go_wp2_with fail
        refine (qb _ hs2).mono ?_
        rintro e w' ⟨rfl, hw'⟩
        rw [hw']
        clear hw' qb
        cases B with
        | true =>
          rw [b01_true]
          go_wp2_with fail
          go_ret
          exact ⟨rfl, hB2⟩
        | false =>
          rw [b01_false]
          go_wp2_with fail
          go_ret
          exact ⟨rfl, hB2⟩
      · have hd1 : decide ((k : Int) < N) = false := by simpa using h1
        have hb : bt l k = false := hr.out (by omega)
        rw [hb]
        clear hr hs hb
        go_enter Tryd.func41, Tryd.ntmps41
        go_wp2_with fail
        refine (qr _ hs1).mono ?_
        rintro e w' ⟨rfl, hw'⟩
        rw [hw']
        clear hw' qr
        go_wp2_with fail
        go_ret
        exact ⟨rfl, hB2⟩
    · have hd0 : decide (0 ≤ i) = false := by simpa using h0
      rw [hd0, Bool.false_and]
      clear hr hs
      go_enter Tryd.func41, Tryd.ntmps41
      go_wp2_with fail
      refine (qr _ hs1).mono ?_
      rintro e w' ⟨rfl, hw'⟩
      rw [hw']
      clear hw' qr
      go_wp2_with fail
      go_ret
      exact ⟨rfl, hB2⟩

set_option maxRecDepth 100000 in
set_option maxHeartbeats 2000000 in
theorem rmembers_any (w : World) (N : Int) (a : Option Addr) (n c : Nat) (l : List Int) (hs : Sl .u64 w a n c l) (hw : Wds l) (hN : N ≤ 9223372036854775807) :
    Calls Tryd.prog 39 #[.agg #[.int .i64 N, .slice a n c]] w (GivesI w (all (ef N l))) := by
  obtain ⟨i0, hinf, hz0, hz1, hz2⟩ := info_parts infoI
  have hB1 : Below w.heap.size w (w.alloc (.cells #[.int .i64 N, .slice a n c] 31)) := (Below.refl _ w).alloc (Nat.le_refl _) _
  have hB2 : Below w.heap.size w ((w.alloc (.cells #[.int .i64 N, .slice a n c] 31)).alloc (.cells #[.int .i64 N, .slice a n c] 31)) := hB1.alloc hB1.size _
  have hT : Two ((w.alloc (.cells #[.int .i64 N, .slice a n c] 31)).alloc (.cells #[.int .i64 N, .slice a n c] 31)) w.heap.size 31 (.int .i64 N) (.slice a n c) := (Two.new w _ _ _).alloc _
  have hs1 := hs.below hB1
  have qr := fun w hs => rright_any w N a n c l hs hw hN
  cases hR : rightB N l with
  | false =>
    rw [ef_no hR, all_nil]
    rw [hR] at qr
    clear hs hR hT
    go_enter Tryd.func39, Tryd.ntmps39
    go_wp2_with fail
    refine (qr _ hs1).mono ?_
    rintro e w' ⟨rfl, hw'⟩
    rw [hw']
    clear hw' qr
    go_wp2_with fail
    go_ret
    exact ⟨none, 0, rfl, World.ownsRow_nil _ w.heap.size 3 1, hB2⟩
  | true =>
    have hr := of_rightB hR
    rw [ef_yes hR]
    rw [hR] at qr
    clear hR
    obtain ⟨m, rfl⟩ : ∃ m : Nat, N = (m : Int) := ⟨N.toNat, by have := hr.1; omega⟩
    have hm : m ≤ 65536 := by have := hr.2.1; omega
    have HA := Lib.hid (mem_right hr)
    clear hr
    go_enter Tryd.func39, Tryd.ntmps39
    go_wp2_with fail
    refine (qr _ hs1).mono ?_
    rintro e w' ⟨rfl, hw'⟩
    rw [hw']
    clear hw' qr
    obtain ⟨w2, hw2⟩ : ∃ wz, wz = ((w.alloc (.cells #[.int .i64 (m : Int), .slice a n c] 31)).alloc (.cells #[.int .i64 (m : Int), .slice a n c] 31)) := ⟨_, rfl⟩
    rw [← hw2] at hB2 hT ⊢
    have hls : w.heap.size < w2.heap.size := hT.lt
    clear hw2 hs1 hB1
    go_wp2_with fail
    go_loopw [3, 4] (fun V K wr => ∃ k : Nat, k ≤ m ∧ K = .int .i64 (k : Int) ∧ wr.ownsRow w2.heap.size 3 1 V (mem k l).length ((ints (mem k l)).map (Value.int .i64)) ∧ Below w2.heap.size w2 wr) (fun _ K _ => m - (intOf K).toNat)
    case atStart => exact ⟨0, by omega, rfl, World.ownsRow_nil w2 w2.heap.size 3 1, Below.refl _ _⟩
    case round =>
      obtain ⟨k, hk, rfl, hown, hB⟩ := hrel
      obtain ⟨ga, gc, rfl⟩ := own_shape hown
      have hT2 := hT.below hB hls
      have c0 := hT2.c0
      have c1 := hT2.c1
      by_cases hlt : k < m
      · have hd : decide ((k : Int) < (m : Int)) = true := by simp; omega
        have hdn : decide (k < m) = true := by simp; omega
        have qb := fun w hs => rbit_any w a n c l (k : Int) hs hw (by omega) (by omega)
        simp only [Int.toNat_natCast] at qb
        have hs3 := (hs.below hB2).below hB
        obtain ⟨L, hL⟩ : ∃ L, L = mem k l := ⟨_, rfl⟩
        have hll : L.length ≤ k := by rw [hL]; exact mem_len k l
        have hmu := mem_succ k l
        rw [← hL] at hown hmu ⊢
        have HM := Lib.hid hmu
        clear hL hmu
        go_wp2_with fail
        refine (qb _ hs3).mono ?_
        rintro e w' ⟨rfl, hw'⟩
        rw [hw']
        clear hw' qb hs3
        cases hb : bt l k with
        | true =>
          have hmu2 : mem (k + 1) l = L ++ [k] := by rw [HM.out, hb]; rfl
          have HM2 := Lib.hid hmu2
          rw [b01_true]
          clear hb hmu2
          have hsz := hB.size
          go_wp2_with (at_builtin; refine wpList_append_own _ rfl (.tmp 19) (.tmp 21) 27 rfl w2.heap.size 3 i0 (.int .i64 0) 1 8 Tryd.underlying27 hinf hz0 hz1 hz2 rfl (by decide) _ _ _ rfl (hown.alloc _) ⟨wr.heap.size, 0, none⟩ 1 1 [.int .i64 (k : Int)] rfl rfl ?d1 ?d2 ?d3 ?d4 ?d5 ?_)
          case d1 => exact one_cellI2 _ _
          case d2 => exact one_oneI2 _
          case d3 => unfold maxLen; omega
          case d4 => omega
          case d5 => simp; omega
          intro v' w5 hown' hgrow _
          have hBn : Below w2.heap.size w2 w5 := (hB.alloc hsz _).grown hgrow (by simp; omega) (fun k hk => (hown.lt k hk).1)
          have hown2 : w5.ownsRow w2.heap.size 3 1 v' (mem (k + 1) l).length ((ints (mem (k + 1) l)).map (Value.int .i64)) := by
            rw [HM2.out, ints_snoc, List.length_append]; simpa using hown'
          clear hown' hgrow hown hB hsz
          go_wp2_with fail
          go_roundw
          case rel => exact ⟨k + 1, by omega, by go_num, hown2, hBn⟩
          case measure => simp [intOf]; omega
        | false =>
          have hmu2 : mem (k + 1) l = L := by rw [HM.out, hb]; rfl
          have HM2 := Lib.hid hmu2
          rw [b01_false]
          clear hb hmu2
          go_wp2_with fail
          go_roundw
          case rel => exact ⟨k + 1, by omega, by go_num, by rw [HM2.out]; exact hown, hB⟩
          case measure => simp [intOf]; omega
      · have hd : decide ((k : Int) < (m : Int)) = false := by simp; omega
        have hdn : decide (k < m) = false := by simp; omega
        obtain rfl : k = m := by omega
        rw [HA.out] at hown
        have hown2 := own_base hown (Nat.le_of_lt hls)
        clear hown
        go_wp2_with fail
        go_ret
        exact ⟨ga, gc, by rw [← HA.out]; rfl, hown2, hB2.trans (hB.mono (by omega))⟩
end Go.Proofs.YtcdjfgkjllonhaaDoor
