/-
  The contract of the reference's Of; for all right arguments.
-/
import Derived.Test.YtcdjfgkjllonhaaDoorBrc
import Derived.Test.YtcdjfgkjllonhaaDoorApz
import Derived.BigRegion
namespace Go.Proofs.YtcdjfgkjllonhaaDoor
open Go.RowKit Go.Shelf

theorem bodyPost_cell1 {P : Program} {fn : Func} {R : Ending → World → Prop} {a : Act} {w : World} {p : Tmp} {ty : TypeId} (h : fn.results = #[.cell p ty]) (b : Nat) (hp : a.tmps.getD p undef = .pointer (some ⟨b, 0, none⟩))
    (cs : List Value) (d : TypeDesc) (hc : w.rangeAt b 0 cs) (hu : P.underlying ty = some d) (hd : d.isRow = true) (hi : (P.info? ty).map (·.size) = some cs.length) (hdf : a.defers = [])
    (hR : R (.returned (.agg cs.toArray)) w) : bodyPost P fn R .ret a w := by
  refine bodyPost_ret ?_ hdf hR
  have hp' : a.tmps[p]?.getD undef = .pointer (some ⟨b, 0, none⟩) := by simpa using hp
  simp [results, h, hp', asAddr, run_loadVar_mid w b 0 ty cs d hc hu hd hi]

theorem infoU : (Tryd.prog.info? 30).map (fun i => (i.zero, i.size, i.bytes)) = some (some (.int .u64 0), 1, 8) := by kernel_rfl
theorem made_zerosU (n : Nat) : (madeCells #[Value.int .u64 0] n).toList = (List.replicate n (0 : Int)).map (Value.int .u64) := by
  unfold madeCells
  simp [Nat.mod_one, List.map_const']
theorem Wds.zeros (n : Nat) : Wds (List.replicate n 0) := fun x hx => by rw [List.eq_of_mem_replicate hx]; omega
theorem bt_zeros (n i : Nat) : bt (List.replicate n 0) i = false := by
  unfold bt
  by_cases h : i / 64 < n
  · rw [List.getElem?_replicate, if_pos h]; simp
  · rw [List.getElem?_replicate, if_neg h]; simp
theorem Wds.set {l : List Int} (h : Wds l) (j : Nat) {x : Int} (hx : 0 ≤ x ∧ x < 18446744073709551616) : Wds (l.set j x) := fun y hy => by
  rcases List.mem_or_eq_of_mem_set hy with hy | rfl
  · exact h y hy
  · exact hx
/-- The bits behind a store. -/
theorem bt_set {l : List Int} {j v : Nat} (hj : j < l.length) (i : Nat) : bt (l.set j (v : Int)) i = if i / 64 = j then v.testBit (i % 64) else bt l i := by
  unfold bt
  rw [List.getElem?_set]
  by_cases h : j = i / 64
  · rw [if_pos h, if_pos hj, if_pos h.symm]; simp
  · rw [if_neg h, if_neg (fun e => h e.symm)]
theorem tb_or (x r j : Nat) : (x ||| 2 ^ r).testBit j = (x.testBit j || decide (j = r)) := by
  rw [Nat.testBit_or, Nat.testBit_two_pow]
  by_cases h : r = j
  · simp [h]
  · have : ¬ j = r := fun e => h e.symm
    simp [h, this]
theorem add_or {x r : Nat} (hx : x < 2 ^ 64) (hr : r < 64) (h : x.testBit r = false) : x + 2 ^ r = x ||| 2 ^ r := by
  have h2 : 2 ^ r < 2 ^ 64 := Nat.pow_lt_pow_right (by omega) hr
  have hz : BitVec.ofNat 64 x &&& BitVec.ofNat 64 (2 ^ r) = 0#64 := by
    refine BitVec.eq_of_getLsbD_eq fun i hi => ?_
    rw [BitVec.getLsbD_and, BitVec.getLsbD_ofNat, BitVec.getLsbD_ofNat, Nat.testBit_two_pow]
    by_cases hir : r = i
    · subst hir; simp [h]
    · simp [hir]
  have := congrArg BitVec.toNat (BitVec.add_eq_or_of_and_eq_zero _ _ hz)
  rw [BitVec.toNat_add, BitVec.toNat_or, BitVec.toNat_ofNat, BitVec.toNat_ofNat, Nat.mod_eq_of_lt hx, Nat.mod_eq_of_lt h2] at this
  have hor : x ||| 2 ^ r < 2 ^ 64 := Nat.or_lt_two_pow hx h2
  have hlt : x + 2 ^ r < 2 ^ 65 := by omega
  by_cases h3 : x + 2 ^ r < 2 ^ 64
  · rwa [Nat.mod_eq_of_lt h3] at this
  · have h4 : (x + 2 ^ r) % 2 ^ 64 = x + 2 ^ r - 2 ^ 64 := by omega
    have h5 : x ≤ x ||| 2 ^ r := Nat.left_le_or
    omega

theorem two_set {w : World} {b : Nat} {t : TypeId} {v0 v1 : Value} (h : Two w b t v0 v1) {g : Nat} (hg : b ≠ g) (j : Nat) (x : Value) : Two (w.setCell ⟨g, j, none⟩ x) b t v0 v1 := (Below.heap_setCell _ _ _ _ hg).trans h
theorem own_other {w : World} {base : Nat} {e : TypeId} {size g W c : Nat} {n : Nat} {xs : List Value} (h : w.ownsRow base e size (.slice (some ⟨g, 0, none⟩) W c) n xs) {b : Nat} (hb : b ≠ g) (o : Nat) (x : Value) : (w.setCell ⟨b, o, none⟩ x).ownsRow base e size (.slice (some ⟨g, 0, none⟩) W c) n xs := by
  refine ⟨h.1, ?_⟩
  rcases h.2 with h1 | ⟨g', cap, cur, hv, hb2, hg, hn, hm, hc, ht⟩
  · exact .inl h1
  · cases hv
    exact .inr ⟨g, c, cur, rfl, hb2, (Below.heap_setCell _ _ _ g (fun e => hb e.symm)).trans hg, hn, hm, hc, ht⟩
theorem two_drewN {w : World} {b : Nat} {t : TypeId} {v0 v1 : Value} (h : Two w b t v0 v1) (n : Nat) : Two (w.drewN n) b t v0 v1 := h
theorem two_drew {w : World} {b : Nat} {t : TypeId} {v0 v1 : Value} (h : Two w b t v0 v1) : Two w.drew b t v0 v1 := h
/-- A number put into words that have its bit at 0. -/
theorem put_bit {l : List Int} (h : Wds l) {x : Nat} (hx : x < 64 * l.length) (hb : bt l x = false) : ∃ X P : Nat, l[x / 64]?.getD 0 = (X : Int) ∧ X < 2 ^ 64 ∧ P = 2 ^ (x % 64) ∧ X + P < 2 ^ 64 ∧ Wds (l.set (x / 64) ((X + P : Nat) : Int)) ∧ ∀ i, bt (l.set (x / 64) ((X + P : Nat) : Int)) i = (bt l i || decide (i = x)) := by
  have h0 := h.at (x / 64)
  refine ⟨(l[x / 64]?.getD 0).toNat, 2 ^ (x % 64), by omega, h.toNat _, rfl, ?_⟩
  have ho := add_or (h.toNat (x / 64)) (Nat.mod_lt x (by omega)) hb
  have hor : (l[x / 64]?.getD 0).toNat ||| 2 ^ (x % 64) < 2 ^ 64 := Nat.or_lt_two_pow (h.toNat _) (Nat.pow_lt_pow_right (by omega) (Nat.mod_lt x (by omega)))
  rw [ho]
  refine ⟨hor, h.set _ ⟨by omega, by omega⟩, fun i => ?_⟩
  rw [bt_set (by omega), tb_or]
  by_cases hi : i / 64 = x / 64
  · rw [if_pos hi]
    have e : decide (i % 64 = x % 64) = decide (i = x) := decide_eq_decide.2 ⟨fun _ => by omega, fun _ => by omega⟩
    rw [e]; unfold bt; rw [hi]
  · rw [if_neg hi]
    have : ¬ i = x := fun e => hi (by rw [e])
    simp [this]
theorem take_has {L : List Nat} {k : Nat} (h : k < L.length) (i : Nat) : (L.take (k + 1)).contains i = ((L.take k).contains i || decide (i = L[k])) := by
  rw [List.take_succ_eq_append_getElem h, List.contains_eq_any_beq, List.any_append, ← List.contains_eq_any_beq]
  simp [Bool.beq_eq_decide_eq]

/-- What a call that returns a set in new memory ends in: the set with N n of the numbers of which p says yes. -/
def SetR (w : World) (n : Nat) (p : Nat → Bool) (e : Ending) (w' : World) : Prop :=
  ∃ g c R, e = .returned (.agg #[.int .i64 (n : Int), .slice g ((n + 63) / 64) c]) ∧ w'.ownsRow w.heap.size 30 1 (.slice g ((n + 63) / 64) c) ((n + 63) / 64) (R.map (Value.int .u64)) ∧ Wds R ∧ (∀ i, bt R i = p i) ∧ Below w.heap.size w w'

set_option maxRecDepth 100000 in
set_option maxHeartbeats 4000000 in
theorem rof_any (w : World) (n : Nat) (a : Option Addr) (m c : Nat) (L : List Nat) (hs : Sl .i64 w a m c (ints L)) (hn : n ≤ 65536) (hL : ∀ x ∈ L, x < n) :
    Calls Tryd.prog 16 #[.int .i64 (n : Int), .slice a m c] w (SetR w n fun i => L.contains i) := by
  unfold SetR
  obtain ⟨i0, hinf, hz0, hz1, hz2⟩ := info_parts infoU
  obtain ⟨W, hW⟩ : ∃ W : Nat, W = (n + 63) / 64 := ⟨_, rfl⟩
  have eW : ((n : Int) + 63) / 64 = (W : Int) := by omega
  have hWl : W ≤ 1024 := by omega
  have hnW : n ≤ 64 * W := by omega
  rw [← hW]
  clear hW
  have hm : L.length = m := by have := hs.1; rwa [ints_len] at this
  have hc9 := hs.2.1
  have hc8 := hs.2.2.1
  go_enter Tryd.func16, Tryd.ntmps16
  go_wp2_with (at_make; refine wpList_make_full _ rfl _ _ 22 rfl w.heap.size 30 i0 (.int .u64 0) 1 Tryd.underlying22 hinf hz0 hz1 .i64 .i64 _ _ W rfl rfl eW eW (by rw [hz2]; omega) (by unfold maxLen; omega) (by simp only [World.size_alloc]; omega) ?_)
  intro w0 hown0 hgrow0
  have hB0 : Below w.heap.size w w0 := ((Below.refl _ _).alloc (Nat.le_refl _) _).grown hgrow0 (by simp) (fun _ hk => by cases hk)
  rw [made_zerosU] at hown0
  have hQ0 : Two w0 w.heap.size 31 (.int .i64 0) (.slice none 0 0) := (hgrow0.block w.heap.size (by simp only [World.size_alloc]; omega) (fun e => by cases e)).trans (Two.new w _ _ _)
  obtain ⟨R0, hR0⟩ : ∃ R : List Int, R = List.replicate W 0 := ⟨_, rfl⟩
  rw [← hR0] at hown0
  have hWd0 : Wds R0 := by rw [hR0]; exact Wds.zeros W
  have hbt0 : ∀ i, bt R0 i = false := fun i => by rw [hR0]; exact bt_zeros W i
  have HB0 := Lib.hid hbt0
  clear hR0 hbt0 hgrow0
  go_wp2_with fail
  have hT1 : Two (w0.alloc (.cells #[.int .i64 (n : Int), .slice (some ⟨w.heap.size + 1, 0, none⟩) W W] 31)) w0.heap.size 31 (.int .i64 (n : Int)) (.slice (some ⟨w.heap.size + 1, 0, none⟩) W W) := Two.new w0 _ _ _
  have hl := (World.ownsRow.lt hown0 (w.heap.size + 1) rfl).2
  have hB1 := hB0.alloc (o := .cells #[.int .i64 (n : Int), .slice (some ⟨w.heap.size + 1, 0, none⟩) W W] 31) hB0.size
  have hown1 := hown0.alloc (.cells #[.int .i64 (n : Int), .slice (some ⟨w.heap.size + 1, 0, none⟩) W W] 31)
  have hQ1 := hQ0.alloc (.cells #[.int .i64 (n : Int), .slice (some ⟨w.heap.size + 1, 0, none⟩) W W] 31)
  obtain ⟨w1, hw1⟩ : ∃ wz, wz = w0.alloc (.cells #[.int .i64 (n : Int), .slice (some ⟨w.heap.size + 1, 0, none⟩) W W] 31) := ⟨_, rfl⟩
  rw [← hw1] at hT1 hQ1 hB1 hown1 ⊢
  obtain ⟨sb, hsb⟩ : ∃ b, b = w0.heap.size := ⟨_, rfl⟩
  rw [← hsb] at hT1 hl ⊢
  obtain ⟨rb, hrb⟩ : ∃ b, b = w.heap.size := ⟨_, rfl⟩
  obtain ⟨g, hg⟩ : ∃ b, b = w.heap.size + 1 := ⟨_, rfl⟩
  have hgr : g = rb + 1 := by omega
  rw [← hg] at hT1 hown1 hl ⊢
  rw [← hrb] at hQ1 ⊢
  have hbg : w.heap.size ≤ g ∧ w.heap.size ≤ rb := by omega
  have nsb : sb ≠ g ∧ rb ≠ g ∧ rb ≠ sb := by omega
  have hsl : w.heap.size ≤ sb := by omega
  clear hw1 hsb hg hgr hown0 hB0 hQ0 hl hrb
  go_loopw [6] (fun I wr => ∃ (k : Nat) (R : List Int), k ≤ m ∧ I = .int .i64 (k : Int) ∧ Wds R ∧ (∀ i, bt R i = (L.take k).contains i) ∧ wr.ownsRow w.heap.size 30 1 (.slice (some ⟨g, 0, none⟩) W W) W (R.map (Value.int .u64)) ∧ Two wr sb 31 (.int .i64 (n : Int)) (.slice (some ⟨g, 0, none⟩) W W) ∧ Two wr rb 31 (.int .i64 0) (.slice none 0 0) ∧ Below w.heap.size w wr) (fun I _ => m - (intOf I).toNat)
  case atStart => exact ⟨0, R0, by omega, rfl, hWd0, fun i => by rw [HB0.out]; simp, hown1, hT1, hQ1, hB1⟩
  case round =>
    clear hWd0 hown1 hT1 hQ1 hB1
    obtain ⟨k, R, hk, rfl, hWd, hbt, hown, hT, hQ, hB⟩ := hrel
    obtain ⟨w2, hw2⟩ : ∃ wz, wz = wr := ⟨_, rfl⟩
    subst hw2
    have HBT := Lib.hid hbt
    clear hbt
    have c0 := hT.c0
    have c1 := hT.c1
    have hRl : R.length = W := by have h := hown.1; rw [List.length_map, Nat.mul_one] at h; exact h
    by_cases hlt : k < m
    · have hd : decide ((k : Int) < (m : Int)) = true := by simp; omega
      have hdn : decide (k < m) = true := by simp; omega
      have i1 : (k : Int) < (m : Int) := by omega
      obtain ⟨lb, off, rfl, hc⟩ := (hs.below hB).view (by omega)
      have hltL : k < L.length := by omega
      have hcell := hc k hlt
      rw [ints_at hltL] at hcell
      obtain ⟨x, hx⟩ : ∃ x, x = L[k] := ⟨_, rfl⟩
      have hxn : x < n := by rw [hx]; exact hL _ (List.getElem_mem hltL)
      have htk := take_has hltL
      rw [← hx] at hcell htk
      have HTK := Lib.hid htk
      have HX := Lib.hid hx
      clear hx hc htk
      have qb := fun w hs => rbit_any w (some ⟨g, 0, none⟩) W W R (x : Int) hs hWd (by omega) (by omega)
      simp only [Int.toNat_natCast] at qb
      have hsR := own_sl hown
      have qq : ∀ q, _ := fun q => qb (w2.drewN q) (hsR.below (below_drewN (Below.refl _ _) q))
      obtain ⟨B, hBl⟩ : ∃ B, B = bt R x := ⟨_, rfl⟩
      simp only [← hBl] at qq qb
      have HBL := Lib.hid hBl
      clear hBl hsR
      go_wp2_with fail
      go_quiet ((go_at_call 54; exact Calls.quiet_of_same (qq _)))
      have hB3 := below_drewN hB nq
      have hT3 := two_drewN hT nq
      have hQ3 := two_drewN hQ nq
      have hown3 : (w2.drewN nq).ownsRow w.heap.size 30 1 (.slice (some ⟨g, 0, none⟩) W W) W (R.map (Value.int .u64)) := hown
      have hs3 := hs.below hB3
      obtain ⟨w3, hw3⟩ : ∃ wz, wz = w2.drewN nq := ⟨_, rfl⟩
      rw [← hw3] at hB3 hT3 hQ3 hown3 hs3 ⊢
      clear hB hT hQ hown hw3 qq qb c0 c1 hcell
      cases B with
      | true =>
        rw [b01_true]
        go_wp2_with fail
        go_roundw
        case rel =>
          refine ⟨k + 1, R, by omega, by go_num, hWd, fun i => ?_, hown3, hT3, hQ3, hB3⟩
          rw [HTK.out, ← HBT.out]
          by_cases hi : i = x
          · subst hi; rw [← HBL.out]; rfl
          · simp [hi]
        case measure => simp [intOf]; omega
      | false =>
        rw [b01_false]
        have c0 := hT3.c0
        have c1 := hT3.c1
        obtain ⟨X, P, hX, hXl, hP, hXP, hWd2, hbt2⟩ := put_bit hWd (x := x) (by omega) HBL.out.symm
        obtain ⟨j, hj⟩ : ∃ j : Nat, j = x / 64 := ⟨_, rfl⟩
        obtain ⟨r, hr⟩ : ∃ r : Nat, r = x % 64 := ⟨_, rfl⟩
        rw [← hj] at hX hWd2 hbt2
        rw [← hr] at hP
        have ej : (x : Int) / 64 = (j : Int) := by omega
        have er : (x : Int) % 64 = (r : Int) := by omega
        have er2 : (x : Int).tmod 64 = (r : Int) := by rw [Int.tmod_eq_emod_of_nonneg (by omega)]; exact er
        have hjW : j < W := by omega
        have i2 : (j : Int) < (W : Int) := by omega
        have hrl : r < 64 := by omega
        have eP : (2 : Int) ^ r = (P : Int) := by rw [hP]; push_cast; rfl
        have eP2 : IntKind.u64.wrap (P : Int) = (P : Int) := by rw [IntKind.wrap_u64]; omega
        have eS : IntKind.u64.wrap ((X : Int) + (P : Int)) = ((X + P : Nat) : Int) := by rw [IntKind.wrap_u64]; omega
        have cW := hown3.cellAt j (by omega)
        rw [List.getElem?_map, List.getElem?_eq_getElem (by omega : j < R.length)] at cW
        rw [List.getElem?_eq_getElem (by omega : j < R.length)] at hX
        simp only [Option.getD_some] at hX
        simp only [Option.map_some, hX] at cW
        have fW := hown3.frozenAt j
        obtain ⟨lb2, off2, he, hc⟩ := hs3.view (by omega)
        cases he
        have hcell := hc k hlt
        rw [ints_at hltL, ← HX.out] at hcell
        have wj : IntKind.i64.wrap (j : Int) = (j : Int) := by rw [IntKind.wrap_i64]; omega
        have wr2 : IntKind.i64.wrap (r : Int) = (r : Int) := by rw [IntKind.wrap_i64]; omega
        have hst := (hown3.stored j (.int .u64 ((X + P : Nat) : Int))).1
        rw [← List.map_set] at hst
        have hT4 := two_set hT3 nsb.1 j (.int .u64 ((X + P : Nat) : Int))
        have hQ4 := two_set hQ3 nsb.2.1 j (.int .u64 ((X + P : Nat) : Int))
        have hB4 := hB3.setCell (p := ⟨g, j, none⟩) hbg.1 (.int .u64 ((X + P : Nat) : Int))
        have HB4 := Lib.hid (And.intro hWd2 (And.intro hbt2 (And.intro hst (And.intro hT4 (And.intro hQ4 hB4)))))
        clear hB3 hT3 hQ3 hown3 hs3 hj hr hX hc hWd2 hbt2 hst hT4 hQ4 hB4 hP
        go_wp2_with fail
        go_region
        go_wp2_with fail
        obtain ⟨hWd2, hbt2, hst, hT4, hQ4, hB4⟩ := HB4.out
        go_roundw
        case rel =>
          refine ⟨k + 1, _, by omega, by go_num, hWd2, fun i => ?_, hst, two_drew hT4, two_drew hQ4, hB4.drew⟩
          rw [hbt2, HTK.out, ← HBT.out]
        case measure => simp [intOf]; omega
    · have hd : decide ((k : Int) < (m : Int)) = false := by simp; omega
      have hdn : decide (k < m) = false := by simp; omega
      have hall : ∀ i, bt R i = L.contains i := fun i => by rw [HBT.out, List.take_of_length_le (by omega)]
      have HALL := Lib.hid hall
      have hQ2 := hQ.range_set (.int .i64 (n : Int)) (.slice (some ⟨g, 0, none⟩) W W)
      have hB2 := (hB.setCell (p := ⟨rb, 0, none⟩) hbg.2 (.int .i64 (n : Int))).setCell (p := ⟨rb, 1, none⟩) hbg.2 (.slice (some ⟨g, 0, none⟩) W W)
      have hown2 : ((w2.setCell ⟨rb, 0, none⟩ (.int .i64 (n : Int))).setCell ⟨rb, 1, none⟩ (.slice (some ⟨g, 0, none⟩) W W)).ownsRow w.heap.size 30 1 (.slice (some ⟨g, 0, none⟩) W W) W (R.map (Value.int .u64)) := own_other (own_other hown nsb.2.1 _ _) nsb.2.1 _ _
      have q0 := hQ.c0
      have q1 := hQ.c1
      have q2 := hQ.f0
      have q3 := hQ.f1
      clear hall
      go_wp2_with fail
      refine bodyPost_cell1 rfl rb rfl _ _ hQ2 Tryd.underlying31 rfl (by kernel_rfl) rfl ?_
      exact ⟨some ⟨g, 0, none⟩, W, R, rfl, hown2, hWd, HALL.out, hB2⟩
end Go.Proofs.YtcdjfgkjllonhaaDoor
