/-
  The walk of the stage's law: what is written is taken back. No condition but those in each statement.
-/
import Derived.Test.YtakpockkagfphaaBk
namespace Go.Proofs.Ytakpockkagfphaa
open Go.RowKit Go.Shelf
set_option linter.unusedVariables false

theorem infoPc : (Try.prog.info? 39).map (fun i => (i.zero, i.size, i.bytes)) = some (some (.agg #[.int .u8 0, .int .u8 0, .int .u64 0, .slice none 0 0]), 4, 40) := by kernel_rfl
theorem infoInt : (Try.prog.info? 3).map (fun i => (i.zero, i.size, i.bytes)) = some (some (.int .i64 0), 1, 8) := by kernel_rfl
theorem own_lit1 (w : World) (e : TypeId) (base : Nat) (v : Value) (hb : base ≤ w.heap.size) : (w.alloc (.cells #[v] e)).ownsRow base e 1 (.slice (some ⟨w.heap.size, 0, none⟩) 1 1) 1 [v] :=
  ⟨rfl, .inr ⟨w.heap.size, 1, #[v], rfl, hb, heap_alloc_new w _, Nat.le_refl _, by decide, by simp, by simp⟩⟩
theorem Wr.grown {w w' : World} {r : Nat} {lim : Int} {v : Value} {l : List Int} {row : Option Nat} (h : Wr w r lim v l) (hg : w.grownBy w' row) (hne : ∀ k, row = some k → ¬ Mine r v k) : Wr w' r lim v l :=
  h.bx (X := fun k => row = some k) ((Bx.refl _ w).grown hg (fun k hk => .inl hk)) (fun k hk hh => hne k hh hk)
theorem pcV_one (p : Pc) : ∀ u ∈ pcV p, u.oneCell' = true := by
  intro u hu
  simp only [pcV, List.mem_cons, List.not_mem_nil, or_false] at hu
  rcases hu with rfl | rfl | rfl | rfl <;> rfl
theorem pcV_cells (w : World) (p : Pc) (e : TypeId) : ∀ j u, (pcV p)[j]? = some u → (w.alloc (.cells (pcV p).toArray e)).cell? ((⟨w.heap.size, 0, none⟩ : Addr).add j) = some u := by
  intro j u hj
  have hF := Four.new w e (.int .u8 p.kd) (.int .u8 p.N) (.int .u64 p.X) (.slice p.ba p.bn p.bc)
  match j, hj with
  | 0, hj => simp [pcV] at hj; subst hj; exact hF.c0
  | 1, hj => simp [pcV] at hj; subst hj; exact hF.c1
  | 2, hj => simp [pcV] at hj; subst hj; exact hF.c2
  | 3, hj => simp [pcV] at hj; subst hj; exact hF.c3
  | k + 4, hj => simp [pcV] at hj
theorem min60 (n : Nat) : (min (n : Int) 60).toNat = min n 60 := by omega

/-- What holds between two pieces that are written. -/
def BkI (W : World) (r : Nat) (L : Int) (K : List Pc) (v : Value) (kv ev : Value) (wr : World) : Prop :=
  (∀ p ∈ K, PcOk W p) ∧ K.length ≤ 60 ∧ wr.ownsRow W.heap.size 39 4 kv K.length (pcVs K) ∧ wr.ownsRow W.heap.size 3 1 ev (K.length + 1) ((endsB K).map (Value.int .i64)) ∧ Wr wr r L v (catB K) ∧ W.heap.size ≤ r ∧ Below W.heap.size W wr
theorem BkI.below {W : World} {r : Nat} {L : Int} {K : List Pc} {v kv ev : Value} {wr w' : World} (h : BkI W r L K v kv ev wr) (hb : Below wr.heap.size wr w') : BkI W r L K v kv ev w' := by
  obtain ⟨h1, h2, h3, h4, h5, h6, h7⟩ := h
  exact ⟨h1, h2, ownsRow_below h3 hb, ownsRow_below h4 hb, h5.below hb, h6, step_below h7 hb (Nat.le_refl _)⟩

/-- What stays in the regions that read a piece back. -/
def KS (w : World) (r b ge q : Nat) (v0 v1 v2 v3 u : Value) (w' : World) : Prop := Bx (Only r) w w' ∧ w'.cell? ⟨b, 0, none⟩ = some v0 ∧ w'.cell? ⟨b, 1, none⟩ = some v1 ∧ w'.cell? ⟨b, 2, none⟩ = some v2 ∧ w'.cell? ⟨b, 3, none⟩ = some v3 ∧ w'.cell? ⟨ge, q, none⟩ = some u
theorem KS.bx {w w1 w2 : World} {r b ge q : Nat} {v0 v1 v2 v3 u : Value} (h : KS w r b ge q v0 v1 v2 v3 u w1) (hx : Bx (Only r) w1 w2) (hb : b ≠ r) (hg : ge ≠ r) : KS w r b ge q v0 v1 v2 v3 u w2 :=
  ⟨h.1.trans hx, hx.cell h.2.1 (Only.ne hb), hx.cell h.2.2.1 (Only.ne hb), hx.cell h.2.2.2.1 (Only.ne hb), hx.cell h.2.2.2.2.1 (Only.ne hb), hx.cell h.2.2.2.2.2 (Only.ne hg)⟩
theorem KS.step {w w1 w2 : World} {r b ge q : Nat} {v0 v1 v2 v3 u : Value} (h : KS w r b ge q v0 v1 v2 v3 u w1) (hb : Below w1.heap.size w1 w2) : KS w r b ge q v0 v1 v2 v3 u w2 :=
  ⟨h.1.then hb, (hb.cell (World.block_lt_of_cell? w1 _ h.2.1)).trans h.2.1, (hb.cell (World.block_lt_of_cell? w1 _ h.2.2.1)).trans h.2.2.1, (hb.cell (World.block_lt_of_cell? w1 _ h.2.2.2.1)).trans h.2.2.2.1, (hb.cell (World.block_lt_of_cell? w1 _ h.2.2.2.2.1)).trans h.2.2.2.2.1, (hb.cell (World.block_lt_of_cell? w1 _ h.2.2.2.2.2)).trans h.2.2.2.2.2⟩
theorem KS.drew {w w1 : World} {r b ge q : Nat} {v0 v1 v2 v3 u : Value} (h : KS w r b ge q v0 v1 v2 v3 u w1) : KS w r b ge q v0 v1 v2 v3 u w1.drew := h.step (Below.refl _ _).drew

set_option maxRecDepth 100000 in
set_option maxHeartbeats 3000000 in
theorem back_walk (W : World) (a : Option Addr) (len cap : Nat) (f : Nat → Pc) (lim cut : Int) (hs : Pcs W a len cap f) (wl : (Lit.int .u16 lim).wf = true) (wc : (Lit.int .u16 cut).wf = true) :
    Calls Try.prog 6 #[.slice a len cap, .int .u16 lim, .int .u16 cut] W fun e w' => e = .returned (.bool true) ∧ Below W.heap.size W w' := by
  obtain ⟨hl0, hl1⟩ := bounds_u16 wl
  obtain ⟨hc0, hc1⟩ := bounds_u16 wc
  clear wl wc
  have hlw : wrap64 lim = lim := IntWalk.wrap64_in lim ⟨by omega, by omega⟩
  have hcw : wrap64 cut = cut := IntWalk.wrap64_in cut ⟨by omega, by omega⟩
  obtain ⟨L, hL⟩ : ∃ L, lim % 2001 = L := ⟨_, rfl⟩
  have hL0 : 0 ≤ L := by omega
  have hL1 : L ≤ 2000 := by omega
  obtain ⟨ip, hpi, hpz, hps, hpb⟩ := info_parts infoPc
  obtain ⟨ii, hii, hiz, his, hib⟩ := info_parts infoInt
  have hlc := hs.1
  have hcm := hs.2.1
  have hm60 : min len 60 ≤ 60 := Nat.min_le_right _ _
  have hml : min len 60 ≤ len := Nat.min_le_left _ _
  have hc60 := min60 len
  obtain ⟨M, hM⟩ : ∃ M, M = min len 60 := ⟨_, rfl⟩
  rw [← hM] at hm60 hml hc60
  clear hM
  go_enter Try.func6, Try.ntmps6
  go_wp2_with fail
  refine (awake_any W).mono ?_
  rintro e w1 ⟨rfl, hB1⟩
  go_wp2_with fail
  refine (newWriter_ok w1 L (by omega)).mono ?_
  rintro e w2 ⟨rfl, hW2, hB2⟩
  have hbel2 := step_below hB1 hB2 (Nat.le_refl _)
  have hlit := own_lit1 w2 3 W.heap.size (.int .i64 0) hbel2.size
  have hBa : Below w2.heap.size w2 (w2.alloc (.cells #[.int .i64 0] 3)) := (Below.refl _ _).alloc (Nat.le_refl _) _
  obtain ⟨r, hr⟩ : ∃ r, r = w1.heap.size := ⟨_, rfl⟩
  rw [← hr] at hW2
  have hI2 : BkI W r L [] (.slice none 0 0) (.slice none 0 0) (.slice (some ⟨w2.heap.size, 0, none⟩) 1 1) (w2.alloc (.cells #[.int .i64 0] 3)) :=
    ⟨(fun p hp => by cases hp), by simp, World.ownsRow_nil _ _ _ _, hlit, hW2.below hBa, by rw [hr]; exact hB1.size, step_below hbel2 hBa (Nat.le_refl _)⟩
  rw [← hr]
  clear hB1 hB2 hW2 hbel2 hlit hBa hr
  go_wp2_with fail
  go_loopw [9, 10, 11, 43] (fun kv ev sz i wr => ∃ (j : Nat) (K : List Pc) (v : Value), i = .int .i64 j ∧ j ≤ M ∧ K.length ≤ j ∧ sz = .int .i64 (catB K).length ∧ BkI W r L K v kv ev wr) (fun _ _ _ i _ => M - (intOf i).toNat)
  case atStart => exact ⟨0, [], .slice none 0 0, rfl, by omega, by simp, rfl, hI2⟩
  case round =>
    obtain ⟨j, K, v, rfl, hj, hKj, rfl, hI⟩ := hrel
    have hbel : Below W.heap.size W wr := hI.2.2.2.2.2.2
    have hK60 := hI.2.1
    have hlimK : ((catB K).length : Int) ≤ L := hI.2.2.2.2.1.2.2.1
    obtain ⟨ak, ck, hkv⟩ := own_shape hI.2.2.1
    obtain ⟨ae, ce, hev⟩ := own_shape hI.2.2.2.1
    subst hkv
    subst hev
    by_cases hlt : j < M
    · obtain ⟨bA, oA, rfl, hcells⟩ : ∃ bA oA, a = some ⟨bA, oA, none⟩ ∧ ∀ i, i < len → PcAt W bA (oA + i * 4) (f i) ∧ PcOk W (f i) := by
        rcases hs.2.2 with ⟨h, _⟩ | h
        · omega
        · exact h
      obtain ⟨hat, hok⟩ := hcells j (by omega)
      obtain ⟨p, hp⟩ : ∃ p, p = f j := ⟨_, rfl⟩
      rw [← hp] at hat hok
      obtain ⟨x0, x1, x2, x3⟩ := hat
      have hbA : bA < W.heap.size := World.block_lt_of_cell? W _ x0
      have z0 := (hbel.cell (p := ⟨bA, oA + j * 4, none⟩) hbA).trans x0
      have z1 := (hbel.cell (p := ⟨bA, oA + j * 4 + 1, none⟩) hbA).trans x1
      have z2 := (hbel.cell (p := ⟨bA, oA + j * 4 + 2, none⟩) hbA).trans x2
      have z3 := (hbel.cell (p := ⟨bA, oA + j * 4 + 3, none⟩) hbA).trans x3
      have hF := Four.new wr 39 (.int .u8 p.kd) (.int .u8 p.N) (.int .u64 p.X) (.slice p.ba p.bn p.bc)
      have hBo : Below wr.heap.size wr (wr.alloc (.cells #[.int .u8 p.kd, .int .u8 p.N, .int .u64 p.X, .slice p.ba p.bn p.bc] 39)) := (Below.refl _ _).alloc (Nat.le_refl _) _
      have k0 := hF.c0
      have k1 := hF.c1
      have k2 := hF.c2
      have k3 := hF.c3
      have hI1 := hI.below hBo
      have hmb : ¬ Mine r v wr.heap.size := fun hh => by have := hI.2.2.2.2.1.ownlt hh; omega
      have hX1 := (bounds_u64 hok.2.2.1).2
      have hpl := pcB_le p hX1
      have hjI : (j : Int) < M := by omega
      have HA := Lib.hid (pwrite_any _ r L v (catB K) p hI1.2.2.2.2.1 (hok.below hI1.2.2.2.2.2.2))
      clear hcells x0 x1 x2 x3 hp hBo hbel hI hX1
      go_wp2_with fail
      refine HA.out.mono ?_
      rintro e w5 ⟨q, rfl, hM⟩
      clear HA z0 z1 z2 z3 k0 k1 k2 k3
      obtain ⟨n, hn⟩ : ∃ n, n = (pcB p).length := ⟨_, rfl⟩
      rw [← hn]
      have hn30 : (n : Int) ≤ 30 := by omega
      by_cases hfl : L < ((catB K).length : Int) + (pcB p).length
      · obtain ⟨hq, hB5⟩ := hM.full hfl
        cases hq
        have hI5 := hI1.below hB5
        have hd : decide (((catB K).length : Int) + n ≤ L) = false := by rw [hn]; simp; omega
        have hwI : Wr w5 r L v (catB K) := hI5.2.2.2.2.1
        clear hM hfl hB5 hI1 hF hmb hn hpl
        go_wp2_with (go_at_call 17; refine (len_wr _ r L v (catB K) hwI).mono ?_; rintro e w' ⟨rfl, rfl⟩)
        go_roundw
        case rel => exact ⟨j + 1, K, v, by go_num, by omega, by omega, rfl, hI5⟩
        case measure => simp [intOf]; omega
      · obtain ⟨hq, v', hW5, hX5, ho⟩ := hM.fits hfl
        cases hq
        have hd : decide (((catB K).length : Int) + n ≤ L) = true := by rw [hn]; simp; omega
        have hF5 := hF.bx hX5 hmb
        have m0 := hF5.c0
        have m1 := hF5.c1
        have m2 := hF5.c2
        have m3 := hF5.c3
        have hkm : ∀ k, (Value.slice ak K.length ck).ownBlock = some k → ¬ Mine r v k := by
          intro k hk hh
          rcases hh with h | h
          · subst h; exact own_tri hI1.2.2.1 hI1.2.2.2.2.1.1 (by decide) hk
          · exact own_apart hI1.2.2.1 hI1.2.2.2.2.1.2.1 (by decide) k hk h
        have hem : ∀ k, (Value.slice ae (K.length + 1) ce).ownBlock = some k → ¬ Mine r v k := by
          intro k hk hh
          rcases hh with h | h
          · subst h; exact own_tri hI1.2.2.2.1 hI1.2.2.2.2.1.1 (by decide) hk
          · exact own_apart hI1.2.2.2.1 hI1.2.2.2.2.1.2.1 (by decide) k hk h
        have hown5 := own_bx hI1.2.2.1 hX5 hkm
        have hend5 := own_bx hI1.2.2.2.1 hX5 hem
        have hbel5 : Below W.heap.size W w5 := hI1.2.2.2.2.2.2.trans (hX5.below (fun k hk => Nat.le_trans hI1.2.2.2.2.2.1 (Mine.ge hI1.2.2.2.2.1 hk)) hI1.2.2.2.2.2.2.size)
        have hKok := hI1.1
        have hWr := hI1.2.2.2.2.2.1
        rw [← catB_snoc] at hW5
        have hsz' : ((catB K).length : Int) + n = ((catB (K ++ [p])).length : Int) := by rw [catB_snoc, List.length_append, hn]; simp
        have HSZ := Lib.hid hsz'
        clear hM hfl hI1 hF hmb hX5 ho hkm hem hn hsz'
        have hWb5 : W.heap.size ≤ w5.heap.size := hbel5.size
        have hKo5 := hown5.alloc (.cells #[.int .u8 p.kd, .int .u8 p.N, .int .u64 p.X, .slice p.ba p.bn p.bc] 39)
        have hEo5 := hend5.alloc (.cells #[.int .u8 p.kd, .int .u8 p.N, .int .u64 p.X, .slice p.ba p.bn p.bc] 39)
        have hWo5 := hW5.below ((Below.refl w5.heap.size w5).alloc (Nat.le_refl _) (.cells #[.int .u8 p.kd, .int .u8 p.N, .int .u64 p.X, .slice p.ba p.bn p.bc] 39))
        have hbo5 := hbel5.alloc hWb5 (.cells #[.int .u8 p.kd, .int .u8 p.N, .int .u64 p.X, .slice p.ba p.bn p.bc] 39)
        have hcl := pcV_cells w5 p 39
        have hHo : Hid (PcOk W p) := hok
        clear hown5 hend5 hW5 hbel5 hF5 hok
        go_wp2_with (at_builtin; refine wpList_append_own _ rfl (.tmp 76) (.tmp 78) 32 rfl W.heap.size 39 ip (.agg #[.int .u8 0, .int .u8 0, .int .u64 0, .slice none 0 0]) 4 40 Try.underlying32 hpi hpz hps hpb rfl (by decide) _ K.length (pcVs K) rfl hKo5 ⟨w5.heap.size, 0, none⟩ 1 1 (pcV p) rfl rfl hcl (pcV_one p) (by unfold maxLen; omega) (by omega) (by simp; omega) ?_)
        intro kv' w6 hown6 hgrow6 _
        have hEo6 := hEo5.kept hgrow6 (by
          cases hk : (Value.slice ae (K.length + 1) ce).ownBlock with
          | none => exact .inl rfl
          | some k => exact .inr (fun hh => own_apart hEo5 hKo5 (by decide) k hk hh.symm))
        have hW6 := hWo5.grown hgrow6 (fun k hk hh => by
          rcases hh with h | h
          · subst h; exact own_tri hKo5 hWo5.1 (by decide) hk
          · exact own_apart hKo5 hWo5.2.1 (by decide) k hk h)
        have hbel6 := hbo5.grown hgrow6 hbo5.size (fun k hk => (hKo5.lt k hk).1)
        have hKE6 : ∀ k, (Value.slice ae (K.length + 1) ce).ownBlock = some k → kv'.ownBlock ≠ some k := own_apart hEo6 hown6 (by decide)
        obtain ⟨ak', ck', rfl⟩ := own_shape hown6
        have hWb6 : W.heap.size ≤ w6.heap.size := hbel6.size
        have hEa6 := hEo6.alloc (.cells #[.int .i64 (((catB K).length : Int) + n)] 3)
        have hKa6 := hown6.alloc (.cells #[.int .i64 (((catB K).length : Int) + n)] 3)
        have hWa6 := hW6.below ((Below.refl w6.heap.size w6).alloc (Nat.le_refl _) (.cells #[.int .i64 (((catB K).length : Int) + n)] 3))
        have hba6 := hbel6.alloc hWb6 (.cells #[.int .i64 (((catB K).length : Int) + n)] 3)
        have hci := one_cell w6 .i64 (((catB K).length : Int) + n) 3
        clear hKo5 hEo5 hWo5 hbo5 hcl hgrow6 hown6 hEo6 hW6 hbel6 hKE6
        go_wp2_with (at_builtin; refine wpList_append_own _ rfl (.tmp 80) (.tmp 82) 27 rfl W.heap.size 3 ii (.int .i64 0) 1 8 Try.underlying27 hii hiz his hib rfl (by decide) _ (K.length + 1) ((endsB K).map (Value.int .i64)) rfl hEa6 ⟨w6.heap.size, 0, none⟩ 1 1 [.int .i64 (((catB K).length : Int) + n)] rfl rfl hci (one_one _ _) (by unfold maxLen; omega) (by omega) (by simp; omega) ?_)
        intro ev' w7 hown7 hgrow7 _
        have hK7 := hKa6.kept hgrow7 (by
          cases hk : (Value.slice ak' (K.length + 1) ck').ownBlock with
          | none => exact .inl rfl
          | some k => exact .inr (fun hh => own_apart hKa6 hEa6 (by decide) k hk hh.symm))
        have hW7 := hWa6.grown hgrow7 (fun k hk hh => by
          rcases hh with h | h
          · subst h; exact own_tri hEa6 hWa6.1 (by decide) hk
          · exact own_apart hEa6 hWa6.2.1 (by decide) k hk h)
        have hbel7 := hba6.grown hgrow7 hba6.size (fun k hk => (hEa6.lt k hk).1)
        obtain ⟨ae', ce', rfl⟩ := own_shape hown7
        have hI7 : BkI W r L (K ++ [p]) v' (.slice ak' (K.length + 1) ck') (.slice ae' (K.length + 1 + 1) ce') w7 := by
          refine ⟨fun q hq => ?_, by simp; omega, ?_, ?_, hW7, hWr, hbel7⟩
          · rcases List.mem_append.1 hq with h | h
            · exact hKok q h
            · simp at h; subst h; exact hHo.out
          · rw [pcVs_snoc, List.length_append]; exact hK7
          · rw [endsB_snoc, List.map_append, List.length_append, ← HSZ.out]; exact hown7
        clear hEa6 hKa6 hWa6 hba6 hci hgrow7 hown7 hK7 hbel7
        have hlen1 : (((catB K).length : Int) + n != ((catB (K ++ [p])).length : Int)) = false := by rw [HSZ.out]; simp
        have hlen2 : (((catB (K ++ [p])).length : Int) != ((catB K).length : Int) + n) = false := by rw [HSZ.out]; simp
        go_wp2_with (go_at_call 17; refine (len_wr _ r L v' _ hW7).mono ?_; rintro e w' ⟨rfl, rfl⟩)
        go_roundw
        case rel => exact ⟨j + 1, K ++ [p], v', by go_num, by omega, by simp; omega, by rw [HSZ.out], hI7⟩
        case measure => simp [intOf]; omega
    · obtain ⟨wA, rfl⟩ : ∃ wo : World, wo = wr := ⟨_, rfl⟩
      have hjI : ¬ (j : Int) < M := by omega
      have hWr5 := hI.2.2.2.2.1
      have hKok := hI.1
      have hKo := hI.2.2.1
      have hEo := hI.2.2.2.1
      have hbyC : Bytes (catB K) := catB_bytes hKok
      obtain ⟨C, hC⟩ : ∃ C, C = catB K := ⟨_, rfl⟩
      have hCl : C.length ≤ 2000 := by rw [hC]; omega
      rw [← hC] at hbyC hWr5 hlimK
      rw [← hC]
      have HCC := Lib.hid hC
      clear hI hlt hj hKj hC
      go_wp2_with fail
      refine (out_wr wA r L v C hWr5).mono ?_
      rintro e w2o ⟨a1, c1, rfl, hout, hB2o⟩
      have hK2 := ownsRow_below hKo hB2o
      have hE2 := ownsRow_below hEo hB2o
      have hbel2 := step_below hbel hB2o (Nat.le_refl _)
      clear hKo hEo hbel hB2o hWr5
      go_wp2_with fail
      refine (newReader_any w2o a1 c1 C (own_sl hout) (by omega)).mono ?_
      rintro e w3 ⟨r2, rfl, hr2, hR3, hB3⟩
      have hbel3 := step_below hbel2 hB3 (Nat.le_refl _)
      have hK3 := ownsRow_below hK2 hB3
      have hE3 := ownsRow_below hE2 hB3
      have hO3 := (own_sl hout).below hB3
      have hKn : ∀ k, (Value.slice ak K.length ck).ownBlock = some k → ¬ Only r2 k := fun k hk => Only.ne (by have := (hK2.lt k hk).2; omega)
      have hEn : ∀ k, (Value.slice ae (K.length + 1) ce).ownBlock = some k → ¬ Only r2 k := fun k hk => Only.ne (by have := (hE2.lt k hk).2; omega)
      have hOn : ∀ p, a1 = some p → ¬ Only r2 p.block := fun p hp => Only.ne (by have := (own_block hout p hp).2; omega)
      have hW2 : W.heap.size ≤ r2 := Nat.le_trans hbel2.size hr2
      have hr23 : r2 < w3.heap.size := hR3.lt
      obtain ⟨ge, cge, hge, _, _⟩ := hE3.form (by omega)
      cases hge
      have HKN := Lib.hid hKn
      have HEN := Lib.hid hEn
      have HON := Lib.hid hOn
      clear hK2 hE2 hout hB3 hbel2 hr2 hKn hEn hOn
      go_wp2_with fail
      go_loopw [95] (fun i wr => ∃ j : Nat, i = .int .i64 j ∧ j ≤ K.length ∧ Rd wr r2 C (catB (K.take j)).length ∧ Bx (Only r2) w3 wr) (fun i _ => K.length - (intOf i).toNat)
      case atStart => exact ⟨0, rfl, by omega, by simpa [catB] using hR3, Bx.refl _ _⟩
      case round =>
        obtain ⟨j2, rfl, hj2, hR, hX⟩ := hrel
        have hKr := own_bx hK3 hX HKN.out
        have hEr := own_bx hE3 hX HEN.out
        have hbelr := step_rd hbel3 hX hW2 (Nat.le_refl _)
        by_cases hlt2 : j2 < K.length
        · obtain ⟨p, hp⟩ : ∃ p, K[j2]? = some p := ⟨K[j2], List.getElem?_eq_getElem hlt2⟩
          obtain ⟨gk, cgk, hgk, _, _⟩ := hKr.form (by omega)
          cases hgk
          have hcl : ∀ c u, (pcV p)[c]? = some u → c < 4 → wr.cell? ⟨gk, j2 * 4 + c, none⟩ = some u := by
            intro c u hu hc4
            have h1 := hKr.cells (g := gk) rfl (j2 * 4 + c) u ((pcVs_at K j2 p hp c hc4).trans hu)
            have e1 : (⟨gk, 0, none⟩ : Addr).add (j2 * 4 + c) = ⟨gk, j2 * 4 + c, none⟩ := by unfold Addr.add; split <;> simp_all
            rwa [e1] at h1
          have z0 : wr.cell? ⟨gk, j2 * 4, none⟩ = some (.int .u8 p.kd) := hcl 0 _ rfl (by omega)
          have z1 := hcl 1 (.int .u8 p.N) rfl (by omega)
          have z2 := hcl 2 (.int .u64 p.X) rfl (by omega)
          have z3 := hcl 3 (.slice p.ba p.bn p.bc) rfl (by omega)
          have hpok : PcOk W p := hKok p (List.mem_of_getElem? hp)
          obtain ⟨E1, hE1⟩ : ∃ E1, E1 = (catB (K.take (j2 + 1))).length := ⟨_, rfl⟩
          have hE1' : E1 = (catB (K.take j2)).length + (pcB p).length := by rw [hE1, catB_take K j2 p hp, List.length_append]
          have hec : wr.cell? ⟨ge, j2 + 1, none⟩ = some (.int .i64 E1) := by
            have h1 := hEr.cellAt (j2 + 1) (by omega)
            rw [List.getElem?_map] at h1
            have h2 := endsB_at K (j2 + 1) (by omega)
            have h3 : (endsB K)[j2 + 1]? = some ((endsB K)[j2 + 1]?.getD 0) := by
              obtain ⟨u, hu⟩ : ∃ u, (endsB K)[j2 + 1]? = some u := ⟨_, List.getElem?_eq_getElem (by rw [endsB_length]; omega)⟩
              rw [hu]; rfl
            rw [h3, h2, ← hE1] at h1
            exact h1
          have hspl : C.drop (catB (K.take j2)).length = pcB p ++ catB (K.drop (j2 + 1)) := by rw [HCC.out]; exact catB_drop K j2 p hp
          have hj2I : (j2 : Int) < K.length := by omega
          have hj2p : (j2 : Int) + 1 < (K.length : Int) + 1 := by omega
          have hp30 := pcB_le p (bounds_u64 hpok.2.2.1).2
          have hE1c : E1 ≤ C.length := by
            have h0 := len_of_drop hspl hR.le
            rw [List.length_append] at h0; omega
          have HST := Lib.hid (Stab.of (by have := hpok.2.2.2.1; rw [this.1]; exact this : Sl .u8 W p.ba p.bl.length p.bc p.bl) hW2)
          have HSP := Lib.hid hspl
          have HE1 := Lib.hid hE1'
          have HE0 := Lib.hid hE1
          have HPO := Lib.hid hpok
          clear hcl hp hspl hE1 hE1' hpok hKr hEr hp30
          go_wp2_with fail
          obtain ⟨w4, hw4⟩ : ∃ w4, w4 = wr.alloc (.cells #[.int .u8 p.kd, .int .u8 p.N, .int .u64 p.X, .slice p.ba p.bn p.bc] 39) := ⟨_, rfl⟩
          rw [← hw4]
          have hBo : Below wr.heap.size wr w4 := by rw [hw4]; exact (Below.refl _ _).alloc (Nat.le_refl _) _
          have hF4 : Four w4 wr.heap.size 39 (.int .u8 p.kd) (.int .u8 p.N) (.int .u64 p.X) (.slice p.ba p.bn p.bc) := by rw [hw4]; exact Four.new _ _ _ _ _ _
          have hR4 := hR.below hBo
          have hbel4 := step_below hbelr hBo (Nat.le_refl _)
          have hrw := hR.lt
          have hgw : ge < wr.heap.size := World.block_lt_of_cell? wr _ hec
          have hge : ge ≠ r2 := HEN.out ge rfl
          have hS0 : KS w4 r2 wr.heap.size ge (j2 + 1) (.int .u8 p.kd) (.int .u8 p.N) (.int .u64 p.X) (.slice p.ba p.bn p.bc) (.int .i64 E1) w4 := ⟨Bx.refl _ _, hF4.c0, hF4.c1, hF4.c2, hF4.c3, (hBo.cell hgw).trans hec⟩
          have n0 := hS0.2.1
          have n1 := hS0.2.2.1
          have n2 := hS0.2.2.2.1
          have n3 := hS0.2.2.2.2.1
          have n4 := hS0.2.2.2.2.2
          have hne1 : ((E1 : Int) != E1) = false := by simp
          have hwl : IntKind.i64.wrap ((C.length : Int) - E1) = (C.length : Int) - E1 := by rw [IntKind.wrap_i64]; omega
          have hne2 : (((C.length : Int) - E1) != ((C.length : Int) - E1)) = false := by simp
          have hw1 : IntKind.i64.wrap ((j2 : Int) + 1) = (j2 : Int) + 1 := by rw [IntKind.wrap_i64]; omega
          have hw2 : wrap64 ((j2 : Int) + 1) = (j2 : Int) + 1 := IntWalk.wrap64_in _ ⟨by omega, by omega⟩
          have hj20 : (0 : Int) ≤ (j2 : Int) + 1 := Int.add_nonneg (Int.natCast_nonneg _) (by decide)
          clear hw4 hF4 z0 z1 z2 z3 hec hR
          go_region_held3 (fun w' => Bx (Only r2) w4 w' ∧ w'.cell? ⟨wr.heap.size, 0, none⟩ = some (.int .u8 p.kd) ∧ w'.cell? ⟨wr.heap.size, 1, none⟩ = some (.int .u8 p.N) ∧ w'.cell? ⟨wr.heap.size, 2, none⟩ = some (.int .u64 p.X) ∧ w'.cell? ⟨wr.heap.size, 3, none⟩ = some (.slice p.ba p.bn p.bc) ∧ w'.cell? ⟨ge, j2 + 1, none⟩ = some (.int .i64 E1)) (solve | (repeat (first | assumption | refine KS.drew ?_ | refine KS.step ?_ (by assumption) | refine KS.step ?_ (Draws.below (by assumption))))) (first
            | (go_at_call 20; refine (pback_ok _ r2 C _ p (catB (K.drop (j2 + 1))) (hR4.below (Below.refl _ _).drew) hbyC (HPO.out.below (step_below hbel4 (Below.refl _ _).drew (Nat.le_refl _))) HST.out HSP.out).mono ?_; rintro e w7 ⟨rfl, hR7, hX7⟩; rw [← HE1.out] at hR7; have hS1 := (hS0.drew).bx hX7 (by omega) hge)
            | (go_at_call 21; refine (at_rd _ r2 C E1 hR7).mono ?_; rintro e w8 ⟨rfl, hD8⟩; have hR8 := hR7.below hD8.below; have hS2 := hS1.step hD8.below)
            | (go_at_call 22; refine (left_rd _ r2 C E1 hR8).mono ?_; rintro e w' ⟨rfl, rfl⟩))
          have hX8 := (hX.then hBo).trans hS2.1
          rw [HE0.out] at hR8
          clear hS0 hS1 hS2 hD8 hR7 hX7 hR4 hbel4 hBo n0 n1 n2 n3 n4 hne1 hne2 hwl hw1 hw2 hj20 hge hgw
          go_wp2_with fail
          go_roundw
          case rel => exact ⟨j2 + 1, by go_num, by omega, hR8, hX8⟩
          case measure => simp [intOf]; omega
        · have hj2e : j2 = K.length := by omega
          clear hj2 hlt2
          subst hj2e
          have hj2I : ¬ (K.length : Int) < K.length := by omega
          rw [List.take_length, ← HCC.out] at hR
          have hE0 : endE C.length C.length = 0 := by unfold endE; simp
          have hO := hO3.bx hX HON.out
          obtain ⟨S, hS⟩ : ∃ S : Int, S = (C.length : Int) := ⟨_, rfl⟩
          have hS0 : 0 ≤ S := by omega
          have hS1 : S ≤ 2000 := by omega
          have hpos : (0 : Int) < S + 1 := by omega
          obtain ⟨k, hk⟩ : ∃ k : Nat, cut % (S + 1) = (k : Int) := ⟨(cut % (S + 1)).toNat, by have := Int.emod_nonneg cut (show (S + 1) ≠ 0 by omega); omega⟩
          have hkl : (k : Int) ≤ C.length := by have := Int.emod_lt_of_pos cut hpos; omega
          have hne : ((C.length : Int) != S) = false := by rw [hS]; simp
          have hw1 : wrap64 (S + 1) = S + 1 := IntWalk.wrap64_in _ ⟨by omega, by omega⟩
          have hn0 : ¬ (S + 1 = 0) := by omega
          have hnb : (S + 1 == 0) = false := by simp; omega
          have hD1 : (1 : Int) ≤ S + 1 := by omega
          have hkc : (k : Int) ≤ c1 := by have := hO.2.1; omega
          have hk0 : (0 : Int) ≤ k := Int.natCast_nonneg _
          have hw1 : wrap64 ((C.length : Int) + 1) = (C.length : Int) + 1 := IntWalk.wrap64_in _ ⟨by omega, by omega⟩
          rw [← hS]
          have HS := Lib.hid hS
          have HCL := Lib.hid hCl
          clear hS
          clear hR3 hO3 hK3 hE3 hcm hlc hml hc60 hI2 hX hbel3 hpos hlw hL0 hL1 hlimK hCl hc1 hl1 hl0
          go_wp2_with fail
          refine (end_rd _ r2 C C.length hR).mono ?_
          rintro e w' ⟨rfl, rfl⟩
          rw [hE0]
          clear hE0 hR
          go_wp2_with fail
          have hklN : k ≤ C.length := Int.ofNat_le.1 hkl
          first | rw [hk] | skip
          have hCN := HCL.out
          clear hk hw1 hn0 hnb hD1 hS0 hS1 hne hcw hc0 hkc hk0 hj2I hkl
          have hOk := hO.upto k hklN
          obtain ⟨Ck, hCke⟩ : ∃ Ck, Ck = C.take k := ⟨_, rfl⟩
          have hCk : Ck.length = k := by rw [hCke, List.length_take]; exact Nat.min_eq_left hklN
          rw [← hCke] at hOk
          have hbyk : Bytes Ck := by rw [hCke]; exact fun d hd => hbyC d (List.mem_of_mem_take hd)
          have hnr := newReader_any wr a1 c1 Ck (by rw [hCk]; exact hOk) (Nat.le_trans (by rw [hCk]; exact Nat.le_trans hklN hCN) (show 2000 ≤ 140737488355000 by decide))
          rw [hCk] at hnr
          refine hnr.mono ?_
          rintro e w9 ⟨r3, rfl, hr3, hR9, hB9⟩
          have hbel9 := step_below hbelr hB9 (Nat.le_refl _)
          have hK9 := ownsRow_below hKr hB9
          have hE9 := ownsRow_below hEr hB9
          have hKn3 : ∀ q, (Value.slice ak K.length ck).ownBlock = some q → ¬ Only r3 q := fun q hq => Only.ne (Nat.ne_of_lt (Nat.lt_of_lt_of_le (hKr.lt q hq).2 hr3))
          have hEn3 : ∀ q, (Value.slice (some ⟨ge, 0, none⟩) (K.length + 1) ce).ownBlock = some q → ¬ Only r3 q := fun q hq => Only.ne (Nat.ne_of_lt (Nat.lt_of_lt_of_le (hEr.lt q hq).2 hr3))
          have HKN3 := Lib.hid hKn3
          have HEN3 := Lib.hid hEn3
          have hW3 : W.heap.size ≤ r3 := Nat.le_trans hbelr.size hr3
          have HCKE := Lib.hid hCke
          have HCK := Lib.hid hCk
          clear hnr hOk hO hKr hEr hB9 hKn3 hEn3 hr3 hCke hCk hbelr
          go_wp2_with fail
          go_loopw [147] (fun i wr => ∃ j : Nat, i = .int .i64 j ∧ j ≤ K.length ∧ Rd wr r3 Ck (catB (K.take j)).length ∧ Bx (Only r3) w9 wr) (fun i _ => K.length - (intOf i).toNat)
          case atStart => exact ⟨0, rfl, by omega, by simpa [catB] using hR9, Bx.refl _ _⟩
          case round =>
            obtain ⟨j3, rfl, hj3, hR, hX⟩ := hrel
            have hKr := own_bx hK9 hX HKN3.out
            have hEr := own_bx hE9 hX HEN3.out
            have hbelr := step_rd hbel9 hX hW3 (Nat.le_refl _)
            by_cases hlt3 : j3 < K.length
            · obtain ⟨p, hp⟩ : ∃ p, K[j3]? = some p := ⟨K[j3], List.getElem?_eq_getElem hlt3⟩
              obtain ⟨gk, cgk, hgk, _, _⟩ := hKr.form (by omega)
              cases hgk
              have hcl : ∀ c u, (pcV p)[c]? = some u → c < 4 → wr.cell? ⟨gk, j3 * 4 + c, none⟩ = some u := by
                intro c u hu hc4
                have h1 := hKr.cells (g := gk) rfl (j3 * 4 + c) u ((pcVs_at K j3 p hp c hc4).trans hu)
                have e1 : (⟨gk, 0, none⟩ : Addr).add (j3 * 4 + c) = ⟨gk, j3 * 4 + c, none⟩ := by unfold Addr.add; split <;> simp_all
                rwa [e1] at h1
              have z0 : wr.cell? ⟨gk, j3 * 4, none⟩ = some (.int .u8 p.kd) := hcl 0 _ rfl (by omega)
              have z1 := hcl 1 (.int .u8 p.N) rfl (by omega)
              have z2 := hcl 2 (.int .u64 p.X) rfl (by omega)
              have z3 := hcl 3 (.slice p.ba p.bn p.bc) rfl (by omega)
              have hpok : PcOk W p := hKok p (List.mem_of_getElem? hp)
              have hends : ∀ i, i ≤ K.length → wr.cell? ⟨ge, i, none⟩ = some (.int .i64 ((catB (K.take i)).length : Int)) := by
                intro i hi
                have h1 := hEr.cellAt i (by omega)
                rw [List.getElem?_map] at h1
                have h2 := endsB_at K i hi
                have h3 : (endsB K)[i]? = some ((endsB K)[i]?.getD 0) := by
                  obtain ⟨u, hu⟩ : ∃ u, (endsB K)[i]? = some u := ⟨_, List.getElem?_eq_getElem (by rw [endsB_length]; omega)⟩
                  rw [hu]; rfl
                rw [h3, h2] at h1
                exact h1
              obtain ⟨E0, hE0⟩ : ∃ E0, E0 = (catB (K.take j3)).length := ⟨_, rfl⟩
              obtain ⟨E1, hE1⟩ : ∃ E1, E1 = (catB (K.take (j3 + 1))).length := ⟨_, rfl⟩
              have hE1' : E1 = E0 + (pcB p).length := by rw [hE0, hE1, catB_take K j3 p hp, List.length_append]
              have hec0 : wr.cell? ⟨ge, j3, none⟩ = some (.int .i64 E0) := by rw [hE0]; exact hends j3 hj3
              have hec : wr.cell? ⟨ge, j3 + 1, none⟩ = some (.int .i64 E1) := by rw [hE1]; exact hends (j3 + 1) (by omega)
              have hspl : Ck.drop E0 = (pcB p ++ catB (K.drop (j3 + 1))).take (k - E0) := by rw [HCKE.out, List.drop_take, hE0, HCC.out, catB_drop K j3 p hp]
              rw [← hE0] at hR
              have hE0k : E0 ≤ k := by have := hR.le; have := HCK.out; omega
              have hE0I : (E0 : Int) ≤ 2000 := by omega
              have hE1I : (E1 : Int) ≤ 3000 := by have := pcB_le p (bounds_u64 hpok.2.2.1).2; omega
              have hj3I : (j3 : Int) < K.length := by omega
              have hj3p : (j3 : Int) + 1 < (K.length : Int) + 1 := by omega
              have hj30 : (0 : Int) ≤ (j3 : Int) + 1 := Int.add_nonneg (Int.natCast_nonneg _) (by decide)
              have hgw : ge < wr.heap.size := World.block_lt_of_cell? wr _ hec
              have hge : ge ≠ r3 := HEN3.out ge rfl
              have hrw := hR.lt
              have t1 : ∀ o, (wr.alloc o).cell? ⟨ge, j3 + 1, none⟩ = some (.int .i64 E1) := fun o => (((Below.refl _ _).alloc (Nat.le_refl _) o).cell hgw).trans hec
              have HST := Lib.hid (Stab.of (by have := hpok.2.2.2.1; rw [this.1]; exact this : Sl .u8 W p.ba p.bl.length p.bc p.bl) hW3)
              have HE0 := Lib.hid hE0
              have HE1 := Lib.hid hE1
              have HPO := Lib.hid hpok
              obtain ⟨w4, hw4⟩ : ∃ w4, w4 = wr.alloc (.cells #[.int .u8 p.kd, .int .u8 p.N, .int .u64 p.X, .slice p.ba p.bn p.bc] 39) := ⟨_, rfl⟩
              have hBo : Below wr.heap.size wr w4 := by rw [hw4]; exact (Below.refl _ _).alloc (Nat.le_refl _) _
              have hF4 : Four w4 wr.heap.size 39 (.int .u8 p.kd) (.int .u8 p.N) (.int .u64 p.X) (.slice p.ba p.bn p.bc) := by rw [hw4]; exact Four.new _ _ _ _ _ _
              have hR4 := hR.below hBo
              have hbel4 := step_below hbelr hBo (Nat.le_refl _)
              have HW4 := Lib.hid hw4
              clear hcl hp hKr hEr hpok hends hE0 hE1 hR hw4
              by_cases hgt : k < E1
              · have hspl' : Ck.drop E0 = (pcB p).take (k - E0) := by rw [hspl, List.take_append_of_le_length (by omega)]
                have hgI : (k : Int) < E1 := by omega
                have hm : k - E0 < (pcB p).length := by omega
                have hS0 : ∀ w5, Below w4.heap.size w4 w5 → KS w5 r3 wr.heap.size ge j3 (.int .u8 p.kd) (.int .u8 p.N) (.int .u64 p.X) (.slice p.ba p.bn p.bc) (.int .i64 E0) w5 := by
                  intro w5 hb
                  have hF5 := hF4.below hb
                  exact ⟨Bx.refl _ _, hF5.c0, hF5.c1, hF5.c2, hF5.c3, (hb.cell (Nat.lt_of_lt_of_le hgw hBo.size)).trans ((hBo.cell hgw).trans hec0)⟩
                have HSP := Lib.hid hspl'
                have HM := Lib.hid hm
                clear hspl hspl' hm hec0 hec hE1'
                go_wp2_with fail
                rw [← HW4.out]
                refine (at_rd w4 r3 Ck E0 hR4).mono ?_
                rintro e w5 ⟨rfl, hD5⟩
                have hR5 := hR4.below hD5.below
                have hbel5 := step_below hbel4 hD5.below (Nat.le_refl _)
                have hS5 := hS0 w5 hD5.below
                have n0 := hS5.2.1
                have n1 := hS5.2.2.1
                have n2 := hS5.2.2.2.1
                have n3 := hS5.2.2.2.2.1
                have n4 := hS5.2.2.2.2.2
                have hq : ((E0 : Int) == E0) = true := by simp
                clear hS0 hR4 hF4 hD5 hbel4 t1 z0 z1 z2 z3 hBo
                go_wp2_with fail
                refine (pback_no w5 r3 Ck E0 p (k - E0) hR5 hbyk (HPO.out.below hbel5) HST.out HM.out HSP.out).mono ?_
                rintro e w7 ⟨rfl, hR7, hX7⟩
                have hS1 := hS5.bx hX7 (Nat.ne_of_gt hrw) hge
                clear n0 n1 n2 n3 n4
                go_wp2_with fail
                refine (at_rd w7 r3 Ck E0 hR7).mono ?_
                rintro e w8 ⟨rfl, hD8⟩
                have hS2 := hS1.step hD8.below
                have m4 := hS2.2.2.2.2.2
                go_wp2_with fail
                go_ret
                exact ⟨rfl, step_rd hbel5 hS2.1 hW3 (Nat.le_refl _)⟩
              · have hgI : ¬ (k : Int) < E1 := by omega
                have hgI2 : (E1 : Int) ≤ k := by omega
                have hspl' : Ck.drop E0 = pcB p ++ (catB (K.drop (j3 + 1))).take (k - E1) := by
                  rw [hspl, List.take_append, List.take_of_length_le (by omega), show k - E0 - (pcB p).length = k - E1 by omega]
                have HSP := Lib.hid hspl'
                have HE1' := Lib.hid hE1'
                have k0 := (HW4.out ▸ hF4).c0
                have k1 := (HW4.out ▸ hF4).c1
                have k2 := (HW4.out ▸ hF4).c2
                have k3 := (HW4.out ▸ hF4).c3
                clear hspl hspl' hec0 hec hE1'
                go_wp2_with fail
                rw [← HW4.out]
                refine (pback_ok w4 r3 Ck E0 p ((catB (K.drop (j3 + 1))).take (k - E1)) hR4 hbyk (HPO.out.below hbel4) HST.out HSP.out).mono ?_
                rintro e w7 ⟨rfl, hR7, hX7⟩
                rw [← HE1'.out, HE1.out] at hR7
                have hX8 := (hX.then hBo).trans hX7
                clear hR4 hF4 hbel4 hBo hX7 t1 z0 z1 z2 z3 k0 k1 k2 k3 hge hgw
                go_wp2_with fail
                go_roundw
                case rel => exact ⟨j3 + 1, by go_num, by omega, hR7, hX8⟩
                case measure => simp [intOf]; omega
            · have hj3I : ¬ (j3 : Int) < K.length := by omega
              go_wp2_with fail
              go_ret
              exact ⟨rfl, hbelr⟩
end Go.Proofs.Ytakpockkagfphaa
