/-
  The contract of flatNums: slices that own their rows apart from one another share no memory.
-/
import Derived.Test.YtcdjfgkjllonhaaDoorApm
namespace Go.Proofs.YtcdjfgkjllonhaaDoor
open Go.RowKit Go.Shelf

theorem infoS : (Tryd.prog.info? 22).map (fun i => (i.zero, i.size, i.bytes)) = some (some (.slice none 0 0), 1, 24) := by kernel_rfl
theorem one_oneN (x : Int) : ∀ u ∈ [Value.int .u64 x], u.oneCell' = true := one_one .u64 x
theorem mks_snoc (k s : Nat) : (mks k (s + 1)).map (Value.int .u64) = (mks k s).map (Value.int .u64) ++ [.int .u64 (mkN k s)] := by rw [mks_succ, List.map_append]; rfl
/-- The slice that grows: in its own block still, or in a new one. -/
def Grw (base : Nat) (wk wr : World) (k N : Nat) (a0 : Option Addr) (c0 s : Nat) (a' : Option Addr) (c' : Nat) : Prop :=
  wr.ownsRow base 30 1 (.slice a' s c') s ((mks k s).map (Value.int .u64)) ∧ wr.ownsRow base 30 1 (.slice a0 N c0) N ((mks k N).map (Value.int .u64)) ∧ (a' = a0 ∧ c' = c0 ∨ ∀ g, a' = some ⟨g, 0, none⟩ → wk.heap.size ≤ g) ∧ Exc a0 wk wr ∧ Below base wk wr
theorem Grw.inplace {base : Nat} {wk wr w5 : World} {k N : Nat} {a0 : Option Addr} {c0 s : Nat} {g c' : Nat} (h : Grw base wk wr k N a0 c0 s (some ⟨g, 0, none⟩) c') (o : Obj) (hN : N ≤ s) (hold : ∀ g, a0 = some ⟨g, 0, none⟩ → g < wk.heap.size) (hb : base ≤ wk.heap.size)
    (ho : w5.ownsRow base 30 1 (.slice (some ⟨g, 0, none⟩) (s + 1) c') (s + 1) ((mks k s).map (Value.int .u64) ++ [.int .u64 (mkN k s)])) (hg : (wr.alloc o).grownBy w5 (some g)) : Grw base wk w5 k N a0 c0 (s + 1) (some ⟨g, 0, none⟩) c' := by
  obtain ⟨h1, h2, h3, h4, h5⟩ := h
  have hbg : base ≤ g := (World.ownsRow.lt h1 g rfl).1
  refine ⟨by rw [mks_snoc]; exact ho, ?_, h3, ?_, ?_⟩
  · rcases h3 with ⟨h3, rfl⟩ | h3
    · rw [← h3]
      obtain ⟨d, rfl⟩ : ∃ d, s = N + d := ⟨s - N, by omega⟩
      obtain ⟨t, ht⟩ := mks_add k N (d + 1)
      have : w5.ownsRow base 30 1 (.slice (some ⟨g, 0, none⟩) (N + (d + 1)) c') (N + (d + 1)) ((mks k N).map (Value.int .u64) ++ t.map (Value.int .u64)) := by
        rw [← List.map_append, ← ht, show N + (d + 1) = N + d + 1 from rfl, mks_snoc]; exact ho
      exact own_front this (by rw [List.length_map, mks_len])
    · refine own_keptV (h2.alloc o) hg fun g' hA e => ?_
      have := hold g' hA
      have := h3 g rfl
      cases e; omega
  · refine (h4.alloc o).grown hg fun b hbl e => ?_
    cases e
    rcases h3 with ⟨h3, _⟩ | h3
    · exact h3.symm
    · have := h3 g rfl; omega
  · exact (h5.alloc (Nat.le_trans hb h4.1) o).grown hg (by rw [World.size_alloc]; have := h4.1; omega) (fun _ e => by cases e; exact hbg)
theorem Grw.moved {base : Nat} {wk wr w5 : World} {k N : Nat} {a0 : Option Addr} {c0 s : Nat} {a' : Option Addr} {c' : Nat} {v' : Value} (h : Grw base wk wr k N a0 c0 s a' c') (o : Obj) (hb : base ≤ wk.heap.size)
    (ho : w5.ownsRow (wr.alloc o).heap.size 30 1 v' (s + 1) ((mks k s).map (Value.int .u64) ++ [.int .u64 (mkN k s)])) (hg : (wr.alloc o).grownBy w5 none) : ∃ a2 c2, v' = .slice a2 (s + 1) c2 ∧ Grw base wk w5 k N a0 c0 (s + 1) a2 c2 := by
  obtain ⟨h1, h2, h3, h4, h5⟩ := h
  obtain ⟨a2, c2, rfl⟩ : ∃ a2 c2, v' = .slice a2 (s + 1) c2 := by
    rcases ho.2 with ⟨_, h0⟩ | ⟨g, cap, cur, hv, _⟩
    · omega
    · exact ⟨_, _, hv⟩
  have hsz : wk.heap.size ≤ (wr.alloc o).heap.size := by rw [World.size_alloc]; have := h4.1; omega
  refine ⟨a2, c2, rfl, by rw [mks_snoc]; exact own_base ho (by omega), own_keptV (h2.alloc o) hg (fun _ _ e => by cases e), .inr fun g e => ?_, (h4.alloc o).grown hg (fun _ _ e => by cases e), ?_⟩
  · subst e; have := (World.ownsRow.lt ho g rfl).1; omega
  · exact (h5.alloc (Nat.le_trans hb h4.1) o).grown hg (by omega) (fun _ e => by cases e)

set_option maxRecDepth 100000 in
set_option maxHeartbeats 16000000 in
theorem flatNums_any (w : World) (base lb off K kc : Nat) (A : Nat → Option Addr) (n C : Nat → Nat) (F0 : Nat → List Int) (hH : Hd w lb off K A n C) (hR : Rws base w K A n C F0) (hD : Dst K lb A) (hK : K ≤ 1000) (hn : ∀ k, k < K → n k ≤ 100000) (hbs : base ≤ w.heap.size) (hkc : K ≤ kc) :
    Calls Tryd.prog 83 #[.slice (some ⟨lb, off, none⟩) K kc] w fun e w' => e = .returned (.bool true) ∧ Bf base K A w w' := by
  go_enter Tryd.func83, Tryd.ntmps83
  have HH := Lib.hid hH
  have HR := Lib.hid hR
  have HD := Lib.hid hD
  have HN := Lib.hid hn
  clear hH hR hD hn
  go_wp2_with fail
  go_loopw [3] (fun I wr => ∃ (k : Nat) (F : Nat → List Int), k ≤ K ∧ I = .int .i64 (k : Int) ∧ Hd wr lb off K A n C ∧ Rws base wr K A n C F ∧ (∀ j, j < k → F j = mks j (n j)) ∧ Bf base K A w wr) (fun I _ => K - (intOf I).toNat)
  case atStart => exact ⟨0, F0, by omega, rfl, HH.out, HR.out, fun j hj => by omega, Bf.refl _ _ _ _⟩
  case round =>
    obtain ⟨k, F, hk, rfl, hH, hR, hF, hB⟩ := hrel
    obtain ⟨w1, hw1⟩ : ∃ wz, wz = wr := ⟨_, rfl⟩
    subst hw1
    have HF := Lib.hid hF
    clear hF
    by_cases hlt : k < K
    · have hd : decide ((k : Int) < (K : Int)) = true := by simp; omega
      have hdn : decide (k < K) = true := by simp; omega
      have i1 : (k : Int) < (K : Int) := by omega
      have hnk := HN.out k hlt
      have hl0 := own_len (hR k hlt)
      obtain ⟨N, hN⟩ : ∃ N, N = n k := ⟨_, rfl⟩
      rw [← hN] at hnk hl0
      have HNN := Lib.hid hN
      have HH1 := Lib.hid hH
      have HR1 := Lib.hid hR
      clear hN hH hR
      go_wp2_with fail
      go_loopw [4] (fun I wr => ∃ (i : Nat) (G : Nat → List Int), i ≤ N ∧ I = .int .i64 (i : Int) ∧ Hd wr lb off K A n C ∧ Rws base wr K A n C G ∧ (∀ j, j < k → G j = mks j (n j)) ∧ (G k).take i = mks k i ∧ Bf base K A w wr) (fun I _ => N - (intOf I).toNat)
      case atStart => exact ⟨0, F, by omega, rfl, HH1.out, HR1.out, HF.out, rfl, hB⟩
      case round =>
        clear hB
        obtain ⟨i, G, hi, rfl, hH, hR, hG, hGk, hB⟩ := hrel
        obtain ⟨w2, hw2⟩ : ∃ wz, wz = wr := ⟨_, rfl⟩
        subst hw2
        have hcell := hH k hlt
        have hrow := hR k hlt
        obtain ⟨a, ha⟩ : ∃ a, a = A k := ⟨_, rfl⟩
        obtain ⟨c, hc⟩ : ∃ c, c = C k := ⟨_, rfl⟩
        rw [← HNN.out, ← ha, ← hc] at hcell hrow
        have HA := Lib.hid ha
        have HH2 := Lib.hid hH
        have HR2 := Lib.hid hR
        have HG := Lib.hid hG
        have HGK := Lib.hid hGk
        have hlG := own_len hrow
        clear ha hc hH hR hG hGk
        by_cases hiN : i < N
        · have hd2 : decide ((i : Int) < (N : Int)) = true := by simp; omega
          have hd2n : decide (i < N) = true := by simp; omega
          have i2 : (i : Int) < (N : Int) := by omega
          obtain ⟨g, rfl, hbg, hgl, _, hNc⟩ := own_addr hrow (by omega)
          have hfz := World.ownsRow.frozenAt hrow i
          have hci := World.ownsRow.cellAt hrow i (by omega)
          obtain ⟨y, hy⟩ : ∃ y, w2.cell? ⟨g, i, none⟩ = some y := ⟨_, hci.trans (List.getElem?_eq_getElem (by simp; omega))⟩
          have qm := fun w => markN_any k i w (by omega) (by omega)
          obtain ⟨w3, hw3⟩ : ∃ wz, wz = (w2.setCell ⟨g, i, none⟩ (.int .u64 (mkN k i))).drew := ⟨_, rfl⟩
          have hH3 : Hd w3 lb off K A n C := by rw [hw3]; exact HH2.out.set (HD.out.2 k g hlt HA.out.symm) i _
          have hR3 : Rws base w3 K A n C (fun j => if j = k then (G k).set i (mkN k i) else G j) := by rw [hw3]; exact HR2.out.set HD.out hlt HA.out.symm i _
          have hB3 : Bf base K A w w3 := by rw [hw3]; exact (hB.set hlt HA.out.symm hbg i _).drew
          have HW := Lib.hid hw3
          clear hrow hci hw3 hB
          go_wp2_with fail
          go_region_with (go_at_call 72; refine (qm _).mono ?_; rintro e w' ⟨rfl, hw'⟩; rw [hw'])
          all_goals
            rw [← HW.out]
            clear hy hfz hcell qm
            go_wp2_with fail
            go_roundw
            case rel =>
              refine ⟨i + 1, _, by omega, by go_num, hH3, hR3, fun j hj => ?_, ?_, hB3⟩
              · simp only [if_neg (show ¬ j = k by omega)]; exact HG.out j hj
              · simp only [if_true]; exact set_next (by omega) HGK.out
            case measure => simp [intOf]; omega
        · have hd2 : decide ((i : Int) < (N : Int)) = false := by simp; omega
          have hd2n : decide (i < N) = false := by simp; omega
          have hGk : G k = mks k N := by
            have := HGK.out
            rw [show i = N by omega, List.take_of_length_le (by omega)] at this; exact this
          have HGK2 := Lib.hid hGk
          clear hGk
          go_wp2_with fail
          go_roundw
          case rel =>
            refine ⟨k + 1, G, by omega, by go_num, HH2.out, HR2.out, fun j hj => ?_, hB⟩
            by_cases hjk : j = k
            · rw [hjk, HGK2.out, HNN.out]
            · exact HG.out j (by omega)
          case measure => simp [intOf]; omega
    · have hd : decide ((k : Int) < (K : Int)) = false := by simp; omega
      have hdn : decide (k < K) = false := by simp; omega
      have hall : Rws base w1 K A n C (fun j => mks j (n j)) := fun j hj => by have := hR j hj; rw [HF.out j (by omega)] at this; exact this
      have HR1 := Lib.hid hall
      have HH1 := Lib.hid hH
      clear hall hR hH HF
      have hsz1 := hB.size
      have hold := Old.of HR1.out
      obtain ⟨j0, jinf, jz0, jz1, jz2⟩ := info_parts infoS
      obtain ⟨i0, hinf, hz0, hz1, hz2⟩ := info_parts infoU
      go_wp2_with (at_make; refine wpList_make_full _ rfl _ _ 73 rfl base 22 j0 (.slice none 0 0) 1 Tryd.underlying73 jinf jz0 jz1 .i64 .i64 _ _ K rfl rfl rfl rfl (by rw [jz2]; omega) (by unfold maxLen; omega) (by omega) ?_)
      intro w2 hown2 hgrow2
      obtain ⟨gb, hgb⟩ : ∃ g, g = w1.heap.size := ⟨_, rfl⟩
      rw [← hgb] at hown2 hold ⊢
      have hB2 : Bf base K A w w2 := hB.grown hgrow2 (by omega)
      have hgw : w.heap.size ≤ gb := by omega
      have hH2 := HH1.out.kept hgrow2 (fun e => by cases e)
      have hR2 := HR1.out.kept hgrow2 (fun _ _ _ _ e => by cases e)
      have hl2 := (World.ownsRow.lt hown2 gb rfl).2
      obtain ⟨vals0, hv0⟩ : ∃ vs, w2.ownsRow base 22 1 (.slice (some ⟨gb, 0, none⟩) K K) K vs := ⟨_, hown2⟩
      have hE2 : Ents base gb K w2 A n vals0 0 (fun j => mks j (n j + 64)) := ⟨hv0, fun j hj => by omega⟩
      have hlb : lb ≠ gb ∨ K = 0 := by
        by_cases h0 : K = 0
        · exact .inr h0
        · left; have := World.block_lt_of_cell? w1 _ (HH1.out 0 (by omega)); simp only at this; omega
      clear hgb hgrow2 hown2 hv0 HR1 HH1 hB
      go_wp2_with fail
      go_loopw [6] (fun I wr => ∃ (k : Nat) (vals : List Value), k ≤ K ∧ I = .int .i64 (k : Int) ∧ Hd wr lb off K A n C ∧ Rws base wr K A n C (fun j => mks j (n j)) ∧ Ents base gb K wr A n vals k (fun j => mks j (n j + 64)) ∧ Bf base K A w wr ∧ gb < wr.heap.size) (fun I _ => K - (intOf I).toNat)
      case atStart => exact ⟨0, _, by omega, rfl, hH2, hR2, hE2, hB2, hl2⟩
      case round =>
        clear hH2 hR2 hE2 hB2 hl2
        obtain ⟨k, vals, hk, rfl, hH, hR, hE, hB, hl⟩ := hrel
        obtain ⟨wk, hwk⟩ : ∃ wz, wz = wr := ⟨_, rfl⟩
        subst hwk
        by_cases hlt : k < K
        · have hd : decide ((k : Int) < (K : Int)) = true := by simp; omega
          have hdn : decide (k < K) = true := by simp; omega
          have i1 : (k : Int) < (K : Int) := by omega
          have hnk := HN.out k hlt
          have hcell := hH k hlt
          have hrow : wk.ownsRow base 30 1 (.slice (A k) (n k) (C k)) (n k) ((mks k (n k)).map (Value.int .u64)) := hR k hlt
          obtain ⟨N, hN⟩ : ∃ N, N = n k := ⟨_, rfl⟩
          obtain ⟨a0, ha⟩ : ∃ a, a = A k := ⟨_, rfl⟩
          obtain ⟨c0, hc⟩ : ∃ c, c = C k := ⟨_, rfl⟩
          rw [← hN] at hnk
          rw [← hN, ← ha, ← hc] at hcell hrow
          have hao : ∀ g, a0 = some ⟨g, 0, none⟩ → g < gb := fun g e => hold k g hlt (by rw [← ha, e])
          have hal : a0 ≠ some ⟨lb, 0, none⟩ := fun e => HD.out.2 k lb hlt (by rw [← ha, e]) rfl
          have hbk : base ≤ wk.heap.size := by have := hB.size; omega
          have HAO := Lib.hid (fun g e => Nat.lt_trans (hao g e) hl : ∀ g, a0 = some ⟨g, 0, none⟩ → g < wk.heap.size)
          have HAO2 := Lib.hid hao
          have HA := Lib.hid (And.intro ha (And.intro hc hN))
          have HH1 := Lib.hid hH
          have HR1 := Lib.hid hR
          have HE1 := Lib.hid hE
          have hgrw : Grw base wk wk k N a0 c0 N a0 c0 := ⟨hrow, hrow, .inl ⟨rfl, rfl⟩, Exc.refl _ _, Below.refl _ _⟩
          clear hao hN ha hc hH hR hE hrow
          go_wp2_with fail
          go_loopw [7, 8] (fun V I wr => ∃ (i : Nat) (a' : Option Addr) (c' : Nat), i ≤ 64 ∧ I = .int .i64 (i : Int) ∧ V = .slice a' (N + i) c' ∧ Grw base wk wr k N a0 c0 (N + i) a' c') (fun _ I _ => 64 - (intOf I).toNat)
          case atStart => exact ⟨0, a0, c0, by omega, rfl, rfl, hgrw⟩
          case round =>
            clear hgrw hcell
            obtain ⟨i, a', c', hi, rfl, rfl, hG⟩ := hrel
            obtain ⟨w3, hw3⟩ : ∃ wz, wz = wr := ⟨_, rfl⟩
            subst hw3
            obtain ⟨s, hs⟩ : ∃ s, s = N + i := ⟨_, rfl⟩
            rw [← hs] at hG ⊢
            have es : (N : Int) + (i : Int) = (s : Int) := by omega
            have hsN : N ≤ s ∧ s ≤ 100064 := by omega
            have hcell : w3.cell? ⟨lb, off + k, none⟩ = some (.slice a0 N c0) := by
              have := hG.2.2.2.1.cell (HH1.out k hlt) hal
              rw [← HA.out.1, ← HA.out.2.1, ← HA.out.2.2] at this; exact this
            by_cases hi64 : i < 64
            · have hd2 : decide ((i : Int) < 64) = true := by simp; omega
              have hd2n : decide (i < 64) = true := by simp; omega
              have qm := fun w => markN_any k s w (by omega) (by omega)
              have hown := hG.1
              have HS := Lib.hid (show N + (i + 1) = s + 1 by omega)
              have HG := Lib.hid hG
              clear hs hG
              go_wp2_with (first | (go_at_call 72; refine (qm _).mono ?_; rintro e w' ⟨rfl, hw'⟩; rw [hw']; clear hw') | (at_builtin; refine wpList_append_ways _ rfl (.tmp 57) (.tmp 67) 22 rfl base 30 i0 (.int .u64 0) 8 Tryd.underlying22 hinf hz0 hz1 hz2 rfl _ s _ rfl (hown.alloc _) ⟨w3.heap.size, 0, none⟩ 1 1 [.int .u64 (mkN k s)] rfl rfl ?d1 ?d2 ?d3 ?d4 ?hA ?hB))
              case d1 => exact one_cell _ _ _ _
              case d2 => first | exact one_oneN _ | rfl
              case d3 => unfold maxLen; omega
              case d4 => omega
              case hA =>
                intro g cap w5 hv hv2 hroom hown5 hgrow5
                subst hv
                subst hv2
                have hG5 := HG.out.inplace _ hsN.1 HAO.out hbk hown5 hgrow5
                clear hown5 hgrow5 hown HG
                go_wp2_with fail
                go_roundw
                case rel => exact ⟨i + 1, _, _, by omega, by go_num, by rw [HS.out], by rw [HS.out]; exact hG5⟩
                case measure => simp [intOf]; omega
              case hB =>
                intro v' w5 hown5 hgrow5
                obtain ⟨a2, c2, rfl, hG5⟩ := HG.out.moved _ hbk (by rw [World.size_alloc]; exact hown5) hgrow5
                clear hown5 hgrow5 hown HG
                go_wp2_with fail
                go_roundw
                case rel => exact ⟨i + 1, a2, c2, by omega, by go_num, by rw [HS.out], by rw [HS.out]; exact hG5⟩
                case measure => simp [intOf]; omega
            · have hd2 : decide ((i : Int) < 64) = false := by simp; omega
              have hd2n : decide (i < 64) = false := by simp; omega
              have hs64 : s = N + 64 := by omega
              obtain ⟨h1, h2, h3, h4, h5⟩ := hG
              have hkgb : A k ≠ some ⟨gb, 0, none⟩ := fun e => by have := hold k gb hlt e; omega
              have h4' : Exc (A k) wk w3 := by rw [← HA.out.1]; exact h4
              have hE3 := HE1.out.exc hlt h4' hkgb
              have hH3 := h4'.hd HH1.out (by rw [← HA.out.1]; exact hal)
              have hR3 := HR1.out.exc HD.out hlt h4' (by show w3.ownsRow base 30 1 (.slice (A k) (n k) (C k)) (n k) ((mks k (n k)).map (Value.int .u64)); rw [← HA.out.1, ← HA.out.2.1, ← HA.out.2.2]; exact h2)
              have hnt : Nto K A k a' := by
                rcases h3 with ⟨h3, _⟩ | h3
                · rw [h3, HA.out.1]; exact Nto.self HD.out hlt
                · exact Nto.new hold k (fun g hg => by have := h3 g hg; omega)
              have hng : a' ≠ some ⟨gb, 0, none⟩ := by
                rcases h3 with ⟨h3, _⟩ | h3
                · rw [h3, HA.out.1]; exact hkgb
                · exact fun e => by have := h3 gb e; omega
              have hls : wk.heap.size ≤ w3.heap.size := h4.1
              have hc1 := World.ownsRow.cellAt hE3.1 k (by omega)
              obtain ⟨y, hy⟩ : ∃ y, w3.cell? ⟨gb, k, none⟩ = some y := ⟨_, hc1.trans (List.getElem?_eq_getElem (by have := hE3.1.1; omega))⟩
              have hfy := World.ownsRow.frozenAt hE3.1 k
              have hbgb : base ≤ gb := (World.ownsRow.lt hE3.1 gb rfl).1
              rw [hs64, HA.out.2.2] at h1
              have hE4 := (hE3.put hlt h1 hnt hng).congr (Y := fun j => mks j (n j + 64)) (fun j _ => by by_cases hjk : j = k <;> simp [hjk])
              have hH4 := hH3.set (g := gb) (fun e => by
                rcases hlb with hlb | hlb
                · exact hlb e.symm
                · omega) k (.slice a' (n k + 64) c')
              have hR4 : Rws base (w3.setCell ⟨gb, k, none⟩ (.slice a' (n k + 64) c')) K A n C (fun j => mks j (n j)) := fun j hj => own_otherV (hR3 j hj) (fun e => by have := hold j gb hj e; omega) _ _
              have hB4 := (hB.step hlt h5 h4').setNew hgw hbgb k (.slice a' (n k + 64) c')
              have hl4 : gb < (w3.setCell ⟨gb, k, none⟩ (.slice a' (n k + 64) c')).heap.size := by rw [World.size_setCell]; omega
              have HZ := Lib.hid (And.intro hE4 (And.intro hH4 (And.intro hR4 (And.intro hB4 hl4))))
              have HS2 := Lib.hid (show s = n k + 64 by rw [hs64, HA.out.2.2])
              clear h1 h2 h3 h4 h5 h4' hE3 hH3 hR3 hc1 hE4 hH4 hR4 hB4 hl4 hnt hng hs64 hs hkgb
              go_wp2_with fail
              go_roundw
              case rel => exact ⟨k + 1, _, by omega, by go_num, by rw [HS2.out]; exact HZ.out.2.1, by rw [HS2.out]; exact HZ.out.2.2.1, by rw [HS2.out]; exact HZ.out.1, by rw [HS2.out]; exact HZ.out.2.2.2.1, by rw [HS2.out]; exact HZ.out.2.2.2.2⟩
              case measure => simp [intOf]; omega
        · have hd : decide ((k : Int) < (K : Int)) = false := by simp; omega
          have hdn : decide (k < K) = false := by simp; omega
          obtain rfl : k = K := by omega
          go_wp2_with fail
          go_loopw [9] (fun I wr => ∃ j : Nat, j ≤ k ∧ I = .int .i64 (j : Int) ∧ ∃ q, wr = wk.drewN q) (fun I _ => k - (intOf I).toNat)
          case atStart => exact ⟨0, by omega, rfl, 0, rfl⟩
          case round =>
            obtain ⟨j, hj, rfl, q, hq⟩ := hrel
            by_cases hjk : j < k
            · have hd3 : decide ((j : Int) < (k : Int)) = true := by simp; omega
              have hd3n : decide (j < k) = true := by simp; omega
              have i3 : (j : Int) < (k : Int) := by omega
              have hnj := HN.out j hjk
              obtain ⟨a, c, hv, ho, _, _⟩ := hE.2 j hjk
              have hcg : wk.cell? ⟨gb, j, none⟩ = some (.slice a (n j + 64) c) := by
                rw [World.ownsRow.cellAt hE.1 j (by omega)]; exact hv
              have hcl := hH j hjk
              have hrl := hR j hjk
              obtain ⟨N, hN⟩ : ∃ N, N = n j := ⟨_, rfl⟩
              obtain ⟨a0, ha⟩ : ∃ a, a = A j := ⟨_, rfl⟩
              obtain ⟨c0, hc⟩ : ∃ c, c = C j := ⟨_, rfl⟩
              obtain ⟨M, hM⟩ : ∃ M, M = n j + 64 := ⟨_, rfl⟩
              have hMN : M = N + 64 := by omega
              simp only [← hM] at hcg ho
              simp only [← hN, ← ha, ← hc] at hcl hrl
              rw [← hN] at hnj
              obtain ⟨g, rfl, _, _, _, hMc⟩ := own_addr ho (by omega)
              have hgc : ∀ i, i < M → wk.cell? ⟨g, i, none⟩ = some (.int .u64 (mkN j i)) := fun i hi => by
                rw [World.ownsRow.cellAt ho i (by omega), List.getElem?_map, List.getElem?_eq_getElem (by rw [mks_len]; exact hi)]
                have := mks_at (k := j) hi
                rw [List.getElem?_eq_getElem (by rw [mks_len]; exact hi)] at this
                simp only [Option.getD_some] at this
                rw [Option.map_some, this]
              have hlc : ∀ i, i < N → ∃ gl, a0 = some ⟨gl, 0, none⟩ ∧ wk.cell? ⟨gl, i, none⟩ = some (.int .u64 (mkN j i)) := fun i hi => by
                obtain ⟨gl, h1, _⟩ := own_addr hrl (by omega)
                refine ⟨gl, h1, ?_⟩
                subst h1
                rw [World.ownsRow.cellAt hrl i (by omega), List.getElem?_map, List.getElem?_eq_getElem (by rw [mks_len]; exact hi)]
                have := mks_at (k := j) hi
                rw [List.getElem?_eq_getElem (by rw [mks_len]; exact hi)] at this
                simp only [Option.getD_some] at this
                rw [Option.map_some, this]
              have HGC := Lib.hid hgc
              have HLC := Lib.hid hlc
              have hcg2 : wr.cell? ⟨gb, j, none⟩ = some (.slice (some ⟨g, 0, none⟩) M c) := by rw [hq]; exact hcg
              have HCG := Lib.hid hcg
              have HCL := Lib.hid hcl
              have HQ := Lib.hid hq
              have HE1 := Lib.hid hE
              have HH1 := Lib.hid hH
              have HR1 := Lib.hid hR
              clear hgc hlc hv ho hcl hrl hN ha hc hM hcg hE hH hR hq
              go_wp2_with fail
              go_loopw [10] (fun I wr => ∃ i : Nat, i ≤ M ∧ I = .int .i64 (i : Int) ∧ ∃ q, wr = wk.drewN q) (fun I _ => M - (intOf I).toNat)
              case atStart => exact ⟨0, by omega, rfl, q, HQ.out⟩
              case round =>
                clear hcg2 HQ
                obtain ⟨i, hi, rfl, q2, hq2⟩ := hrel
                have hcg2 : wr.cell? ⟨gb, j, none⟩ = some (.slice (some ⟨g, 0, none⟩) M c) := by rw [hq2]; exact HCG.out
                by_cases hiM : i < M
                · have hd4 : decide ((i : Int) < (M : Int)) = true := by simp; omega
                  have hd4n : decide (i < M) = true := by simp; omega
                  have i4 : (i : Int) < (M : Int) := by omega
                  have hcm : wr.cell? ⟨g, i, none⟩ = some (.int .u64 (mkN j i)) := by rw [hq2]; exact HGC.out i hiM
                  have hcl2 : wr.cell? ⟨lb, off + j, none⟩ = some (.slice a0 N c0) := by rw [hq2]; exact HCL.out
                  obtain ⟨m, hm⟩ : ∃ m, m = mkN j i := ⟨_, rfl⟩
                  have qm : ∀ w, _ := fun w => markN_any j i w (by omega) (by omega)
                  simp only [← hm] at qm hcm
                  have hmm : (m == m) = true := by simp
                  by_cases hiN : i < N
                  · have hd5 : decide ((i : Int) < (N : Int)) = true := by simp; omega
                    have hd5n : decide (i < N) = true := by simp; omega
                    have i5 : (i : Int) < (N : Int) := by omega
                    obtain ⟨gl, rfl, hcn⟩ := HLC.out i hiN
                    have hcn2 : wr.cell? ⟨gl, i, none⟩ = some (.int .u64 m) := by rw [hq2, hm]; exact hcn
                    have HQ2 := Lib.hid hq2
                    clear hcn hq2 hm
                    go_wp2_with fail
                    go_quiet ((go_at_call 72; exact Calls.quiet_of_same (qm _)))
                    go_wp2_with fail
                    go_roundw
                    case rel => exact ⟨i + 1, by omega, by go_num, q2 + nq, by rw [HQ2.out, drewN_add]⟩
                    case measure => simp [intOf]; omega
                  · have hd5 : decide ((i : Int) < (N : Int)) = false := by simp; omega
                    have hd5n : decide (i < N) = false := by simp; omega
                    have HQ2 := Lib.hid hq2
                    clear hq2 hm
                    go_wp2_with fail
                    go_quiet ((go_at_call 72; exact Calls.quiet_of_same (qm _)))
                    go_wp2_with fail
                    go_roundw
                    case rel => exact ⟨i + 1, by omega, by go_num, q2 + nq, by rw [HQ2.out, drewN_add]⟩
                    case measure => simp [intOf]; omega
                · have hd4 : decide ((i : Int) < (M : Int)) = false := by simp; omega
                  have hd4n : decide (i < M) = false := by simp; omega
                  have HQ2 := Lib.hid hq2
                  clear hq2
                  go_wp2_with fail
                  go_roundw
                  case rel => exact ⟨j + 1, by omega, by go_num, q2, HQ2.out⟩
                  case measure => simp [intOf]; omega
            · have hd3 : decide ((j : Int) < (k : Int)) = false := by simp; omega
              have hd3n : decide (j < k) = false := by simp; omega
              have hE6 : Ents base gb k wr A n vals 0 (fun _ => []) := by rw [hq]; exact ⟨hE.1, fun j hj => by omega⟩
              have hH6 : Hd wr lb off k A n C := by rw [hq]; exact hH
              have hR6 : Rws base wr k A n C (fun j => mks j (n j)) := by rw [hq]; exact hR
              have hB6 : Bf base k A w wr := by rw [hq]; exact hB.drewN q
              have hl6 : gb < wr.heap.size := by rw [hq]; exact hl
              obtain ⟨K, hKk⟩ : ∃ K, K = k := ⟨_, rfl⟩
              subst hKk
              clear hE hH hR hB hl hq
              go_wp2_with fail
              go_loopw [11] (fun I wr => ∃ (k : Nat) (vals : List Value) (X : Nat → List Int), k ≤ K ∧ I = .int .i64 (k : Int) ∧ Hd wr lb off K A n C ∧ Rws base wr K A n C (fun j => mks j (n j)) ∧ Ents base gb K wr A n vals k X ∧ (∀ j, j < k → (X j).take (n j) = mks j (n j)) ∧ Bf base K A w wr ∧ gb < wr.heap.size) (fun I _ => K - (intOf I).toNat)
              case atStart => exact ⟨0, vals, fun _ => [], by omega, rfl, hH6, hR6, hE6, fun j hj => by omega, hB6, hl6⟩
              case round =>
                clear hH6 hR6 hE6 hB6 hl6
                obtain ⟨k, vals, X, hk, rfl, hH, hR, hE, hX, hB, hl⟩ := hrel
                obtain ⟨wk, hwk⟩ : ∃ wz, wz = wr := ⟨_, rfl⟩
                subst hwk
                by_cases hlt : k < K
                · have hd : decide ((k : Int) < (K : Int)) = true := by simp; omega
                  have hdn : decide (k < K) = true := by simp; omega
                  have i1 : (k : Int) < (K : Int) := by omega
                  have hnk := HN.out k hlt
                  have hcell := hH k hlt
                  have hrow : wk.ownsRow base 30 1 (.slice (A k) (n k) (C k)) (n k) ((mks k (n k)).map (Value.int .u64)) := hR k hlt
                  obtain ⟨N, hN⟩ : ∃ N, N = n k := ⟨_, rfl⟩
                  obtain ⟨a0, ha⟩ : ∃ a, a = A k := ⟨_, rfl⟩
                  obtain ⟨c0, hc⟩ : ∃ c, c = C k := ⟨_, rfl⟩
                  rw [← hN] at hnk
                  rw [← hN, ← ha, ← hc] at hcell hrow
                  have hao : ∀ g, a0 = some ⟨g, 0, none⟩ → g < gb := fun g e => hold k g hlt (by rw [← ha, e])
                  have HAL := Lib.hid (fun e => HD.out.2 k lb hlt (by rw [← ha, e]) rfl : a0 ≠ some ⟨lb, 0, none⟩)
                  have HKG := Lib.hid (fun e => by have := hold k gb hlt e; omega : A k ≠ some ⟨gb, 0, none⟩)
                  have hbk : base ≤ wk.heap.size := by have := hB.size; omega
                  have HAO := Lib.hid (fun g e => Nat.lt_trans (hao g e) hl : ∀ g, a0 = some ⟨g, 0, none⟩ → g < wk.heap.size)
                  have HA := Lib.hid (And.intro ha (And.intro hc hN))
                  have HH1 := Lib.hid hH
                  have HR1 := Lib.hid hR
                  have HE1 := Lib.hid hE
                  have HX := Lib.hid hX
                  have HCE := Lib.hid hcell
                  have HRW := Lib.hid hrow
                  clear hao hN ha hc hH hR hE hX hcell hrow
                  go_wp2_with (at_make; refine wpList_make_full _ rfl _ _ 22 rfl wk.heap.size 30 i0 (.int .u64 0) 1 Tryd.underlying22 hinf hz0 hz1 .i64 .i64 _ _ 64 rfl rfl rfl rfl (by rw [hz2]; omega) (by unfold maxLen; omega) (Nat.le_refl _) ?_)
                  intro w7 hown7 hgrow7
                  rw [made_zerosU] at hown7
                  have he7 : Exc none wk w7 := (Exc.refl none wk).grown hgrow7 (fun _ _ e => by cases e)
                  have hb7 : Below base wk w7 := (Below.refl _ _).grown hgrow7 hbk (fun _ e => by cases e)
                  obtain ⟨mb, hmb⟩ : ∃ g, g = wk.heap.size := ⟨_, rfl⟩
                  rw [← hmb] at hown7 ⊢
                  have hbm : base ≤ mb := by omega
                  have HMB := Lib.hid hmb
                  clear hgrow7 hmb
                  go_wp2_with fail
                  go_loopw [13] (fun I wr => ∃ (i : Nat) (R : List Int), i ≤ 64 ∧ I = .int .i64 (i : Int) ∧ wr.ownsRow mb 30 1 (.slice (some ⟨mb, 0, none⟩) 64 64) 64 (R.map (Value.int .u64)) ∧ Exc none wk wr ∧ Below base wk wr) (fun I _ => 64 - (intOf I).toNat)
                  case atStart => exact ⟨0, _, by omega, rfl, hown7, he7, hb7⟩
                  case round =>
                    clear hown7 he7 hb7
                    obtain ⟨i, R, hi, rfl, ho7, he7, hb7⟩ := hrel
                    obtain ⟨w7, hw7⟩ : ∃ wz, wz = wr := ⟨_, rfl⟩
                    subst hw7
                    by_cases hi64 : i < 64
                    · have hd2 : decide ((i : Int) < 64) = true := by simp; omega
                      have hd2n : decide (i < 64) = true := by simp; omega
                      have i2 : (i : Int) < 64 := by omega
                      obtain ⟨s, hs⟩ : ∃ s, s = k + K := ⟨_, rfl⟩
                      have es : (k : Int) + (K : Int) = (s : Int) := by omega
                      have qm := fun w => markN_any s i w (by omega) (by omega)
                      have hci := World.ownsRow.cellAt ho7 i (by omega)
                      have hlR : R.length = 64 := own_len ho7
                      obtain ⟨y, hy⟩ : ∃ y, w7.cell? ⟨mb, i, none⟩ = some y := ⟨_, hci.trans (List.getElem?_eq_getElem (by rw [List.length_map]; omega))⟩
                      have hfy := World.ownsRow.frozenAt ho7 i
                      have hst := (World.ownsRow.stored ho7 i (.int .u64 (mkN s i))).1
                      rw [← List.map_set] at hst
                      have he8 := he7.set (g := mb) (.inl (by rw [HMB.out]; exact Nat.le_refl _)) i (.int .u64 (mkN s i))
                      have hb8 := hb7.setCell (p := ⟨mb, i, none⟩) hbm (.int .u64 (mkN s i))
                      have HZ := Lib.hid (And.intro hst (And.intro he8 hb8))
                      clear hs hci hst he8 hb8 ho7 he7 hb7
                      go_wp2_with (go_at_call 72; refine (qm _).mono ?_; rintro e w' ⟨rfl, hw'⟩; rw [hw']; clear hw')
                      go_roundw
                      case rel => exact ⟨i + 1, _, by omega, by go_num, HZ.out.1, HZ.out.2.1, HZ.out.2.2⟩
                      case measure => simp [intOf]; omega
                    · have hd2 : decide ((i : Int) < 64) = false := by simp; omega
                      have hd2n : decide (i < 64) = false := by simp; omega
                      have hcell : w7.cell? ⟨lb, off + k, none⟩ = some (.slice a0 N c0) := he7.cell HCE.out (by simp)
                      have hlR : R.length = 64 := own_len ho7
                      have hnews := World.ownsRow.cells ho7 (g := mb) rfl
                      have hrow7 : w7.ownsRow base 30 1 (.slice a0 N c0) N ((mks k N).map (Value.int .u64)) := he7.own HRW.out (fun _ _ e => by cases e)
                      go_wp2_with (at_builtin; refine wpList_append_ways _ rfl (.tmp 148) (.tmp 149) 22 rfl base 30 i0 (.int .u64 0) 8 Tryd.underlying22 hinf hz0 hz1 hz2 rfl _ N _ rfl hrow7 ⟨mb, 0, none⟩ 64 64 (R.map (Value.int .u64)) rfl (by rw [List.length_map]; exact hlR) hnews (ints_one _ _) (by unfold maxLen; omega) (by omega) ?hA ?hB)
                      case hA =>
                        intro g cap w8 hv hv2 hroom ho hg5
                        subst hv
                        subst hv2
                        rw [← List.map_append] at ho
                        have hbg : base ≤ g := (World.ownsRow.lt hrow7 g rfl).1
                        have ho8 := ho
                        have hr8 : w8.ownsRow base 30 1 (.slice (some ⟨g, 0, none⟩) N c0) N ((mks k N).map (Value.int .u64)) := by
                          rw [List.map_append] at ho; exact own_front ho (by rw [List.length_map, mks_len])
                        have he8 : Exc (some ⟨g, 0, none⟩) wk w8 := (Exc.weak he7).grown hg5 (fun b hb e => by cases e; rfl)
                        have hb8 : Below base wk w8 := hb7.grown hg5 (by have := he7.1; omega) (fun _ e => by cases e; exact hbg)
                        have hnt : Nto K A k (some ⟨g, 0, none⟩) := by rw [HA.out.1]; exact Nto.self HD.out hlt
                        have hng : (some ⟨g, 0, none⟩ : Option Addr) ≠ some ⟨gb, 0, none⟩ := by rw [HA.out.1]; exact HKG.out
                        clear ho hg5 hrow7 hnews ho7 he7 hb7 hcell
                        have h4' : Exc (A k) wk w8 := by rw [← HA.out.1]; exact he8
                        have hE3 := HE1.out.exc hlt h4' HKG.out
                        have hH3 := h4'.hd HH1.out (by rw [← HA.out.1]; exact HAL.out)
                        have hR3 := HR1.out.exc HD.out hlt h4' (by show w8.ownsRow base 30 1 (.slice (A k) (n k) (C k)) (n k) ((mks k (n k)).map (Value.int .u64)); rw [← HA.out.1, ← HA.out.2.1, ← HA.out.2.2]; exact hr8)
                        have hls : wk.heap.size ≤ w8.heap.size := he8.1
                        have hc1 := World.ownsRow.cellAt hE3.1 k (by omega)
                        obtain ⟨y, hy⟩ : ∃ y, w8.cell? ⟨gb, k, none⟩ = some y := ⟨_, hc1.trans (List.getElem?_eq_getElem (by have := hE3.1.1; omega))⟩
                        have hfy := World.ownsRow.frozenAt hE3.1 k
                        have hbgb : base ≤ gb := (World.ownsRow.lt hE3.1 gb rfl).1
                        have ho9 := ho8
                        rw [HA.out.2.2] at ho9
                        have hE4 := hE3.put hlt ho9 hnt hng
                        have hX4 : ∀ j, j < k + 1 → ((fun j => if j = k then mks k (n k) ++ R else X j) j).take (n j) = mks j (n j) := fun j hj => by
                          by_cases hjk : j = k
                          · subst hjk; simp only [if_true]; exact (List.take_append_of_le_length (by rw [mks_len]; exact Nat.le_refl _)).trans (List.take_of_length_le (by rw [mks_len]; exact Nat.le_refl _))
                          · simp only [if_neg hjk]; exact HX.out j (by omega)
                        have hH4 := hH3.set (g := gb) (fun e => by
                          rcases hlb with hlb | hlb
                          · exact hlb e.symm
                          · omega) k (.slice (some ⟨g, 0, none⟩) (n k + 64) c0)
                        have hR4 : Rws base (w8.setCell ⟨gb, k, none⟩ (.slice (some ⟨g, 0, none⟩) (n k + 64) c0)) K A n C (fun j => mks j (n j)) := fun j hj => own_otherV (hR3 j hj) (fun e => by have := hold j gb hj e; omega) _ _
                        have hB4 := (hB.step hlt hb8 h4').setNew hgw hbgb k (.slice (some ⟨g, 0, none⟩) (n k + 64) c0)
                        have hl4 : gb < (w8.setCell ⟨gb, k, none⟩ (.slice (some ⟨g, 0, none⟩) (n k + 64) c0)).heap.size := by rw [World.size_setCell]; omega
                        have HZ := Lib.hid (And.intro hE4 (And.intro hH4 (And.intro hR4 (And.intro hB4 (And.intro hl4 hX4)))))
                        have HS2 := Lib.hid (show N + 64 = n k + 64 by rw [HA.out.2.2])
                        clear h4' hE3 hH3 hR3 hc1 hE4 hH4 hR4 hB4 hl4 hX4 hnt hng ho8 ho9 hr8 he8 hb8 hB
                        go_wp2_with fail
                        go_roundw
                        case rel => exact ⟨k + 1, _, _, by omega, by go_num, by rw [HS2.out]; exact HZ.out.2.1, by rw [HS2.out]; exact HZ.out.2.2.1, by rw [HS2.out]; exact HZ.out.1, HZ.out.2.2.2.2.2, by rw [HS2.out]; exact HZ.out.2.2.2.1, by rw [HS2.out]; exact HZ.out.2.2.2.2.1⟩
                        case measure => simp [intOf]; omega
                      case hB =>
                        intro v' w8 ho hg5
                        obtain ⟨a', c', rfl⟩ : ∃ a2 c2, v' = .slice a2 (N + 64) c2 := by
                          rcases ho.2 with ⟨_, h0⟩ | ⟨g, cap, cur, hv, _⟩
                          · omega
                          · exact ⟨_, _, hv⟩
                        rw [← List.map_append] at ho
                        have hsz7 := he7.1
                        have ho8 := own_base ho (show base ≤ w7.heap.size by omega)
                        have hr8 := own_keptV hrow7 hg5 (fun _ _ e => by cases e)
                        have he8 : Exc a0 wk w8 := (Exc.weak he7).grown hg5 (fun b hb e => by cases e)
                        have hb8 : Below base wk w8 := hb7.grown hg5 (by omega) (fun _ e => by cases e)
                        have hnt : Nto K A k a' := Nto.new hold k (fun g hg => by subst hg; have := (World.ownsRow.lt ho g rfl).1; omega)
                        have hng : a' ≠ some ⟨gb, 0, none⟩ := fun e => by subst e; have := (World.ownsRow.lt ho gb rfl).1; omega
                        clear ho hg5 hrow7 hnews ho7 he7 hb7 hcell
                        have h4' : Exc (A k) wk w8 := by rw [← HA.out.1]; exact he8
                        have hE3 := HE1.out.exc hlt h4' HKG.out
                        have hH3 := h4'.hd HH1.out (by rw [← HA.out.1]; exact HAL.out)
                        have hR3 := HR1.out.exc HD.out hlt h4' (by show w8.ownsRow base 30 1 (.slice (A k) (n k) (C k)) (n k) ((mks k (n k)).map (Value.int .u64)); rw [← HA.out.1, ← HA.out.2.1, ← HA.out.2.2]; exact hr8)
                        have hls : wk.heap.size ≤ w8.heap.size := he8.1
                        have hc1 := World.ownsRow.cellAt hE3.1 k (by omega)
                        obtain ⟨y, hy⟩ : ∃ y, w8.cell? ⟨gb, k, none⟩ = some y := ⟨_, hc1.trans (List.getElem?_eq_getElem (by have := hE3.1.1; omega))⟩
                        have hfy := World.ownsRow.frozenAt hE3.1 k
                        have hbgb : base ≤ gb := (World.ownsRow.lt hE3.1 gb rfl).1
                        have ho9 := ho8
                        rw [HA.out.2.2] at ho9
                        have hE4 := hE3.put hlt ho9 hnt hng
                        have hX4 : ∀ j, j < k + 1 → ((fun j => if j = k then mks k (n k) ++ R else X j) j).take (n j) = mks j (n j) := fun j hj => by
                          by_cases hjk : j = k
                          · subst hjk; simp only [if_true]; exact (List.take_append_of_le_length (by rw [mks_len]; exact Nat.le_refl _)).trans (List.take_of_length_le (by rw [mks_len]; exact Nat.le_refl _))
                          · simp only [if_neg hjk]; exact HX.out j (by omega)
                        have hH4 := hH3.set (g := gb) (fun e => by
                          rcases hlb with hlb | hlb
                          · exact hlb e.symm
                          · omega) k (.slice a' (n k + 64) c')
                        have hR4 : Rws base (w8.setCell ⟨gb, k, none⟩ (.slice a' (n k + 64) c')) K A n C (fun j => mks j (n j)) := fun j hj => own_otherV (hR3 j hj) (fun e => by have := hold j gb hj e; omega) _ _
                        have hB4 := (hB.step hlt hb8 h4').setNew hgw hbgb k (.slice a' (n k + 64) c')
                        have hl4 : gb < (w8.setCell ⟨gb, k, none⟩ (.slice a' (n k + 64) c')).heap.size := by rw [World.size_setCell]; omega
                        have HZ := Lib.hid (And.intro hE4 (And.intro hH4 (And.intro hR4 (And.intro hB4 (And.intro hl4 hX4)))))
                        have HS2 := Lib.hid (show N + 64 = n k + 64 by rw [HA.out.2.2])
                        clear h4' hE3 hH3 hR3 hc1 hE4 hH4 hR4 hB4 hl4 hX4 hnt hng ho8 ho9 hr8 he8 hb8 hB
                        go_wp2_with fail
                        go_roundw
                        case rel => exact ⟨k + 1, _, _, by omega, by go_num, by rw [HS2.out]; exact HZ.out.2.1, by rw [HS2.out]; exact HZ.out.2.2.1, by rw [HS2.out]; exact HZ.out.1, HZ.out.2.2.2.2.2, by rw [HS2.out]; exact HZ.out.2.2.2.1, by rw [HS2.out]; exact HZ.out.2.2.2.2.1⟩
                        case measure => simp [intOf]; omega
                · have hd : decide ((k : Int) < (K : Int)) = false := by simp; omega
                  have hdn : decide (k < K) = false := by simp; omega
                  obtain rfl : k = K := by omega
                  go_wp2_with fail
                  go_loopw [14] (fun I wr => ∃ j : Nat, j ≤ k ∧ I = .int .i64 (j : Int) ∧ ∃ q, wr = wk.drewN q) (fun I _ => k - (intOf I).toNat)
                  case atStart => exact ⟨0, by omega, rfl, 0, rfl⟩
                  case round =>
                    obtain ⟨j, hj, rfl, q, hq⟩ := hrel
                    by_cases hjk : j < k
                    · have hd3 : decide ((j : Int) < (k : Int)) = true := by simp; omega
                      have hd3n : decide (j < k) = true := by simp; omega
                      have i3 : (j : Int) < (k : Int) := by omega
                      have hnj := HN.out j hjk
                      obtain ⟨a, c, hv, ho, _, _⟩ := hE.2 j hjk
                      have hcg : wk.cell? ⟨gb, j, none⟩ = some (.slice a (n j + 64) c) := by
                        rw [World.ownsRow.cellAt hE.1 j (by omega)]; exact hv
                      have hcl := hH j hjk
                      have hrl := hR j hjk
                      have hxt := hX j hjk
                      have hxl := own_len ho
                      obtain ⟨N, hN⟩ : ∃ N, N = n j := ⟨_, rfl⟩
                      obtain ⟨a0, ha⟩ : ∃ a, a = A j := ⟨_, rfl⟩
                      obtain ⟨c0, hc⟩ : ∃ c, c = C j := ⟨_, rfl⟩
                      obtain ⟨M, hM⟩ : ∃ M, M = n j + 64 := ⟨_, rfl⟩
                      have hMN : M = N + 64 := by omega
                      simp only [← hM] at hcg ho hxl
                      simp only [← hN, ← ha, ← hc] at hcl hrl hxt
                      rw [← hN] at hnj
                      obtain ⟨g, rfl, _, _, _, hMc⟩ := own_addr ho (by omega)
                      have hgc : ∀ i, i < N → wk.cell? ⟨g, i, none⟩ = some (.int .u64 (mkN j i)) := fun i hi => by
                        rw [World.ownsRow.cellAt ho i (by omega), List.getElem?_map]
                        have h1 := mks_at (k := j) hi
                        rw [← hxt, List.getElem?_take, if_pos hi, List.getElem?_eq_getElem (by omega)] at h1
                        simp only [Option.getD_some] at h1
                        rw [List.getElem?_eq_getElem (by omega), Option.map_some, h1]
                      have hlc : ∀ i, i < N → ∃ gl, a0 = some ⟨gl, 0, none⟩ ∧ wk.cell? ⟨gl, i, none⟩ = some (.int .u64 (mkN j i)) := fun i hi => by
                        obtain ⟨gl, h1, _⟩ := own_addr hrl (by omega)
                        refine ⟨gl, h1, ?_⟩
                        subst h1
                        rw [World.ownsRow.cellAt hrl i (by omega), List.getElem?_map, List.getElem?_eq_getElem (by rw [mks_len]; exact hi)]
                        have := mks_at (k := j) hi
                        rw [List.getElem?_eq_getElem (by rw [mks_len]; exact hi)] at this
                        simp only [Option.getD_some] at this
                        rw [Option.map_some, this]
                      have HGC := Lib.hid hgc
                      have HLC := Lib.hid hlc
                      have hcl2 : wr.cell? ⟨lb, off + j, none⟩ = some (.slice a0 N c0) := by rw [hq]; exact hcl
                      have HCG := Lib.hid hcg
                      have HCL := Lib.hid hcl
                      have HQ := Lib.hid hq
                      have HE1 := Lib.hid hE
                      have HH1 := Lib.hid hH
                      have HR1 := Lib.hid hR
                      have HX1 := Lib.hid hX
                      clear hgc hlc hv ho hcl hrl hN ha hc hM hcg hE hH hR hX hq hxt hxl
                      go_wp2_with fail
                      go_loopw [15] (fun I wr => ∃ i : Nat, i ≤ N ∧ I = .int .i64 (i : Int) ∧ ∃ q, wr = wk.drewN q) (fun I _ => N - (intOf I).toNat)
                      case atStart => exact ⟨0, by omega, rfl, q, HQ.out⟩
                      case round =>
                        clear hcl2 HQ
                        obtain ⟨i, hi, rfl, q2, hq2⟩ := hrel
                        have hcl2 : wr.cell? ⟨lb, off + j, none⟩ = some (.slice a0 N c0) := by rw [hq2]; exact HCL.out
                        by_cases hiN : i < N
                        · have hd4 : decide ((i : Int) < (N : Int)) = true := by simp; omega
                          have hd4n : decide (i < N) = true := by simp; omega
                          have i4 : (i : Int) < (N : Int) := by omega
                          have i5 : (i : Int) < (M : Int) := by omega
                          have hcm : wr.cell? ⟨g, i, none⟩ = some (.int .u64 (mkN j i)) := by rw [hq2]; exact HGC.out i hiN
                          have hcg2 : wr.cell? ⟨gb, j, none⟩ = some (.slice (some ⟨g, 0, none⟩) M c) := by rw [hq2]; exact HCG.out
                          obtain ⟨gl, rfl, hcn⟩ := HLC.out i hiN
                          have hcn2 : wr.cell? ⟨gl, i, none⟩ = some (.int .u64 (mkN j i)) := by rw [hq2]; exact hcn
                          obtain ⟨m, hm⟩ : ∃ m, m = mkN j i := ⟨_, rfl⟩
                          have qm : ∀ w, _ := fun w => markN_any j i w (by omega) (by omega)
                          simp only [← hm] at qm hcm hcn2
                          have hmm : (m == m) = true := by simp
                          have HQ2 := Lib.hid hq2
                          clear hcn hq2 hm
                          go_wp2_with fail
                          go_quiet ((go_at_call 72; exact Calls.quiet_of_same (qm _)))
                          go_wp2_with fail
                          go_roundw
                          case rel => exact ⟨i + 1, by omega, by go_num, q2 + nq, by rw [HQ2.out, drewN_add]⟩
                          case measure => simp [intOf]; omega
                        · have hd4 : decide ((i : Int) < (N : Int)) = false := by simp; omega
                          have hd4n : decide (i < N) = false := by simp; omega
                          have HQ2 := Lib.hid hq2
                          clear hq2
                          go_wp2_with fail
                          go_roundw
                          case rel => exact ⟨j + 1, by omega, by go_num, q2, HQ2.out⟩
                          case measure => simp [intOf]; omega
                    · have hd3 : decide ((j : Int) < (k : Int)) = false := by simp; omega
                      have hd3n : decide (j < k) = false := by simp; omega
                      have hBf : Bf base k A w wr := by rw [hq]; exact hB.drewN q
                      clear hE hH hR hX hq
                      go_wp2_with fail
                      go_ret
                      exact ⟨rfl, hBf⟩
end Go.Proofs.YtcdjfgkjllonhaaDoor
