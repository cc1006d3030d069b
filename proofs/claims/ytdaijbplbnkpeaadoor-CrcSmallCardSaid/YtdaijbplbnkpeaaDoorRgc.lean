/-
  A bit of a row that is changed; the contracts of the reference's Seal, Sealed, Bit, Damages. No condition but those in each statement.
-/
import Derived.Test.YtdaijbplbnkpeaaDoorRgb
import Derived.Test.YtdaijbplbnkpeaaDoorQaw
import Derived.Deep.RegionHeld3
import Derived.RegionTactic
namespace Go.Proofs.YtdaijbplbnkpeaaDoor
open Go.RowKit Go.Shelf

set_option maxRecDepth 100000 in
/-- What a walk wants where a bit of a row of the call's own is changed. -/
theorem flip_facts {w : World} {base g N c q : Nat} {M : List Int} (hA : w.ownsRow base 5 1 (.slice (some ⟨g, 0, none⟩) N c) N (M.map (Value.int .u8))) (hB : Bys M) (hq : q < 8 * N) :
    ∃ y z : Nat, y < 256 ∧ w.cell? ⟨g, q / 8, none⟩ = some (.int .u8 (y : Int)) ∧ w.frozen? ⟨g, q / 8, none⟩ = false ∧ (2 : Int) ^ (q % 8) % 256 = (2 : Int) ^ (q % 8) ∧ bits .xor .u8 (y : Int) ((2 : Int) ^ (q % 8)) = (z : Int) ∧
      (w.setCell ⟨g, q / 8, none⟩ (.int .u8 (z : Int))).ownsRow base 5 1 (.slice (some ⟨g, 0, none⟩) N c) N ((flp M q).map (Value.int .u8)) ∧ w.grownBy (w.setCell ⟨g, q / 8, none⟩ (.int .u8 (z : Int))) (some g) ∧ base ≤ g := by
  have hSl : M.length = N := by have h := hA.1; rw [List.length_map, Nat.mul_one] at h; exact h
  have hq8 : q / 8 < N := by omega
  have hg := hB.get (q / 8)
  obtain ⟨y, hy, hyl⟩ : ∃ y : Nat, (y : Int) = M[q / 8]?.getD 0 ∧ y < 256 := ⟨(M[q / 8]?.getD 0).toNat, by omega, by omega⟩
  have e0 := hA.cellAt (q / 8) (by omega)
  have h2q : 2 ^ (q % 8) < 256 := Nat.pow_lt_pow_right (n := 8) (by omega) (Nat.mod_lt _ (by omega))
  have hflp : flp M q = M.set (q / 8) ((y ^^^ 2 ^ (q % 8) : Nat) : Int) := by unfold flp; rw [← hy]; rfl
  have hst := hA.stored (q / 8) (.int .u8 ((y ^^^ 2 ^ (q % 8) : Nat) : Int))
  refine ⟨y, y ^^^ 2 ^ (q % 8), hyl, ?_, hA.frozenAt (q / 8), ?_, ?_, ?_, hst.2, (hA.lt g rfl).1⟩
  · rw [e0, List.getElem?_map, hy, List.getElem?_eq_getElem (by omega : q / 8 < M.length)]; rfl
  · exact Int.emod_eq_of_lt (Int.pow_nonneg (by omega)) (by exact_mod_cast h2q)
  · exact bits8_xor y (2 ^ (q % 8)) hyl h2q (y : Int) ((2 : Int) ^ (q % 8)) rfl (by push_cast; rfl)
  · rw [hflp, List.map_set]; exact hst.1

set_option maxRecDepth 100000 in
theorem lit4_le (s : Nat) (h : s < 4294967296) : [((s % 256 : Nat) : Int), ((s / 256 % 256 : Nat) : Int), ((s / 65536 % 256 : Nat) : Int), ((s / 16777216 : Nat) : Int)] = le4 s := by
  unfold le4; rw [show s / 16777216 % 256 = s / 16777216 from by omega]

set_option maxRecDepth 100000 in
set_option maxHeartbeats 1000000 in
theorem rseal_any (a : Option Addr) (m cap : Nat) (l : List Int) (w : World) (hS : Sl .u8 w a m cap l) (hB : Bys l) (hm : m ≤ 100000) :
    Calls Tryd.prog 19 #[.slice a m cap] w fun e w' => ∃ v, e = .returned v ∧ Made w (l ++ le4 (upd 0 l)) v w' := by
  obtain ⟨i0, hinf, hz0, hz1, hz2⟩ := info_parts infoU8
  have hl := hS.1
  have hul : upd 0 l < 4294967296 := upd_lt hB (by decide)
  have hsum := rsum_any a m cap l w hS hB
  obtain ⟨s, hs⟩ : ∃ s, s = upd 0 l := ⟨_, rfl⟩
  rw [← hs] at hul hsum ⊢
  clear hs
  go_enter Tryd.func19, Tryd.ntmps19
  go_wp2_with fail
  refine hsum.mono ?_
  rintro e w1 ⟨rfl, hB1⟩
  have hown1 : (w1.alloc (.cells #[] 5)).ownsRow w.heap.size 5 1 (.slice (some ⟨w1.heap.size, 0, none⟩) 0 0) ([] : List Int).length (([] : List Int).map (Value.int .u8)) := World.ownsRow_lit w1 #[] 0 hB1.size (by unfold maxLen; omega) rfl
  have hB2 : Below w.heap.size w (w1.alloc (.cells #[] 5)) := hB1.alloc hB1.size _
  have hs2 := hS.below hB2
  have hsz2 := hB2.size
  go_wp2_with (at_builtin; refine wpList_append_onsl _ rfl (.tmp 6) (.tmp 7) 22 rfl .u8 w.heap.size 5 i0 1 Tryd.underlying22 hinf hz0 hz1 hz2 _ [] a m cap l rfl rfl hown1 hs2 (by unfold maxLen; simp; omega) (by simp; omega) hsz2 ?_)
  intro v3 w3 hown3 hgrow3
  have hB3 : Below w.heap.size w w3 := hB2.grown hgrow3 hsz2 (fun kk hk => by cases hk; exact hB1.size)
  have hown3' : w3.ownsRow w.heap.size 5 1 v3 l.length (l.map (Value.int .u8)) := by rw [hl]; simpa using hown3
  have c0 : (s : Int) % 256 = ((s % 256 : Nat) : Int) := by omega
  have c1 : (s : Int) / 256 % 256 = ((s / 256 % 256 : Nat) : Int) := by omega
  have c2 : (s : Int) / 65536 % 256 = ((s / 65536 % 256 : Nat) : Int) := by omega
  have c3 : (s : Int) / 16777216 = ((s / 16777216 : Nat) : Int) := by omega
  have c4 : (s : Int) / 16777216 % 256 = ((s / 16777216 : Nat) : Int) := by omega
  have t0 : (s : Int).tmod 256 = ((s % 256 : Nat) : Int) := by rw [Int.tmod_eq_emod_of_nonneg (by omega)]; omega
  have t1 : ((s : Int) / 256).tmod 256 = ((s / 256 % 256 : Nat) : Int) := by rw [Int.tmod_eq_emod_of_nonneg (by omega)]; omega
  have t2 : ((s : Int) / 65536).tmod 256 = ((s / 65536 % 256 : Nat) : Int) := by rw [Int.tmod_eq_emod_of_nonneg (by omega)]; omega
  have u0 : s % 256 < 256 := by omega
  have u1 : s / 256 % 256 < 256 := by omega
  have u2 : s / 65536 % 256 < 256 := by omega
  have u3 : s / 16777216 < 256 := by omega
  have hlit := lit4_le s hul
  obtain ⟨x0, hx0⟩ : ∃ x, x = s % 256 := ⟨_, rfl⟩
  obtain ⟨x1, hx1⟩ : ∃ x, x = s / 256 % 256 := ⟨_, rfl⟩
  obtain ⟨x2, hx2⟩ : ∃ x, x = s / 65536 % 256 := ⟨_, rfl⟩
  obtain ⟨x3, hx3⟩ : ∃ x, x = s / 16777216 := ⟨_, rfl⟩
  rw [← hx0, ← hx1, ← hx2, ← hx3] at hlit
  rw [← hx0] at c0 t0 u0
  rw [← hx1] at c1 t1 u1
  rw [← hx2] at c2 t2 u2
  rw [← hx3] at c3 c4 u3
  have HLit := Lib.hid hlit
  have hnl := new_sl w3 [(x0 : Int), (x1 : Int), (x2 : Int), (x3 : Int)] (0, 0) (by simp)
  have hB4 : Below w.heap.size w (w3.alloc (.cells #[.int .u8 (x0 : Int), .int .u8 (x1 : Int), .int .u8 (x2 : Int), .int .u8 (x3 : Int)] 5)) := hB3.alloc hB3.size _
  have hsz4 := hB4.size
  clear hown3 hgrow3 hown1 hs2 hsz2 hB2 hx0 hx1 hx2 hx3 hlit
  go_wp2_with (at_builtin; refine wpList_append_onsl _ rfl (.tmp 8) (.tmp 23) 22 rfl .u8 w.heap.size 5 i0 1 Tryd.underlying22 hinf hz0 hz1 hz2 _ l (some ⟨w3.heap.size, 0, none⟩) 4 4 [(x0 : Int), (x1 : Int), (x2 : Int), (x3 : Int)] rfl rfl (hown3'.alloc _) hnl (by unfold maxLen; omega) (by omega) hsz4 ?_)
  intro v5 w5 hown5 hgrow5
  have hown5' : w5.ownsRow w.heap.size 5 1 v5 (l ++ le4 s).length ((l ++ le4 s).map (Value.int .u8)) := by rw [← HLit.out, List.length_append, hl]; simpa using hown5
  have hB5 : Below w.heap.size w w5 := hB4.grown hgrow5 hsz4 (fun k hk => (hown3'.lt k hk).1)
  clear hown5 hgrow5
  go_wp2_with fail
  go_ret
  exact ⟨_, rfl, hown5', hB5⟩

set_option maxRecDepth 100000 in
set_option maxHeartbeats 1000000 in
theorem rsealed_any (a : Option Addr) (m cap : Nat) (l : List Int) (w : World) (hS : Sl .u8 w a m cap l) (hB : Bys l) (hm : m ≤ 100000) :
    Calls Tryd.prog 40 #[.slice a m cap] w fun e w' => e = .returned (.bool (seaB l)) ∧ Below w.heap.size w w' := by
  have hl := hS.1
  have hlc := hS.2.1
  have hcm := hS.2.2.1
  by_cases h4 : m < 4
  · have hd : decide ((m : Int) < 4) = true := by simp; omega
    have hr : seaB l = false := seaB_no (fun h => by have := h.1; omega)
    rw [hr]
    clear hr
    go_enter Tryd.func40, Tryd.ntmps40
    go_wp2_with fail
    go_ret
    exact ⟨rfl, Below.refl _ _⟩
  · have hd : decide ((m : Int) < 4) = false := by simp; omega
    have hSd : Sl .u8 w.drew a m cap l := hS.below (Below.refl _ _).drew
    have hSu := hSd.upto (m - 4) (by omega)
    have hBu := hB.take (m - 4)
    have hiff := sea_iff hB (by omega)
    rw [hl] at hiff
    obtain ⟨n, hn'⟩ : ∃ n, n = m - 4 := ⟨_, rfl⟩
    rw [← hn'] at hSu hBu hiff
    have hni : (m : Int) - 4 = (n : Int) := by omega
    have hbT := hBu.append (le4_bys (upd 0 (l.take n)))
    have q := rseal_any a n cap (l.take n) w.drew hSu hBu (by omega)
    obtain ⟨B, hBe⟩ : ∃ B, B = l.take n ++ le4 (upd 0 (l.take n)) := ⟨_, rfl⟩
    rw [← hBe] at hiff hbT q
    have hlb : B.length = m := by rw [hBe, List.length_append, le4_len, List.length_take]; omega
    have hinj : strOfNums B = strOfNums l ↔ B = l := ⟨fun h => str_inj hbT hB h, fun h => by rw [h]⟩
    obtain ⟨T, hT⟩ : ∃ T, T = strOfNums l := ⟨_, rfl⟩
    obtain ⟨T1, hT1⟩ : ∃ T, T = strOfNums B := ⟨_, rfl⟩
    rw [← hT, ← hT1] at hinj
    have HT1 := Lib.hid hT1
    have HT := Lib.hid hT
    have HLB := Lib.hid hlb
    clear hT1 hT hBe hlb hSu hbT
    by_cases hsea : Sea l
    · have hTT : T1 = T := hinj.2 (hiff.1 hsea)
      rw [seaB_yes hsea]
      rw [hTT] at HT1
      have hcc := fun w' (hb : Below w.drew.heap.size w.drew w') => conv_sl (hSd.below hb)
      rw [← HT.out] at hcc
      have hcd := conv_sl hSd
      rw [← HT.out] at hcd
      have hb1 : (n : Int) ≤ (cap : Int) := by omega
      have hb2 : n ≤ cap := by omega
      have hb3 : (0 : Int) ≤ (n : Int) := by omega
      have hb4 : IntKind.i64.wrap ((m : Int) - 4) = (n : Int) := by rw [IntKind.wrap_i64]; omega
      have hb5 : IntKind.i64.wrap (n : Int) = (n : Int) := by rw [IntKind.wrap_i64]; omega
      clear hiff hinj hTT hsea hn' h4
      go_enter Tryd.func40, Tryd.ntmps40
      go_wp2_with fail
      go_region_with (first
        | (go_at_call 19; refine q.mono ?_; rintro e w6 ⟨v6, rfl, hm6⟩; obtain ⟨a6, c6, rfl, hs6, _, hB6⟩ := hm6.view m HLB.out; have hc6 := conv_sl hs6; rw [← HT1.out] at hc6; have hc7 := hcc _ hB6))
      all_goals
        have hB7 : Below w.heap.size w w6 := below_step (Below.refl _ _).drew hB6
        go_wp2_with fail
        go_ret
        exact ⟨rfl, hB7⟩
    · have hTT : T1 ≠ T := fun h => hsea (hiff.2 (hinj.1 h))
      rw [seaB_no hsea]
      have hcc := fun w' (hb : Below w.drew.heap.size w.drew w') => conv_sl (hSd.below hb)
      rw [← HT.out] at hcc
      have hT2 : (T1 == T) = false := by
        cases hh : T1 == T with
        | false => rfl
        | true =>
          have h2 : (T1.data == T.data) = true := hh
          exact absurd (ByteArray.ext (eq_of_beq h2)) hTT
      have hT3 : (T1.toList == T.toList) = false := by
        have : T1.toList ≠ T.toList := fun h => hTT (ByteArray.ext (Array.toList_inj.1 (by rw [ByteArray.toList_eq, ByteArray.toList_eq] at h; exact h)))
        simpa using this
      have hT4 : decide (T1 = T) = false := by simpa using hTT
      have hcd := conv_sl hSd
      rw [← HT.out] at hcd
      have hb1 : (n : Int) ≤ (cap : Int) := by omega
      have hb2 : n ≤ cap := by omega
      have hb3 : (0 : Int) ≤ (n : Int) := by omega
      have hb4 : IntKind.i64.wrap ((m : Int) - 4) = (n : Int) := by rw [IntKind.wrap_i64]; omega
      have hb5 : IntKind.i64.wrap (n : Int) = (n : Int) := by rw [IntKind.wrap_i64]; omega
      clear hiff hinj hsea hn' hTT h4
      go_enter Tryd.func40, Tryd.ntmps40
      go_wp2_with fail
      go_region_with (first
        | (go_at_call 19; refine q.mono ?_; rintro e w6 ⟨v6, rfl, hm6⟩; obtain ⟨a6, c6, rfl, hs6, _, hB6⟩ := hm6.view m HLB.out; have hc6 := conv_sl hs6; rw [← HT1.out] at hc6; have hc7 := hcc _ hB6))
      all_goals
        have hB7 : Below w.heap.size w w6 := below_step (Below.refl _ _).drew hB6
        go_wp2_with fail
        go_ret
        exact ⟨rfl, hB7⟩
end Go.Proofs.YtdaijbplbnkpeaaDoor
