/-
  The contracts of slices.Grow on nil and slices.Concat on two parts, at []byte. No condition but those in each statement.
-/
import Derived.Test.YtdaijbplbnkpeaaDoorUng
import Derived.Test.YtdaijbplbnkpeaaDoorCrd
import Derived.RegionTactic
import Derived.LoopTactic
namespace Go.Proofs.YtdaijbplbnkpeaaDoor
open Go.RowKit Go.Shelf

theorem own_cut0 {w : World} {base : Nat} {e : TypeId} {s : Nat} {a : Option Addr} {n cap : Nat} {xs : List Value} (h : w.ownsRow base e s (.slice a n cap) n xs) : w.ownsRow base e s (.slice a 0 cap) 0 [] := by
  refine ⟨by simp, ?_⟩
  rcases h.2 with ⟨hv, h0⟩ | ⟨g, c, cur, hv, hg, hh, hn, hm, hc, ht⟩
  · cases hv; exact .inl ⟨rfl, rfl⟩
  · cases hv; exact .inr ⟨g, cap, cur, rfl, hg, hh, Nat.zero_le _, hm, hc, by simp⟩

theorem run_append_zeros_nil {P : Program} (w : World) (t tn ty e : TypeId) (i : TypeInfo) (k kq kn : IntKind) (ht : P.underlying t = some (.slice e)) (htn : P.underlying tn = some (.int kn)) (hi : P.info? e = some i) (hz : i.zero = some (.int k 0))
    (hsize : i.size = 1) (hby : i.bytes = 1) (m : Nat) (hm : 0 < m) (hlim : m ≤ 1000000) :
    ∃ v' w', (Builtin.append_ #[t, tn] ty #[.slice none 0 0, .int kq m]).run P w = .ok v' w' ∧ w'.ownsRow w.heap.size e 1 v' m (List.replicate m (.int k 0)) ∧ w.grownBy w' none := by
  have hzc : (Builtin.zeroCells (Value.int k 0).cells m).toList = List.replicate m (.int k 0) := zeroCells_one (.int k 0) m
  have hfit := growslice_fits (need := 0 + m) (old := 0) (bytes := i.bytes) (by omega) (by rw [hby]; omega)
  have hold : (Builtin.firstCells i.size 0 (.slice none 0 0)).run P w.drew = .ok #[] w.drew := by simp [Builtin.firstCells]
  have hr := Lib.run_append_grow_zeros (P := P) w t tn ty e i (.int k 0) kq kn ht htn hi hz none 0 0 [] (by simpa using hold) m (by omega) (by omega) (by omega) (by omega) (by rw [hby]; omega) hfit
  have hge := grownCap_ge w (0 + m) 0 e
  have hcm2 : grownCap w (0 + m) 0 e ≤ maxLen := grownCap_le_maxLen w (0 + m) 0 e (by unfold maxLen; omega)
  rw [Nat.zero_add] at hge hcm2 hr
  refine ⟨_, _, hr, ⟨by simp, .inr ⟨w.heap.size, _, _, rfl, Nat.le_refl _, heap_alloc_new w.drew _, hge, hcm2, ?_, ?_⟩⟩, ⟨rfl, rfl, rfl, by simp, fun j hj _ => Below.heap_alloc w.drew _ j hj⟩⟩
  · have h1 : ∀ q, (Builtin.zeroCells (Value.int k 0).cells q).size = q := fun q => by rw [size_zeroCells]; simp [Value.cells]
    simp only [Array.size_append, List.size_toArray, h1]
    simp; omega
  · simp only [Array.toList_append, hzc, List.append_assoc]
    simp

theorem wpList_append_zeros_nil {P : Program} (w : World) {ops : Array Oper} {rest : List Oper} {o : Oper} {a : Act} {Q : Exit → Act → World → Prop}
    (hg : o.guard = none) (s x : Operand) (t tn : TypeId) (hop : o.op = Op.call { callee := Callee.builtin Builtin.append, args := #[s, x], argTypes := #[t, tn] })
    (k kq kn : IntKind) (e : TypeId) (i : TypeInfo) (ht : P.underlying t = some (.slice e)) (htn : P.underlying tn = some (.int kn)) (hi : P.info? e = some i) (hz : i.zero = some (.int k 0)) (hsize : i.size = 1) (hby : i.bytes = 1)
    (m : Nat) (hs : a.eval s = .slice none 0 0) (hx : a.eval x = .int kq m) (hm : 0 < m) (hlim : m ≤ 1000000)
    (hK : ∀ v' w', w'.ownsRow w.heap.size e 1 v' m (List.replicate m (.int k 0)) → w.grownBy w' none → wpList P ops Q rest (a.put o.dst v') w') :
    wpList P ops Q (o :: rest) a w := by
  obtain ⟨v', w', hr, h2, h3⟩ := run_append_zeros_nil (P := P) w t tn o.type e i k kq kn ht htn hi hz hsize hby m hm hlim
  exact Lib.wpList_append_run w hg s x t tn hop _ _ hs hx v' w' hr (hK v' w' h2 h3)

set_option maxRecDepth 100000 in
set_option maxHeartbeats 1000000 in
theorem grow_nil (n : Nat) (w : World) (hn' : n ≤ 1000000) :
    Calls Tryd.prog 56 #[.slice none 0 0, .int .i64 (n : Int)] w fun e w' => ∃ v, e = .returned v ∧ Made w [] v w' := by
  obtain ⟨i0, hi, hz0, hz1, hz2⟩ := info_parts infoU8
  have hd0 : decide ((n : Int) < 0) = false := by simp
  by_cases h0 : n = 0
  · subst h0
    go_enter Tryd.func56, Tryd.ntmps56
    go_wp2_with fail
    go_ret
    exact ⟨_, rfl, World.ownsRow_nil _ _ _ _, Below.refl _ _⟩
  · have hd1 : decide ((0 : Int) < (n : Int)) = true := by simp; omega
    go_enter Tryd.func56, Tryd.ntmps56
    go_wp2_with (at_builtin; refine wpList_append_zeros_nil _ rfl (.tmp 20) (.tmp 21) 22 3 rfl .u8 .i64 .i64 5 i0 Tryd.underlying22 Tryd.underlying3 hi hz0 hz1 hz2 n rfl rfl (by omega) hn' ?_)
    intro v1 w1 hown hgrow
    obtain ⟨a1, c1, rfl⟩ := own_shape hown
    have hB : Below w.heap.size w w1 := (Below.refl _ _).grown hgrow (Nat.le_refl _) (fun _ hk => by cases hk)
    have hown0 := own_cut0 hown
    clear hgrow hown
    go_wp2_with fail
    go_ret
    exact ⟨_, rfl, hown0, hB⟩

set_option maxRecDepth 100000 in
set_option maxHeartbeats 2000000 in
theorem concat_any (w : World) (b : Nat) (a1 a2 : Option Addr) (n1 c1 n2 c2 : Nat) (l1 l2 : List Int) (hb : b < w.heap.size) (hc0 : w.cell? ⟨b, 0, none⟩ = some (.slice a1 n1 c1)) (hc1 : w.cell? ⟨b, 1, none⟩ = some (.slice a2 n2 c2))
    (hS1 : Sl .u8 w a1 n1 c1 l1) (hS2 : Sl .u8 w a2 n2 c2 l2) (h1 : n1 ≤ 1000) (h2 : n2 ≤ 1000) :
    Calls Tryd.prog 33 #[.slice (some ⟨b, 0, none⟩) 2 2] w fun e w' => ∃ v, e = .returned v ∧ Made w (l1 ++ l2) v w' := by
  obtain ⟨i0, hi, hz0, hz1, hz2⟩ := info_parts infoU8
  have e1 := hS1.1
  have e2 := hS2.1
  go_enter Tryd.func33, Tryd.ntmps33
  go_wp2_with fail
  go_loop [3, 11] (fun S I => ∃ j s : Nat, j ≤ 2 ∧ I = .int .i64 (j : Int) ∧ S = .int .i64 (s : Int) ∧ s ≤ 1000 * j ∧ (j = 2 → s = n1 + n2) ∧ (j = 1 → s = n1) ∧ (j = 0 → s = 0)) (fun S I => 2 - (intOf I).toNat)
  case atStart => exact ⟨0, 0, by omega, rfl, rfl, by omega, fun h => by omega, fun h => by omega, fun _ => rfl⟩
  case round =>
    obtain ⟨j, s, hj, rfl, rfl, hs, hs2, hs1, hs0⟩ := hrel
    have HS2 := Lib.hid hs2
    have HS1 := Lib.hid hs1
    have HS0 := Lib.hid hs0
    clear hs2 hs1 hs0
    by_cases hlt : j < 2
    · obtain ⟨a, n, c, hc, hna, hn1⟩ : ∃ a n c, w.cell? ⟨b, j, none⟩ = some (.slice a n c) ∧ n ≤ 1000 ∧ ((j = 0 → n = n1) ∧ (j = 1 → n = n2)) := by
        match j, hlt with
        | 0, _ => exact ⟨a1, n1, c1, hc0, h1, fun _ => rfl, fun h => by omega⟩
        | 1, _ => exact ⟨a2, n2, c2, hc1, h2, fun h => by omega, fun _ => rfl⟩
      have HN := Lib.hid hn1
      have hneg : decide ((s : Int) + (n : Int) < 0) = false := by simp; omega
      clear hn1 hc0 hc1
      go_wp2_with fail
      go_round
      case rel =>
        have z2 := HS2.out
        have z1 := HS1.out
        have z0 := HS0.out
        have zn := HN.out
        refine ⟨j + 1, s + n, by omega, by go_num, by go_num, by omega, fun h => ?_, fun h => ?_, fun h => by omega⟩
        · have := z1 (by omega); have := zn.2 (by omega); omega
        · have := z0 (by omega); have := zn.1 (by omega); omega
      case measure => simp [intOf]; omega
    · obtain rfl : j = 2 := by omega
      have hse := HS2.out rfl
      have hsl : s ≤ 2000 := by omega
      clear hse
      go_wp2_with fail
      refine (grow_nil s w (by omega)).mono ?_
      rintro e w1 ⟨v1, rfl, hown1, hB1⟩
      have hown1' : w1.ownsRow w.heap.size 5 1 v1 ((l1 ++ l2).take 0).length (((l1 ++ l2).take 0).map (Value.int .u8)) := by simpa using hown1
      clear hown1
      go_wp2_with fail
      go_loopw [6, 27] (fun v I wr => ∃ j : Nat, ∃ L : List Int, j ≤ 2 ∧ I = .int .i64 (j : Int) ∧ wr.ownsRow w.heap.size 5 1 v L.length (L.map (Value.int .u8)) ∧ L.length ≤ 1000 * j ∧ (j = 0 → L = []) ∧ (j = 1 → L = l1) ∧ (j = 2 → L = l1 ++ l2) ∧ Below w.heap.size w wr) (fun v I _ => 2 - (intOf I).toNat)
      case atStart => exact ⟨0, [], by omega, rfl, by simpa using hown1', by simp, fun _ => rfl, fun h => by omega, fun h => by omega, hB1⟩
      case round =>
        obtain ⟨j, L, hj, rfl, hown, hLl, k0, k1, k2, hB⟩ := hrel
        have K0 := Lib.hid k0
        have K1 := Lib.hid k1
        have K2 := Lib.hid k2
        clear k0 k1 k2
        have hsz := hB.size
        by_cases hlt2 : j < 2
        · obtain ⟨a, n, c, l, hc, hSl, hna, hjl⟩ : ∃ a n c l, wr.cell? ⟨b, j, none⟩ = some (.slice a n c) ∧ Sl .u8 wr a n c l ∧ n ≤ 1000 ∧ ((j = 0 → l = l1) ∧ (j = 1 → l = l2)) := by
            match j, hlt2 with
            | 0, _ => exact ⟨a1, n1, c1, l1, (hB.cell (p := ⟨b, 0, none⟩) hb).trans hc0, hS1.below hB, h1, fun _ => rfl, fun h => by omega⟩
            | 1, _ => exact ⟨a2, n2, c2, l2, (hB.cell (p := ⟨b, 1, none⟩) hb).trans hc1, hS2.below hB, h2, fun h => by omega, fun _ => rfl⟩
          have HJ := Lib.hid hjl
          have hln := hSl.1
          have HLN := Lib.hid hln
          clear hjl hc0 hc1 hS1 hS2 hown1' hln
          go_wp2_with (at_builtin; refine wpList_append_onsl _ rfl (.tmp 31) (.tmp 32) 22 rfl .u8 w.heap.size 5 i0 1 Tryd.underlying22 hi hz0 hz1 hz2 _ L a n c l rfl rfl hown hSl (by unfold maxLen; omega) (by omega) hsz ?_)
          intro v2 w2 hown2 hgrow2
          have hB2 : Below w.heap.size w w2 := hB.grown hgrow2 hsz (fun k hk => (hown.lt k hk).1)
          have hown3 : w2.ownsRow w.heap.size 5 1 v2 (L ++ l).length ((L ++ l).map (Value.int .u8)) := by simpa using hown2
          clear hown2 hgrow2 hown hSl
          go_wp2_with fail
          go_roundw
          case rel =>
            refine ⟨j + 1, L ++ l, by omega, by go_num, hown3, by rw [List.length_append, HLN.out]; omega, fun h => by omega, fun h => ?_, fun h => ?_, hB2⟩
            · rw [K0.out (by omega), HJ.out.1 (by omega), List.nil_append]
            · rw [K1.out (by omega), HJ.out.2 (by omega)]
          case measure => simp [intOf]; omega
        · obtain rfl : j = 2 := by omega
          have hL := K2.out rfl
          rw [hL] at hown
          clear hL
          go_wp2_with fail
          go_ret
          exact ⟨_, rfl, hown, hB⟩
end Go.Proofs.YtdaijbplbnkpeaaDoor
