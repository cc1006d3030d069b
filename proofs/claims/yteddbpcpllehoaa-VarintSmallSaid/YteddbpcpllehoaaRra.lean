/-
  The contract of the reference's ReadAll: for at most 1000000 bytes it returns the numbers and the error that are read out of them; nothing that was there is changed.
-/
import Derived.Test.YteddbpcpllehoaaRrd
import Derived.Test.YteddbpcpllehoaaScana
namespace Go.Proofs.Yteddbpcpllehoaa
open Go.RowKit Go.Shelf

theorem Sl.drop {k : IntKind} {w : World} {b off len cap : Nat} {l : List Int} (h : Sl k w (some ⟨b, off, none⟩) len cap l) {p : Nat} (hp : p < len) : Sl k w (some ⟨b, off + p, none⟩) (len - p) (cap - p) (l.drop p) := by
  obtain ⟨h1, h2, h3, h4⟩ := h
  refine ⟨by simp; omega, by omega, by omega, ?_⟩
  rcases h4 with ⟨h5, _⟩ | ⟨b', off', ha, hlt, hc⟩
  · omega
  · cases ha
    refine .inr ⟨b, off + p, rfl, hlt, fun i hi => ?_⟩
    rw [Nat.add_assoc, hc (p + i) (by omega), List.getElem?_drop]

set_option maxHeartbeats 1000000 in
theorem rreadAll_any (w : World) (a : Option Addr) (len cap : Nat) (l : List Int) (hs : Sl .u8 w a len cap l) (hby : Bytes l) (hlen : len ≤ 1000000) :
    Calls Try.prog 31 #[.slice a len cap] w fun e w' => (∃ a' n' c', e = .returned (.tuple #[.slice a' n' c', .int .i64 (vreads l).2]) ∧ Sl .u64 w' a' n' c' (vreads l).1) ∧ Below w.heap.size w w' := by
  obtain ⟨i0, hi, hz0, hz1, hz2⟩ := info_parts infoU64
  have hl := hs.1
  have hlc := hs.2.1
  have hcm := hs.2.2.1
  have HL := Lib.hid hl
  clear hl
  go_enter Try.func31, Try.ntmps31
  go_wp2_with fail
  go_loopw [4, 5] (fun v i wr => ∃ (p : Nat) (pre : List Int), i = .int .i64 p ∧ p ≤ len ∧ Aside (vreads l = fin pre (vreads (l.drop p))) ∧ pre.length ≤ p ∧ wr.ownsRow w.heap.size 22 1 v pre.length (pre.map (Value.int .u64)) ∧ Below w.heap.size w wr) (fun _ i _ => len - (intOf i).toNat)
  case atStart => exact ⟨0, [], rfl, by omega, fin_zero l, by simp, World.ownsRow_nil _ _ _ _, Below.refl _ _⟩
  case round =>
    obtain ⟨p, pre, rfl, hpl, HF, hpre, hown, hB⟩ := hrel
    have hszr := hB.size
    by_cases hlt : p < len
    · have hpcap : ¬ cap = p := by omega
      have hpI : (p : Int) < (len : Int) := by omega
      have hpI2 : (p : Int) ≤ (len : Int) := by omega
      have hsub : (len : Int) - (p : Int) = ((len - p : Nat) : Int) := by omega
      have hsr := hs.below hB
      obtain ⟨b, off, rfl, _⟩ := hsr.view (by omega)
      have hsd := hsr.drop hlt
      have hpne : l.drop p ≠ [] := by
        intro h0
        have := congrArg List.length h0
        simp at this
        have := HL.out
        omega
      rcases rdA_err (l.drop p) 0 1 0 with he | ⟨E, hE, he⟩
      · obtain ⟨z, n, hzn⟩ : ∃ z n, vread (l.drop p) = (z, n, 0) := ⟨(vread (l.drop p)).1, (vread (l.drop p)).2.1, by rw [← he]; rfl⟩
        have hpos := vread_pos (l := l.drop p) (by rw [hzn]) (hby.drop p)
        rw [hzn] at hpos
        simp only at hpos
        have hnl : p + n ≤ len := by
          have h1 : (l.drop p).length = l.length - p := by simp
          rw [HL.out] at h1
          omega
        have HR := Lib.hid (readRes_eq' hzn)
        have HFS := Lib.hid (show vreads l = fin (pre ++ [z]) (vreads (l.drop (p + n))) from by rw [HF.out, fin_step pre (hby.drop p) hpne hzn, List.drop_drop])
        have hn1 := hpos.1
        have hprb : pre.length ≤ 1000000 := by omega
        clear he hzn hpne hpos hsr
        go_wp2_with fail
        refine (rread_any _ _ _ _ _ hsd (hby.drop p)).mono ?_
        rw [HR.out]
        rintro e w' ⟨rfl, rfl⟩
        go_wp2_with (at_builtin; refine wpList_append_own _ rfl (.tmp 24) (.tmp 26) 27 rfl w.heap.size 22 i0 (.int .u64 0) 1 8 Try.underlying27 hi hz0 hz1 hz2 rfl (by decide) _ _ _ rfl (hown.alloc _) ⟨wr.heap.size, 0, none⟩ 1 1 [.int .u64 z] rfl rfl ?c1 ?c2 ?c3 ?c4 ?c5 ?_)
        case c1 => exact one_cell _ _ _ _
        case c2 => first | rfl | exact one_one _ _
        case c3 => unfold maxLen; omega
        case c4 => omega
        case c5 => first | omega | (simp; omega)
        intro v' w1 hown' hgrow _
        have hb1 : Below w.heap.size w w1 := (hB.alloc hszr _).grown hgrow (by simp; omega) (fun k hk => (hown.lt k hk).1)
        clear hown hgrow hsd
        go_wp2_with fail
        go_roundw
        case rel => exact ⟨p + n, pre ++ [z], by go_num, by omega, HFS.out, by simp; omega, by simpa using hown', hb1⟩
        case measure => simp [intOf]; omega
      · have hE0 : E ≠ 0 := by omega
        have HR := Lib.hid (readRes_eq' (l := l.drop p) he)
        have hff : vreads l = ([], E) := by rw [HF.out]; exact fin_err pre hpne he hE0
        have hEb : (E != 0) = true := by simp; exact hE0
        have HFF := Lib.hid hff
        clear he hff hpne hE hE0 hsr hown
        go_wp2_with fail
        refine (rread_any _ _ _ _ _ hsd (hby.drop p)).mono ?_
        rw [HR.out]
        rintro e w' ⟨rfl, rfl⟩
        go_wp2_with fail
        go_ret2
        exact ⟨⟨none, 0, 0, by rw [HFF.out]; rfl, by rw [HFF.out]; exact Sl.nil _ _⟩, hB⟩
    · obtain rfl : p = len := by omega
      obtain ⟨a', c', rfl⟩ := own_shape hown
      have hsl := own_sl hown
      have hff : vreads l = (pre, 0) := by rw [HF.out, List.drop_eq_nil_of_le (by rw [HL.out]; omega)]; exact fin_nil pre
      have HFF := Lib.hid hff
      clear hff hown
      go_wp2_with fail
      go_ret2
      exact ⟨⟨a', pre.length, c', by rw [HFF.out]; rfl, by rw [HFF.out]; exact hsl⟩, hB⟩
end Go.Proofs.Yteddbpcpllehoaa
