/-
  The contracts of varint's WriteAll and of the reference's: for any numbers, at most 1000000 of them, they return the forms, one after the other, in new memory; nothing that was there is changed.
-/
import Derived.Test.YteddbpcpllehoaaPutb
import Derived.Test.YteddbpcpllehoaaApp
import Derived.Test.YteddbpcpllehoaaRall
namespace Go.Proofs.Yteddbpcpllehoaa
open Go.RowKit Go.Shelf

theorem Sl.idx {k : IntKind} {w : World} {a : Option Addr} {len cap : Nat} {l : List Int} (h : Sl k w a len cap l) {i : Nat} (hi : i < len) : ∃ b off, a = some ⟨b, off, none⟩ ∧ w.cell? ⟨b, off + i, none⟩ = some (.int k (l[i]?.getD 0)) := by
  obtain ⟨_, _, _, h4⟩ := h
  rcases h4 with ⟨h5, _⟩ | ⟨b, off, ha, _, hc⟩
  · omega
  · exact ⟨b, off, ha, hc i hi⟩

set_option maxHeartbeats 1000000 in
theorem writeAll_any (w : World) (a : Option Addr) (len cap : Nat) (l : List Int) (hs : Sl .u64 w a len cap l) (hn : Nums l) (hlen : len ≤ 1000000) :
    Calls Try.prog 20 #[.slice a len cap] w (Made .u8 5 (vwall l) w) := by
  obtain ⟨i0, hi, hz0, hz1, hz2⟩ := info_parts infoU8
  have hll := hs.1
  have hsl : ∀ j, vsizes (l.take j) ≤ 10000000 := fun j => by
    have h1 := vsizes_le (hn.take j)
    have h2 : (l.take j).length ≤ l.length := by simp; omega
    omega
  have HSL := Lib.hid hsl
  have HLL := Lib.hid hll
  clear hsl hll
  go_enter Try.func20, Try.ntmps20
  go_wp2_with fail
  go_loop [3, 11] (fun s i => ∃ j : Nat, i = .int .i64 j ∧ j ≤ len ∧ s = .int .i64 (vsizes (l.take j))) (fun _ i => len - (intOf i).toNat)
  case atStart => exact ⟨0, rfl, by omega, rfl⟩
  case round =>
    obtain ⟨j, rfl, hj, rfl⟩ := hrel
    by_cases hlt : j < len
    · obtain ⟨b, off, rfl, hcell⟩ := hs.idx hlt
      obtain ⟨x, hx⟩ : ∃ x, x = l[j]?.getD 0 := ⟨_, rfl⟩
      have hxb := hn.at j (by rw [HLL.out]; exact hlt)
      have hst := vsizes_step l j (by rw [HLL.out]; exact hlt)
      rw [← hx] at hcell hxb hst
      have hb1 := HSL.out j
      have hb2 : vsize x ≤ 10 := vsize_10 hxb.2
      have HST := Lib.hid hst
      clear hst hx
      go_wp2_with (go_at_call 17; refine (size_any x _ hxb.1 hxb.2).mono ?_; rintro e w' ⟨rfl, rfl⟩)
      go_round
      case rel => exact ⟨j + 1, by go_num, by omega, by rw [HST.out]; go_num⟩
      case measure => simp [intOf]; omega
    · obtain rfl : j = len := by omega
      have hb1 := HSL.out j
      go_wp2_with (at_make; refine wpList_make_own _ rfl (.const (.int .i64 0)) (.tmp 20) 25 rfl w.heap.size 5 i0 (.int .u8 0) 1 Try.underlying25 hi hz0 hz1 .i64 .i64 _ (vsizes (l.take j)) rfl rfl rfl ?c1 ?c2 ?c3 ?_)
      case c1 => first | omega | (rw [hz2]; omega)
      case c2 => unfold maxLen; omega
      intro w1 hown hgrow
      have hB : Below w.heap.size w w1 := (Below.refl _ _).grown hgrow (Nat.le_refl _) (fun k hk => by cases hk)
      clear hgrow
      go_wp2_with fail
      go_loopw [6, 24] (fun v i wr => ∃ k : Nat, i = .int .i64 k ∧ k ≤ j ∧ wr.ownsRow w.heap.size 5 1 v (vwall (l.take k)).length ((vwall (l.take k)).map (Value.int .u8)) ∧ Below w.heap.size w wr) (fun _ i _ => j - (intOf i).toNat)
      case atStart => exact ⟨0, rfl, by omega, hown, hB⟩
      case round =>
        obtain ⟨k, rfl, hk, hownk, hBk⟩ := hrel
        by_cases hlt2 : k < j
        · obtain ⟨b, off, rfl, hcell⟩ := (hs.below hBk).idx hlt2
          obtain ⟨x, hx⟩ : ∃ x, x = l[k]?.getD 0 := ⟨_, rfl⟩
          have hxb := hn.at k (by rw [HLL.out]; exact hlt2)
          have hst := vwall_step l k (by rw [HLL.out]; exact hlt2)
          rw [← hx] at hcell hxb hst
          have hb3 : (vwall (l.take k)).length ≤ 140737488355000 := by rw [vwall_length]; have := HSL.out k; omega
          have hszk := hBk.size
          have HST := Lib.hid hst
          clear hst hx hown
          go_wp2_with fail
          refine (put_any w.heap.size _ (vwall (l.take k)) x wr hxb.1 hxb.2 hszk hb3 hownk).mono ?_
          rintro e w2 ⟨v2, rfl, hown2, hB2⟩
          have hB3 := hBk.trans hB2
          clear hownk hB2 hBk
          go_wp2_with fail
          go_roundw
          case rel => exact ⟨k + 1, by go_num, by omega, by rw [HST.out]; exact hown2, hB3⟩
          case measure => simp [intOf]; omega
        · obtain rfl : k = j := by omega
          have htk : l.take k = l := List.take_of_length_le (by rw [HLL.out]; exact Nat.le_refl _)
          rw [htk] at hownk
          clear hown htk
          go_wp2_with fail
          go_ret
          obtain ⟨a', cap', rfl⟩ := own_shape hownk
          exact ⟨a', cap', rfl, hownk, hBk⟩

set_option maxHeartbeats 1000000 in
theorem rwriteAll_any (w : World) (a : Option Addr) (len cap : Nat) (l : List Int) (hs : Sl .u64 w a len cap l) (hn : Nums l) (hlen : len ≤ 1000000) :
    Calls Try.prog 34 #[.slice a len cap] w (Made .u8 5 (vwall l) w) := by
  obtain ⟨i0, hi, hz0, hz1, hz2⟩ := info_parts infoU8
  have hll := hs.1
  have hsl : ∀ j, vsizes (l.take j) ≤ 10000000 := fun j => by
    have h1 := vsizes_le (hn.take j)
    have h2 : (l.take j).length ≤ l.length := by simp; omega
    omega
  have HSL := Lib.hid hsl
  have HLL := Lib.hid hll
  clear hsl hll
  go_enter Try.func34, Try.ntmps34
  go_wp2_with fail
  go_loopw [3, 4] (fun v i wr => ∃ k : Nat, i = .int .i64 k ∧ k ≤ len ∧ wr.ownsRow w.heap.size 5 1 v (vwall (l.take k)).length ((vwall (l.take k)).map (Value.int .u8)) ∧ Below w.heap.size w wr) (fun _ i _ => len - (intOf i).toNat)
  case atStart => exact ⟨0, rfl, by omega, World.ownsRow_nil _ _ _ _, Below.refl _ _⟩
  case round =>
    obtain ⟨k, rfl, hk, hownk, hBk⟩ := hrel
    by_cases hlt2 : k < len
    · obtain ⟨b, off, rfl, hcell⟩ := (hs.below hBk).idx hlt2
      obtain ⟨x, hx⟩ : ∃ x, x = l[k]?.getD 0 := ⟨_, rfl⟩
      have hxb := hn.at k (by rw [HLL.out]; exact hlt2)
      have hst := vwall_step l k (by rw [HLL.out]; exact hlt2)
      rw [← hx] at hcell hxb hst
      have hb3 : (vwall (l.take k)).length ≤ 140737488355000 := by rw [vwall_length]; have := HSL.out k; omega
      have hszk := hBk.size
      have HST := Lib.hid hst
      have h10 : (vform x).length ≤ 10 := vsize_10 hxb.2
      clear hst hx
      go_wp2_with fail
      refine (rwrite_any x wr hxb.1 hxb.2).mono ?_
      rintro e w2 ⟨a2, c2, rfl, hown2, hB2⟩
      have hownk2 : w2.ownsRow w.heap.size 5 1 _ (vwall (l.take k)).length ((vwall (l.take k)).map (Value.int .u8)) := ownsRow_below hownk hB2
      have hs2 := own_sl hown2
      have hB3 := hBk.trans (hB2.mono hszk)
      have hsz2 := hB3.size
      clear hown2 hB2 hownk
      go_wp2_with (at_builtin; refine wpList_append_onsl _ rfl (.tmp 11) (.tmp 16) 25 rfl .u8 w.heap.size 5 i0 1 Try.underlying25 hi hz0 hz1 hz2 _ (vwall (l.take k)) a2 (vform x).length c2 (vform x) rfl rfl hownk2 hs2 (by unfold maxLen; omega) (by omega) hsz2 ?_)
      intro v' w3 hown3 hgrow3
      have hB4 := hB3.grown hgrow3 hsz2 (fun k hk => (hownk2.lt k hk).1)
      clear hgrow3 hownk2 hs2 hB3
      go_wp2_with fail
      go_roundw
      case rel => exact ⟨k + 1, by go_num, by omega, by rw [HST.out]; simpa using hown3, hB4⟩
      case measure => simp [intOf]; omega
    · obtain rfl : k = len := by omega
      have htk : l.take k = l := List.take_of_length_le (by rw [HLL.out]; exact Nat.le_refl _)
      rw [htk] at hownk
      clear htk
      go_wp2_with fail
      go_ret
      obtain ⟨a', cap', rfl⟩ := own_shape hownk
      exact ⟨a', cap', rfl, hownk, hBk⟩
end Go.Proofs.Yteddbpcpllehoaa
