/-
  The walk of the law VarintSmall, which has no input: it returns true; nothing that was there is changed.
-/
import Derived.Test.YteddbpcpllehoaaTells
import Derived.Test.YteddbpcpllehoaaReads
import Derived.Test.YteddbpcpllehoaaLists
namespace Go.Proofs.Yteddbpcpllehoaa
open Go.RowKit Go.Shelf

theorem wrap64_range (x : Int) : -9223372036854775808 ≤ wrap64 x ∧ wrap64 x ≤ 9223372036854775807 := by unfold wrap64; omega

theorem pow_u64 (k : Nat) (hk : k < 64) : ∃ p : Int, IntKind.u64.wrap ((2 : Int) ^ k) = p ∧ 1 ≤ p ∧ p ≤ 9223372036854775808 := by
  have h : ∀ m : Fin 64, 1 ≤ (2 : Int) ^ m.val ∧ (2 : Int) ^ m.val ≤ 9223372036854775808 := by decide
  have h2 := h ⟨k, hk⟩
  simp only at h2
  refine ⟨_, rfl, ?_, ?_⟩ <;> rw [IntKind.wrap_u64] <;> omega

theorem bits_u64_range (op : BinOp) (x y : Int) : 0 ≤ bits op .u64 x y ∧ bits op .u64 x y ≤ 18446744073709551615 := by
  unfold bits
  rw [IntKind.wrap_u64]
  omega

def smF : List Int := [128, 129, 255]
def smL : List Int := [0, 1, 2, 3, 64, 127, 128, 129, 255]
def smB : List Int := [0, 1, 127, 128, 129, 255]
theorem smF_bytes : Bytes smF := by unfold Bytes smF; decide
theorem smL_bytes : Bytes smL := by unfold Bytes smL; decide
theorem smB_bytes : Bytes smB := by unfold Bytes smB; decide

set_option maxRecDepth 100000 in
set_option maxHeartbeats 4000000 in
theorem small_walk (w : World) :
    Calls Try.prog 6 #[] w fun e w' => e = .returned (.bool true) ∧ Below w.heap.size w w' := by
  obtain ⟨i0, hi, hz0, hz1, hz2⟩ := info_parts infoU8
  go_enter Try.func6, Try.ntmps6
  go_wp2_with fail
  go_loopw [14] (fun i wr => ∃ z : Int, i = .int .u64 z ∧ 0 ≤ z ∧ z ≤ 20001 ∧ Below w.heap.size w wr) (fun i _ => (20001 - intOf i).toNat)
  case atStart => exact ⟨0, rfl, by omega, by omega, Below.refl _ _⟩
  case round =>
    obtain ⟨z, rfl, hz0', hz1', hB⟩ := hrel
    by_cases hlt : z < 20001
    · go_wp2_with fail
      refine (tells_any wr z (z - 10000) (by omega) (by omega) (by omega) (by omega)).mono ?_
      rintro e w1 ⟨rfl, hB1⟩
      have hB2 := hB.trans (hB1.mono hB.size)
      clear hB hB1
      go_wp2_with fail
      go_roundw
      case rel => exact ⟨z + 1, rfl, by omega, by omega, hB2⟩
      case measure => simp [intOf]; omega
    · have hz : ¬ z < 20001 := hlt
      go_wp2_with fail
      go_loopw [24] (fun i wr => ∃ k : Nat, i = .int .i64 k ∧ k ≤ 64 ∧ Below w.heap.size w wr) (fun i _ => (64 - intOf i).toNat)
      case atStart => exact ⟨0, rfl, by omega, hB⟩
      case round =>
        obtain ⟨k, rfl, hk, hBk⟩ := hrel
        by_cases hlt2 : k < 64
        · have hkI : (k : Int) < 64 := by omega
          obtain ⟨wo, rfl⟩ : ∃ wo : World, wo = wr := ⟨_, rfl⟩
          obtain ⟨p, hp, hp0, hp1⟩ := pow_u64 k hlt2
          go_wp2_with fail
          go_loopw [27] (fun i wr => ∃ d : Int, i = .int .u64 d ∧ 0 ≤ d ∧ d ≤ 3 ∧ Below w.heap.size w wr) (fun i _ => (3 - intOf i).toNat)
          case atStart => exact ⟨0, rfl, by omega, by omega, hBk⟩
          case round =>
            obtain ⟨d, rfl, hd0, hd1, hBd⟩ := hrel
            by_cases hlt3 : d < 3
            · have hwx := wrap64_range (p + d - 1)
              have hnx := wrap64_range (-wrap64 (p + d - 1))
              go_wp2_with fail
              refine (tells_any wr (p + d - 1) (wrap64 (p + d - 1)) (by omega) (by omega) hwx.1 hwx.2).mono ?_
              rintro e w1 ⟨rfl, hB1⟩
              have hB2 := hBd.trans (hB1.mono hBd.size)
              clear hB1 hBd
              have hxr := bits_u64_range .xor IntKind.u64.max (p + d - 1)
              go_wp2_with fail
              refine (tells_any w1 _ (wrap64 (-wrap64 (p + d - 1))) hxr.1 hxr.2 hnx.1 hnx.2).mono ?_
              rintro e w2 ⟨rfl, hB3⟩
              have hB4 := hB2.trans (hB3.mono hB2.size)
              clear hB2 hB3
              have hblk := (Blk.new .u64 22 w2 [p + d - 1, bits .xor .u64 IntKind.u64.max (p + d - 1), d]).sl (by simp)
              have hnum : Nums [p + d - 1, bits .xor .u64 IntKind.u64.max (p + d - 1), d] := by
                intro c hc
                simp only [List.mem_cons, List.not_mem_nil, or_false] at hc
                rcases hc with rfl | rfl | rfl <;> omega
              have hB5 := hB4.alloc hB4.size (.cells (([p + d - 1, bits .xor .u64 IntKind.u64.max (p + d - 1), d] : List Int).map (Value.int .u64)).toArray 22)
              have HBK := Lib.hid (And.intro hblk hnum)
              clear hblk hnum
              go_wp2_with fail
              refine (lists_any _ (some ⟨w2.heap.size, 0, none⟩) 3 3 [p + d - 1, bits .xor .u64 IntKind.u64.max (p + d - 1), d] HBK.out.1 HBK.out.2).mono ?_
              rintro e w3 ⟨rfl, hB6⟩
              have hB7 := hB5.trans (hB6.mono hB5.size)
              clear hB4 hB5 hB6
              go_wp2_with fail
              go_roundw
              case rel => exact ⟨d + 1, rfl, by omega, by omega, hB7⟩
              case measure => simp [intOf]; omega
            · have hd3 : ¬ d < 3 := hlt3
              go_wp2_with fail
              go_roundw
              case rel => exact ⟨k + 1, by go_num, by omega, hBd⟩
              case measure => simp [intOf]; omega
        · have hk64 : ¬ (k : Int) < 64 := by omega
          go_wp2_with fail
          go_loopw [60] (fun i wr => ∃ n : Int, i = .int .i64 n ∧ 0 ≤ n ∧ n ≤ 65536 ∧ Below w.heap.size w wr) (fun i _ => (65536 - intOf i).toNat)
          case atStart => exact ⟨0, rfl, by omega, by omega, hBk⟩
          case round =>
            obtain ⟨n, rfl, hn0, hn1, hBn⟩ := hrel
            by_cases hlt4 : n < 65536
            · have hblk := (Blk.new .u8 5 wr [n % 256, n / 256]).sl (by simp)
              have hby : Bytes [n % 256, n / 256] := by
                intro c hc
                simp only [List.mem_cons, List.not_mem_nil, or_false] at hc
                rcases hc with rfl | rfl <;> omega
              have hB5 := hBn.alloc hBn.size (.cells (([n % 256, n / 256] : List Int).map (Value.int .u8)).toArray 5)
              have hpre := hblk.upto (2 - n % 257 / 256).toNat (by simp; omega)
              have HBK := Lib.hid (And.intro hpre (hby.take (2 - n % 257 / 256).toNat))
              clear hblk hpre hby
              go_wp2_with fail
              refine (reads_any _ (some ⟨wr.heap.size, 0, none⟩) _ 2 _ HBK.out.1 HBK.out.2).mono ?_
              rintro e w3 ⟨rfl, hB6⟩
              have hB7 := hB5.trans (hB6.mono hB5.size)
              clear hBn hB5 hB6
              go_wp2_with fail
              go_roundw
              case rel => exact ⟨n + 1, rfl, by omega, by omega, hB7⟩
              case measure => simp [intOf]; omega
            · have hn3 : ¬ n < 65536 := hlt4
              go_wp2_with fail
              go_loopw [77] (fun i wr => ∃ k : Nat, i = .int .i64 k ∧ k ≤ 12 ∧ Below w.heap.size w wr) (fun i _ => (12 - intOf i).toNat)
              case atStart => exact ⟨0, rfl, by omega, hBn⟩
              case round =>
                obtain ⟨size, rfl, hsz, hBs⟩ := hrel
                by_cases hlt5 : size < 12
                · have hszI : (size : Int) < 12 := by omega
                  obtain ⟨wo1, rfl⟩ : ∃ wo : World, wo = wr := ⟨_, rfl⟩
                  have hbF := Blk.new .u8 5 wo1 smF
                  have hBF := hBs.alloc hBs.size (.cells ((smF : List Int).map (Value.int .u8)).toArray 5)
                  have HF := Lib.hid (And.intro hbF hBF)
                  clear hbF hBF hBs hBn
                  go_wp2_with fail
                  go_loopw [82] (fun i wr => ∃ q : Nat, i = .int .i64 q ∧ q ≤ 3 ∧ Blk .u8 5 wr wo1.heap.size smF ∧ Below w.heap.size w wr) (fun i _ => (3 - intOf i).toNat)
                  case atStart => exact ⟨0, rfl, by omega, HF.out.1, HF.out.2⟩
                  case round =>
                    obtain ⟨q, rfl, hq, hbF, hBq⟩ := hrel
                    by_cases hlt6 : q < 3
                    · have hqI : (q : Int) < 3 := by omega
                      have hcF := hbF.at q hlt6
                      have hfb := smF_bytes.at q hlt6
                      obtain ⟨f, hf⟩ : ∃ f, f = smF[q]?.getD 0 := ⟨_, rfl⟩
                      rw [← hf] at hcF hfb
                      clear hf
                      obtain ⟨wo2, rfl⟩ : ∃ wo : World, wo = wr := ⟨_, rfl⟩
                      have hbL := Blk.new .u8 5 wo2 smL
                      have hBL := hBq.alloc hBq.size (.cells ((smL : List Int).map (Value.int .u8)).toArray 5)
                      have HL := Lib.hid (And.intro (hbF.alloc (.cells ((smL : List Int).map (Value.int .u8)).toArray 5)) (And.intro hbL hBL))
                      clear hbL hBL hBq hbF
                      go_wp2_with fail
                      go_loopw [88] (fun i wr => ∃ r : Nat, i = .int .i64 r ∧ r ≤ 9 ∧ Blk .u8 5 wr wo1.heap.size smF ∧ Blk .u8 5 wr wo2.heap.size smL ∧ Below w.heap.size w wr) (fun i _ => (9 - intOf i).toNat)
                      case atStart => exact ⟨0, rfl, by omega, HL.out.1, HL.out.2.1, HL.out.2.2⟩
                      case round =>
                        obtain ⟨r, rfl, hr, hbF, hbL, hBr⟩ := hrel
                        by_cases hlt7 : r < 9
                        · have hrI : (r : Int) < 9 := by omega
                          have hcL := hbL.at r hlt7
                          have hlb := smL_bytes.at r hlt7
                          obtain ⟨la, hla⟩ : ∃ la, la = smL[r]?.getD 0 := ⟨_, rfl⟩
                          rw [← hla] at hcL hlb
                          clear hla
                          obtain ⟨wo3, rfl⟩ : ∃ wo : World, wo = wr := ⟨_, rfl⟩
                          have hbB := Blk.new .u8 5 wo3 smB
                          have hBB := hBr.alloc hBr.size (.cells ((smB : List Int).map (Value.int .u8)).toArray 5)
                          have HB := Lib.hid (And.intro (hbF.alloc (.cells ((smB : List Int).map (Value.int .u8)).toArray 5)) (And.intro (hbL.alloc (.cells ((smB : List Int).map (Value.int .u8)).toArray 5)) (And.intro hbB hBB)))
                          clear hbL hbF hBr hbB hBB
                          go_wp2_with fail
                          go_loopw [94] (fun i wr => ∃ t : Nat, i = .int .i64 t ∧ t ≤ 6 ∧ (Blk .u8 5 wr wo1.heap.size smF ∧ Blk .u8 5 wr wo2.heap.size smL ∧ Blk .u8 5 wr wo3.heap.size smB) ∧ Below w.heap.size w wr) (fun i _ => (6 - intOf i).toNat)
                          case atStart => exact ⟨0, rfl, by omega, ⟨HB.out.1, HB.out.2.1, HB.out.2.2.1⟩, HB.out.2.2.2⟩
                          case round =>
                            obtain ⟨t, rfl, ht, hbs, hBt⟩ := hrel
                            by_cases hlt8 : t < 6
                            · have htI : (t : Int) < 6 := by omega
                              have hcB := hbs.2.2.at t hlt8
                              have hbb := smB_bytes.at t hlt8
                              obtain ⟨be, hbe⟩ : ∃ be, be = smB[t]?.getD 0 := ⟨_, rfl⟩
                              rw [← hbe] at hcB hbb
                              clear hbe
                              obtain ⟨wo4, rfl⟩ : ∃ wo : World, wo = wr := ⟨_, rfl⟩
                              go_wp2_with fail
                              go_loopw [13, 99] (fun v i wr => ∃ j : Nat, i = .int .i64 j ∧ j ≤ size ∧ wr.ownsRow wo4.heap.size 5 1 v (List.replicate j f).length ((List.replicate j f).map (Value.int .u8)) ∧ Below wo4.heap.size wo4 wr) (fun _ i _ => (size - intOf i).toNat)
                              case atStart => exact ⟨0, rfl, by omega, World.ownsRow_nil _ _ _ _, Below.refl _ _⟩
                              case round =>
                                obtain ⟨j, rfl, hj, hown, hBj⟩ := hrel
                                obtain ⟨xs, hxs⟩ : ∃ xs, xs = List.replicate j f := ⟨_, rfl⟩
                                rw [← hxs] at hown
                                have hxl : xs.length = j := by rw [hxs]; simp
                                have hxb : Bytes xs := by rw [hxs]; intro c hc; rw [List.eq_of_mem_replicate hc]; exact hfb
                                have hx2 : List.replicate (j + 1) f = xs ++ [f] := by rw [hxs, List.replicate_succ']
                                have HX := Lib.hid (And.intro hxl (And.intro hxb hx2))
                                have hxl20 : xs.length ≤ 20 := by omega
                                have hszj := hBj.size
                                clear hxs hxl hxb hx2
                                by_cases hlt9 : j < size
                                · have hjI : (j : Int) < (size : Int) := by omega
                                  go_wp2_with (at_builtin; refine wpList_append_own _ rfl (.tmp 101) (.tmp 103) 25 rfl wo4.heap.size 5 i0 (.int .u8 0) 1 1 Try.underlying25 hi hz0 hz1 hz2 rfl (by decide) _ xs.length (xs.map (Value.int .u8)) rfl (hown.alloc _) ⟨wr.heap.size, 0, none⟩ 1 1 [.int .u8 f] rfl rfl ?e1 ?e2 ?e3 ?e4 ?e5 ?_)
                                  case e1 => exact one_cell _ _ _ _
                                  case e2 => first | rfl | exact one_one _ _
                                  case e3 => unfold maxLen; omega
                                  case e4 => omega
                                  case e5 => first | omega | (simp; omega)
                                  intro v' w1 hown' hgrow _
                                  have hb1 : Below wo4.heap.size wo4 w1 := (hBj.alloc hszj _).grown hgrow (by simp; omega) (fun k hk => (hown.lt k hk).1)
                                  clear hown hgrow
                                  go_wp2_with fail
                                  go_roundw
                                  case rel => exact ⟨j + 1, by go_num, by omega, by rw [HX.out.2.2]; simpa using hown', hb1⟩
                                  case measure => simp [intOf]; omega
                                · have hjs : ¬ (j : Int) < (size : Int) := by omega
                                  have hjeq : j = size := by omega
                                  have HJ := Lib.hid hjeq
                                  clear hjeq
                                  go_wp2_with (at_builtin; refine wpList_append_own _ rfl (.tmp 106) (.tmp 109) 25 rfl wo4.heap.size 5 i0 (.int .u8 0) 1 1 Try.underlying25 hi hz0 hz1 hz2 rfl (by decide) _ xs.length (xs.map (Value.int .u8)) rfl (hown.alloc _) ⟨wr.heap.size, 0, none⟩ 2 2 (([be, la] : List Int).map (Value.int .u8)) rfl rfl ?g1 ?g2 ?g3 ?g4 ?g5 ?_)
                                  case g2 => first | rfl | exact ints_one .u8 [be, la] | (intro u hu; simp at hu; rcases hu with rfl | rfl <;> rfl) | exact ⟨rfl, rfl⟩
                                  case g3 => unfold maxLen; omega
                                  case g4 => omega
                                  case g5 => first | omega | (simp; omega)
                                  intro v2 w1 hown2 hgrow2 _
                                  have hb1 : Below wo4.heap.size wo4 w1 := (hBj.alloc hszj _).grown hgrow2 (by simp; omega) (fun k hk => (hown.lt k hk).1)
                                  have hown3 : w1.ownsRow wo4.heap.size 5 1 v2 (xs.length + 2) ((xs ++ [be, la]).map (Value.int .u8)) := by simpa using hown2
                                  obtain ⟨aB, cB, rfl⟩ := own_shape hown3
                                  have hsB := own_sl hown3
                                  have hbB : Bytes (xs ++ [be, la]) := HX.out.2.1.append (fun c hc => by
                                    simp only [List.mem_cons, List.not_mem_nil, or_false] at hc
                                    rcases hc with rfl | rfl <;> assumption)
                                  have hB1 := hBt.trans (hb1.mono hBt.size)
                                  have hbs1 : Blk .u8 5 w1 wo1.heap.size smF ∧ Blk .u8 5 w1 wo2.heap.size smL ∧ Blk .u8 5 w1 wo3.heap.size smB := ⟨hbs.1.below hb1, hbs.2.1.below hb1, hbs.2.2.below hb1⟩
                                  have HBB := Lib.hid hbB
                                  have hcB := hsB.2.1
                                  clear hown hown2 hown3 hgrow2 hb1 hbB hbs hBt hBj
                                  go_wp2_with fail
                                  refine (reads_any w1 aB _ cB _ hsB HBB.out).mono ?_
                                  rintro e w2 ⟨rfl, hB2⟩
                                  have hsB2 := hsB.below hB2
                                  have hbs2 : Blk .u8 5 w2 wo1.heap.size smF ∧ Blk .u8 5 w2 wo2.heap.size smL ∧ Blk .u8 5 w2 wo3.heap.size smB := ⟨hbs1.1.below hB2, hbs1.2.1.below hB2, hbs1.2.2.below hB2⟩
                                  have hBB2 := hB1.trans (hB2.mono hB1.size)
                                  have hszc : (size : Int) ≤ (cB : Int) := by have := HX.out.1; have := HJ.out; omega
                                  clear hsB hbs1 hB1 hB2
                                  go_wp2_with fail
                                  refine (reads_any w2 aB _ cB _ (hsB2.upto size (by have := HX.out.1; have := HJ.out; omega)) (HBB.out.take size)).mono ?_
                                  rintro e w3 ⟨rfl, hB3⟩
                                  have hsB3 := hsB2.below hB3
                                  have hbs3 : Blk .u8 5 w3 wo1.heap.size smF ∧ Blk .u8 5 w3 wo2.heap.size smL ∧ Blk .u8 5 w3 wo3.heap.size smB := ⟨hbs2.1.below hB3, hbs2.2.1.below hB3, hbs2.2.2.below hB3⟩
                                  have hBB3 := hBB2.trans (hB3.mono hBB2.size)
                                  clear hsB2 hbs2 hBB2 hB3
                                  have hl5 := (Blk.new .u8 5 w3 [5]).sl (by simp)
                                  have hA5 := (Below.refl w3.heap.size w3).alloc (Nat.le_refl _) (.cells (([5] : List Int).map (Value.int .u8)).toArray 5)
                                  have hsB4 := hsB3.below hA5
                                  have hBB4 := hBB3.trans (hA5.mono hBB3.size)
                                  go_wp2_with (at_builtin; refine wpList_append_wanted _ ?hw (.tmp 122) (.tmp 123) 25 rfl .u8 5 i0 1 Try.underlying25 hi hz0 hz1 hz2 (some ⟨w3.heap.size, 0, none⟩) aB 1 (xs.length + 2) cB [5] (xs ++ [be, la]) rfl rfl hl5 hsB4 (by unfold maxLen; omega) (by omega) ?_)
                                  intro a6 c6 w6 hs6 hB6'
                                  have hB6 : Below (w3.alloc (.cells (([5] : List Int).map (Value.int .u8)).toArray 5)).heap.size (w3.alloc (.cells (([5] : List Int).map (Value.int .u8)).toArray 5)) w6 := by rw [World.size_alloc]; exact hB6'
                                  have hb5 : Bytes ([5] ++ (xs ++ [be, la])) := Bytes.append (fun c hc => by simp at hc; omega) HBB.out
                                  have hbs6 : Blk .u8 5 w6 wo1.heap.size smF ∧ Blk .u8 5 w6 wo2.heap.size smL ∧ Blk .u8 5 w6 wo3.heap.size smB := ⟨(hbs3.1.alloc _).below hB6, (hbs3.2.1.alloc _).below hB6, (hbs3.2.2.alloc _).below hB6⟩
                                  have hBB6 := hBB4.trans (hB6.mono hBB4.size)
                                  clear hsB3 hbs3 hBB3 hl5 hA5 hsB4 hBB4 hB6
                                  go_wp2_with fail
                                  refine (reads_any w6 a6 _ c6 _ hs6 hb5).mono ?_
                                  rintro e w7 ⟨rfl, hB7⟩
                                  have hbs7 : Blk .u8 5 w7 wo1.heap.size smF ∧ Blk .u8 5 w7 wo2.heap.size smL ∧ Blk .u8 5 w7 wo3.heap.size smB := ⟨hbs6.1.below hB7, hbs6.2.1.below hB7, hbs6.2.2.below hB7⟩
                                  have hBB7 := hBB6.trans (hB7.mono hBB6.size)
                                  clear hs6 hbs6 hBB6 hB7 hb5
                                  go_wp2_with fail
                                  go_roundw
                                  case rel => exact ⟨t + 1, by go_num, by omega, hbs7, hBB7⟩
                                  case measure => simp [intOf]; omega
                            · have ht6 : ¬ (t : Int) < 6 := by omega
                              go_wp2_with fail
                              go_roundw
                              case rel => exact ⟨r + 1, by go_num, by omega, hbs.1, hbs.2.1, hBt⟩
                              case measure => simp [intOf]; omega
                        · have hr9 : ¬ (r : Int) < 9 := by omega
                          go_wp2_with fail
                          go_roundw
                          case rel => exact ⟨q + 1, by go_num, by omega, hbF, hBr⟩
                          case measure => simp [intOf]; omega
                    · have hq3 : ¬ (q : Int) < 3 := by omega
                      go_wp2_with fail
                      go_roundw
                      case rel => exact ⟨size + 1, by go_num, by omega, hBq⟩
                      case measure => simp [intOf]; omega
                · have hsz12 : ¬ (size : Int) < 12 := by omega
                  go_wp2_with fail
                  refine (reads_any wr none 0 0 [] (Sl.nil _ _) (fun c hc => by cases hc)).mono ?_
                  rintro e w3 ⟨rfl, hB6⟩
                  have hB7 := hBs.trans (hB6.mono hBs.size)
                  clear hBn hBs hB6
                  go_wp2_with fail
                  refine (lists_any w3 none 0 0 [] (Sl.nil _ _) (fun c hc => by cases hc)).mono ?_
                  rintro e w4 ⟨rfl, hB8⟩
                  have hB9 := hB7.trans (hB8.mono hB7.size)
                  clear hB7 hB8
                  go_wp2_with fail
                  refine (awake_any w4).mono ?_
                  rintro e w5 ⟨rfl, hB10⟩
                  have hB11 := hB9.trans (hB10.mono hB9.size)
                  clear hB9 hB10
                  go_wp2_with fail
                  go_ret
                  exact ⟨rfl, hB11⟩
end Go.Proofs.Yteddbpcpllehoaa
