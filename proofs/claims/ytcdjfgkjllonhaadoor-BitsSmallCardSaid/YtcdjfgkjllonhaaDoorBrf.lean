/-
  The contract of the reference's Runs; for all words.
-/
import Derived.Test.YtcdjfgkjllonhaaDoorBre
import Derived.Test.YtcdjfgkjllonhaaDoorBrn
namespace Go.Proofs.YtcdjfgkjllonhaaDoor
open Go.RowKit Go.Shelf

theorem infoP : (Tryd.prog.info? 50).map (fun i => (i.zero, i.size, i.bytes)) = some (some (.agg #[.int .i64 0, .int .i64 0]), 2, 16) := by kernel_rfl
/-- Pairs, as they lie in memory. -/
def pcs (R : List (Nat × Nat)) : List Value := R.flatMap fun p => [.int .i64 (p.1 : Int), .int .i64 (p.2 : Int)]
theorem pcs_snoc (R : List (Nat × Nat)) (a b : Nat) : pcs (R ++ [(a, b)]) = pcs R ++ [.int .i64 (a : Int), .int .i64 (b : Int)] := by simp [pcs]
theorem pcs_len (R : List (Nat × Nat)) : (pcs R).length = R.length * 2 := by
  induction R with
  | nil => rfl
  | cons p R ih => simp only [pcs, List.flatMap_cons, List.length_append, List.length_cons, List.length_nil] at ih ⊢; omega
/-- What a call that returns a list of pairs in new memory ends in. -/
def GivesR (w : World) (R : List (Nat × Nat)) (e : Ending) (w' : World) : Prop := ∃ a cap, e = .returned (.slice a R.length cap) ∧ w'.ownsRow w.heap.size 50 2 (.slice a R.length cap) R.length (pcs R) ∧ Below w.heap.size w w'
theorem two_cells (w : World) (x y : Int) (e : TypeId) : ∀ j u, [Value.int .i64 x, Value.int .i64 y][j]? = some u → (w.alloc (.cells #[.int .i64 x, .int .i64 y] e)).cell? ((⟨w.heap.size, 0, none⟩ : Addr).add j) = some u := by
  intro j u hj
  match j, hj with
  | 0, hj => simp at hj; subst hj; simp [Addr.add]
  | 1, hj => simp at hj; subst hj; simp [Addr.add]
theorem two_one (x y : Int) : ∀ u ∈ [Value.int .i64 x, Value.int .i64 y], u.oneCell' = true := by
  intro u hu; simp at hu; rcases hu with rfl | rfl <;> rfl

set_option maxRecDepth 100000 in
set_option maxHeartbeats 4000000 in
theorem rruns_any (w : World) (N : Int) (a : Option Addr) (n c : Nat) (l : List Int) (hs : Sl .u64 w a n c l) (hw : Wds l) (hN : N ≤ 9223372036854775807) :
    Calls Tryd.prog 48 #[.agg #[.int .i64 N, .slice a n c]] w (GivesR w (runs (ef N l))) := by
  obtain ⟨i0, hinf, hz0, hz1, hz2⟩ := info_parts infoP
  have hB1 : Below w.heap.size w (w.alloc (.cells #[.int .i64 N, .slice a n c] 31)) := (Below.refl _ w).alloc (Nat.le_refl _) _
  have hB2 : Below w.heap.size w ((w.alloc (.cells #[.int .i64 N, .slice a n c] 31)).alloc (.cells #[.int .i64 N, .slice a n c] 31)) := hB1.alloc hB1.size _
  have hT : Two ((w.alloc (.cells #[.int .i64 N, .slice a n c] 31)).alloc (.cells #[.int .i64 N, .slice a n c] 31)) w.heap.size 31 (.int .i64 N) (.slice a n c) := (Two.new w _ _ _).alloc _
  have hs1 := hs.below hB1
  have qr := fun w hs => rright_any w N a n c l hs hw hN
  cases hR : rightB N l with
  | false =>
    rw [ef_no hR, runs_nil]
    rw [hR] at qr
    clear hs hR hT
    go_enter Tryd.func48, Tryd.ntmps48
    go_wp2_with fail
    refine (qr _ hs1).mono ?_
    rintro e w' ⟨rfl, hw'⟩
    rw [hw']
    clear hw' qr
    go_wp2_with fail
    go_ret
    exact ⟨none, 0, rfl, World.ownsRow_nil _ w.heap.size 50 2, hB2⟩
  | true =>
    have hr := of_rightB hR
    rw [ef_yes hR]
    rw [hR] at qr
    clear hR
    obtain ⟨m, rfl⟩ : ∃ m : Nat, N = (m : Int) := ⟨N.toNat, by have := hr.1; omega⟩
    have hm : m ≤ 65536 := by have := hr.2.1; omega
    have HA := Lib.hid (rn_right hr)
    clear hr
    go_enter Tryd.func48, Tryd.ntmps48
    go_wp2_with fail
    refine (qr _ hs1).mono ?_
    rintro e w' ⟨rfl, hw'⟩
    rw [hw']
    clear hw' qr
    obtain ⟨w2, hw2⟩ : ∃ wz, wz = ((w.alloc (.cells #[.int .i64 (m : Int), .slice a n c] 31)).alloc (.cells #[.int .i64 (m : Int), .slice a n c] 31)) := ⟨_, rfl⟩
    rw [← hw2] at hB2 hT ⊢
    have hls : w.heap.size < w2.heap.size := hT.lt
    clear hw2 hs1 hB1
    go_wp2_with fail
    go_loopw [3, 4] (fun V K wr => ∃ k : Nat, k ≤ m ∧ K = .int .i64 (k : Int) ∧ (k < m → bt l k = true → k = 0 ∨ bt l (k - 1) = false) ∧ wr.ownsRow w2.heap.size 50 2 V (rn l k).length (pcs (rn l k)) ∧ Below w2.heap.size w2 wr) (fun _ K _ => m - (intOf K).toNat)
    case atStart => exact ⟨0, by omega, rfl, fun _ _ => .inl rfl, World.ownsRow_nil w2 w2.heap.size 50 2, Below.refl _ _⟩
    case round =>
      obtain ⟨k, hk, rfl, hst, hown, hB⟩ := hrel
      obtain ⟨ga, gc, rfl⟩ := own_shape hown
      have HST := Lib.hid hst
      clear hst
      have hT2 := hT.below hB hls
      have c0 := hT2.c0
      have c1 := hT2.c1
      have hsz := hB.size
      by_cases hlt : k < m
      · have hd : decide ((k : Int) < (m : Int)) = true := by simp; omega
        have hdn : decide (k < m) = true := by simp; omega
        have hs3 := (hs.below hB2).below hB
        have qa := fun j (hj : j ≤ m) => rbit_any wr a n c l (j : Int) hs3 hw (by omega) (by omega)
        simp only [Int.toNat_natCast] at qa
        have qb := qa k (by omega)
        obtain ⟨L, hL⟩ : ∃ L, L = rn l k := ⟨_, rfl⟩
        have hll : L.length ≤ k := by rw [hL]; exact rn_len l k
        rw [← hL] at hown ⊢
        have HL := Lib.hid hL
        have QA := Lib.hid qa
        clear hL hs3 qa
        cases hb : bt l k with
        | false =>
          rw [hb, b01_false] at qb
          have hn2 : rn l (k + 1) = L := by rw [HL.out, rn_succ, hb]; rfl
          have HN := Lib.hid hn2
          have HB := Lib.hid hb
          clear hn2 hb
          go_wp2_with fail
          refine qb.mono ?_
          rintro e w' ⟨rfl, hw'⟩
          rw [hw']
          clear hw' qb
          go_wp2_with fail
          go_roundw
          case rel => exact ⟨k + 1, by omega, by go_num, fun _ _ => .inr (by simpa using HB.out), by rw [HN.out]; exact hown, hB⟩
          case measure => simp [intOf]; omega
        | true =>
          rw [hb, b01_true] at qb
          have HB := Lib.hid hb
          clear hb
          go_wp2_with fail
          refine qb.mono ?_
          rintro e w' ⟨rfl, hw'⟩
          rw [hw']
          clear hw' qb
          go_wp2_with fail
          go_loop [4] (fun J => ∃ j : Nat, k ≤ j ∧ j ≤ m ∧ J = .int .i64 (j : Int) ∧ ∀ x, k ≤ x → x < j → bt l x = true) (fun J => m - (intOf J).toNat)
          case atStart => exact ⟨k, Nat.le_refl _, hk, rfl, fun x h1 h2 => by omega⟩
          case round =>
            obtain ⟨j, hkj, hjm, rfl, hall⟩ := hrel
            have HALL := Lib.hid hall
            clear hall
            by_cases hjlt : j < m
            · have hdj : decide ((j : Int) < (m : Int)) = true := by simp; omega
              have hdjn : decide (j < m) = true := by simp; omega
              have qb := QA.out j hjm
              cases hbj : bt l j with
              | true =>
                rw [hbj, b01_true] at qb
                have HBJ := Lib.hid hbj
                clear hbj
                go_wp2_with fail
                refine qb.mono ?_
                rintro e w' ⟨rfl, hw'⟩
                rw [hw']
                clear hw' qb
                go_wp2_with fail
                go_round
                case rel => exact ⟨j + 1, by omega, by omega, by go_num, fun x h1 h2 => by
                  by_cases hx : x = j
                  · rw [hx]; exact HBJ.out
                  · exact HALL.out x h1 (by omega)⟩
                case measure => simp [intOf]; omega
              | false =>
                rw [hbj, b01_false] at qb
                have hkj2 : k < j := by
                  by_cases hx : k = j
                  · have := HB.out; rw [hx, hbj] at this; cases this
                  · omega
                have HBJ := Lib.hid hbj
                clear hbj
                go_wp2_with fail
                refine qb.mono ?_
                rintro e w' ⟨rfl, hw'⟩
                rw [hw']
                clear hw' qb
                have hn2 : rn l j = L ++ [(k, j)] := by rw [HL.out]; exact rn_true (by omega) (HST.out hlt HB.out) HALL.out
                have HN := Lib.hid hn2
                clear hn2
                go_wp2_with (at_builtin; refine wpList_append_own _ rfl (.tmp 34) (.tmp 38) 42 rfl w2.heap.size 50 i0 (.agg #[.int .i64 0, .int .i64 0]) 2 16 Tryd.underlying42 hinf hz0 hz1 hz2 rfl (by decide) _ _ _ rfl (hown.alloc _) ⟨wr.heap.size, 0, none⟩ 1 1 [.int .i64 (k : Int), .int .i64 (j : Int)] rfl rfl ?d1 ?d2 ?d3 ?d4 ?d5 ?_)
                first | (case d1 => exact two_cells _ _ _ _) | skip
                case d2 => first | exact two_one _ _ | exact ⟨rfl, rfl⟩
                case d3 => unfold maxLen; omega
                case d4 => omega
                case d5 => first | omega | (simp; omega)
                intro v' w5 hown' hgrow _
                have hBn : Below w2.heap.size w2 w5 := (hB.alloc hsz _).grown hgrow (by simp; omega) (fun k hk => (hown.lt k hk).1)
                have hown2 : w5.ownsRow w2.heap.size 50 2 v' (rn l j).length (pcs (rn l j)) := by
                  rw [HN.out, pcs_snoc, List.length_append]; simpa using hown'
                clear hown' hgrow hown hB
                go_wp2_with fail
                go_roundw
                case rel => first | exact ⟨j, by omega, by go_num, (fun h1 h2 => by rw [HBJ.out] at h2; cases h2), hown2, hBn⟩ | exact ⟨j, by omega, fun h1 h2 => by rw [HBJ.out] at h2; cases h2, hown2, hBn⟩
                case measure => simp [intOf]; omega
            · have hdj : decide ((j : Int) < (m : Int)) = false := by simp; omega
              have hdjn : decide (j < m) = false := by simp; omega
              have hn2 : rn l j = L ++ [(k, j)] := by rw [HL.out]; exact rn_true (by omega) (HST.out hlt HB.out) HALL.out
              have HN := Lib.hid hn2
              clear hn2
              go_wp2_with (at_builtin; refine wpList_append_own _ rfl (.tmp 34) (.tmp 38) 42 rfl w2.heap.size 50 i0 (.agg #[.int .i64 0, .int .i64 0]) 2 16 Tryd.underlying42 hinf hz0 hz1 hz2 rfl (by decide) _ _ _ rfl (hown.alloc _) ⟨wr.heap.size, 0, none⟩ 1 1 [.int .i64 (k : Int), .int .i64 (j : Int)] rfl rfl ?d1 ?d2 ?d3 ?d4 ?d5 ?_)
              first | (case d1 => exact two_cells _ _ _ _) | skip
              case d2 => first | exact two_one _ _ | exact ⟨rfl, rfl⟩
              case d3 => unfold maxLen; omega
              case d4 => omega
              case d5 => first | omega | (simp; omega)
              intro v' w5 hown' hgrow _
              have hBn : Below w2.heap.size w2 w5 := (hB.alloc hsz _).grown hgrow (by simp; omega) (fun k hk => (hown.lt k hk).1)
              have hown2 : w5.ownsRow w2.heap.size 50 2 v' (rn l j).length (pcs (rn l j)) := by
                rw [HN.out, pcs_snoc, List.length_append]; simpa using hown'
              clear hown' hgrow hown hB
              go_wp2_with fail
              go_roundw
              case rel => first | exact ⟨j, by omega, by go_num, (fun h1 _ => by omega), hown2, hBn⟩ | exact ⟨j, by omega, fun h1 _ => by omega, hown2, hBn⟩
              case measure => simp [intOf]; omega
      · have hd : decide ((k : Int) < (m : Int)) = false := by simp; omega
        have hdn : decide (k < m) = false := by simp; omega
        obtain rfl : k = m := by omega
        rw [HA.out] at hown
        have hown2 := own_base hown (Nat.le_of_lt hls)
        clear hown
        go_wp2_with fail
        go_ret
        exact ⟨ga, gc, by rw [← HA.out]; rfl, hown2, hB2.trans (hB.mono (by omega))⟩
end Go.Proofs.YtcdjfgkjllonhaaDoor
