/-
  The walk of the law CrcLinear. Where the table of the halves lies as the program's text lays it.
-/
import Derived.Test.YtdaijbplbnkpeaaDoorQw1
import Derived.Test.YtdaijbplbnkpeaaDoorHsx
import Derived.Test.YtdaijbplbnkpeaaDoorUng
import Derived.BigRegion
namespace Go.Proofs.YtdaijbplbnkpeaaDoor
open Go.RowKit Go.Shelf

theorem bits8_xor (a b : Nat) (ha : a < 256) (hb : b < 256) (x y : Int) (hx : x = a) (hy : y = b) :
    bits .xor .u8 x y = ((a ^^^ b : Nat) : Int) := by
  subst hx hy
  have hx : a ^^^ b < 2 ^ 8 := Nat.xor_lt_two_pow (by omega) (by omega)
  have h1 : (BitVec.ofInt 8 (a : Int)).toNat = a := by
    rw [BitVec.ofInt_natCast, BitVec.toNat_ofNat]; exact Nat.mod_eq_of_lt (by omega)
  have h2 : (BitVec.ofInt 8 (b : Int)).toNat = b := by
    rw [BitVec.ofInt_natCast, BitVec.toNat_ofNat]; exact Nat.mod_eq_of_lt (by omega)
  show IntKind.u8.wrap ((BitVec.ofInt 8 (a : Int) ^^^ BitVec.ofInt 8 (b : Int)).toNat : Int) = _
  rw [BitVec.toNat_xor, h1, h2, IntKind.wrap_u8']
  omega
theorem made_zeros (n : Nat) : (madeCells #[Value.int .u8 0] n).toList = (List.replicate n (0 : Int)).map (Value.int .u8) := by
  unfold madeCells
  simp [Nat.mod_one, List.map_const']

theorem tab_drew {w : World} (h : Tab w) (n : Nat) : Tab (w.drewN n) := h.step (below_drewN (Below.refl _ _) n)
theorem sl_drew {k : IntKind} {w : World} {a : Option Addr} {len cap : Nat} {l : List Int} (h : Sl k w a len cap l) (n : Nat) : Sl k (w.drewN n) a len cap l := h.below (below_drewN (Below.refl _ _) n)
theorem linear_q {w : World} (hT : Tab w) {a : Option Addr} {n cap : Nat} {l : List Int} (hS : Sl .u8 w a n cap l) (hB : Bys l) (x : Int) (hx : x = ((fol 0 l : Nat) : Int)) (m : Nat) :
    Calls Tryd.prog 31 #[.slice a n cap] (w.drewN m) fun e w' => e = .returned (.int .u32 x) ∧ w' = w.drewN m := by
  subst hx
  exact (linear_any a n cap l _ (tab_drew hT m) (sl_drew hS m) hB).mono fun _ _ ⟨h1, h2⟩ => ⟨h1, h2.symm⟩
theorem sum_q {w : World} (hT : Tab w) {a : Option Addr} {n cap : Nat} {l : List Int} (hS : Sl .u8 w a n cap l) (hB : Bys l) (x : Int) (hx : x = ((upd 0 l : Nat) : Int)) (m : Nat) :
    Calls Tryd.prog 32 #[.slice a n cap] (w.drewN m) fun e w' => e = .returned (.int .u32 x) ∧ w' = w.drewN m := by
  subst hx
  exact (sum_any' a n cap l _ (tab_drew hT m) (sl_drew hS m) hB).mono fun _ _ ⟨h1, h2⟩ => ⟨h1, h2.symm⟩

theorem run_min3 {P : Program} (w : World) (ts : Array TypeId) (t : TypeId) (k k' k'' : IntKind) (x y z : Int) :
    (Builtin.min_ ts t #[.int k x, .int k' y, .int k'' z]).run P w = .ok (.int k (min (min x y) z)) w := by
  rw [run_min_int3]
  congr 2
  split <;> split <;> omega
attribute [local go_sem high] run_min3

set_option maxRecDepth 100000 in
set_option maxHeartbeats 2000000 in
theorem linear_walk (W : World) (hT : Tab W) (a : Option Addr) (len cap : Nat) (l : List Int) (a2 : Option Addr) (len2 cap2 : Nat) (l2 : List Int) (z : Int) (hs : Sl .u8 W a len cap l) (hf : Fits .u8 l) (hs2 : Sl .u8 W a2 len2 cap2 l2) (hf2 : Fits .u8 l2) (wz : (Lit.int .u16 z).wf = true) :
    Calls Tryd.prog 11 #[.slice a len cap, .slice a2 len2 cap2, .int .u16 z] W fun e w' => e = .returned (.bool true) ∧ Below W.heap.size W w' := by
  have hby := bys_fits hf
  have hby2 := bys_fits hf2
  have hz := bounds_u16 wz
  obtain ⟨i0, hinf, hz0, hz1, hz2⟩ := info_parts infoU8
  have hll := hs.1
  have hll2 := hs2.1
  have hlc := hs.2.1
  have hcm := hs.2.2.1
  have hlc2 := hs2.2.1
  have hcm2 := hs2.2.2.1
  obtain ⟨n, hn'⟩ : ∃ n : Nat, n = min (min len len2) 300 := ⟨_, rfl⟩
  have hmi : min (min (len : Int) len2) 300 = (n : Int) := by omega
  have hnl : n ≤ len := by omega
  have hnl2 : n ≤ len2 := by omega
  have hn3 : n ≤ 300 := by omega
  obtain ⟨k, hk⟩ : ∃ k : Nat, (k : Int) = z % 301 := ⟨(z % 301).toNat, by omega⟩
  have hk3 : k ≤ 300 := by omega
  have hkz : z.tmod 301 = (k : Int) := by rw [hk, Int.tmod_eq_emod_of_nonneg hz.1]
  clear hn' hf hf2 wz hk
  go_enter Tryd.func11, Tryd.ntmps11
  go_wp2_with (at_make; refine wpList_make_full _ rfl _ _ 22 rfl W.heap.size 5 i0 (.int .u8 0) 1 Tryd.underlying22 hinf hz0 hz1 .i64 .i64 _ _ n rfl rfl rfl rfl (by rw [hz2]; omega) (by unfold maxLen; omega) (Nat.le_refl _) ?_)
  intro w0 hown0 hgrow0
  have hB0 : Below W.heap.size W w0 := (Below.refl _ _).grown hgrow0 (Nat.le_refl _) (fun _ hk => by cases hk)
  have hown1 : w0.ownsRow W.heap.size 5 1 (.slice (some ⟨W.heap.size, 0, none⟩) n n) n ((xl (l.take 0) (l2.take 0) ++ List.replicate (n - 0) 0).map (Value.int .u8)) := by
    rw [made_zeros] at hown0
    simpa [xl] using hown0
  clear hown0
  clear hgrow0
  go_wp2_with fail
  go_loopw [22] (fun I wr => ∃ j : Nat, j ≤ n ∧ I = .int .i64 (j : Int) ∧ wr.ownsRow W.heap.size 5 1 (.slice (some ⟨W.heap.size, 0, none⟩) n n) n ((xl (l.take j) (l2.take j) ++ List.replicate (n - j) 0).map (Value.int .u8)) ∧ Below W.heap.size W wr) (fun I _ => n - (intOf I).toNat)
  case atStart => exact ⟨0, by omega, rfl, hown1, hB0⟩
  case round =>
    obtain ⟨j, hj, rfl, hown, hB⟩ := hrel
    clear hown1 hB0
    by_cases hlt : j < n
    · obtain ⟨b1, o1, x, rfl, hx, hx2, c1⟩ := (hs.below hB).byte hby (show j < len by omega)
      obtain ⟨b2, o2, y, rfl, hy, hy2, c2⟩ := (hs2.below hB).byte hby2 (show j < len2 by omega)
      have hyl := hown.1
      obtain ⟨y0, hy0⟩ : ∃ y0, ((xl (l.take j) (l2.take j) ++ List.replicate (n - j) 0).map (Value.int .u8))[j]? = some y0 := ⟨_, List.getElem?_eq_getElem (by omega)⟩
      have e0 := hown.cellAt j (by omega)
      rw [hy0] at e0
      have e1 := hown.frozenAt j
      have hst := fun u => (hown.stored j u).1
      have hbl := fun u => hB.setCell (p := ⟨W.heap.size, j, none⟩) (Nat.le_refl _) u
      have hxor := bits8_xor x y hx2 hy2 _ _ rfl rfl
      have hstep := xl_step (a := l) (b := l2) (n := n) (j := j) (by omega) (by omega) hlt ((x ^^^ y : Nat) : Int) (by rw [hx, hy]; rfl)
      have HST := Lib.hid hst
      have HSP := Lib.hid hstep
      have HBL := Lib.hid hbl
      clear hyl hown hst hstep hbl hx hy hy0
      go_wp2_with fail
      go_region
      all_goals
        go_wp2_with fail
        go_roundw
        case rel =>
          refine ⟨j + 1, by omega, by go_num, ?_, ?_⟩
          · have := HST.out (.int .u8 ((x ^^^ y : Nat) : Int))
            rw [← List.map_set, HSP.out] at this
            first | exact this | exact this.drew
          · first | exact HBL.out _ | exact (HBL.out _).drew
        case measure => simp [intOf]; omega
    · obtain rfl : j = n := by omega
      obtain ⟨A, hA⟩ : ∃ A, A = l.take j := ⟨_, rfl⟩
      obtain ⟨B, hB'⟩ : ∃ B, B = l2.take j := ⟨_, rfl⟩
      have hsA := (hs.below hB).upto j hnl
      have hsB := (hs2.below hB).upto j hnl2
      have hbA := hby.take j
      have hbB := hby2.take j
      rw [Nat.sub_self, List.replicate_zero, List.append_nil] at hown
      rw [← hA] at hsA hbA hown
      rw [← hB'] at hsB hbB hown
      have hlA := hsA.1
      have hlB := hsB.1
      have hbX := xl_bys hbA hbB
      have hlX := xl_len (a := A) (b := B) (by omega)
      have e1 := lin_xl (a := A) (b := B) (by omega)
      have e2 := upd_xl (a := A) (b := B) (by omega)
      obtain ⟨X, hX⟩ : ∃ X, X = xl A B := ⟨_, rfl⟩
      rw [← hX] at hown hbX hlX e1 e2
      have hsX := own_sl hown
      have hTw := hT.step hB
      have r1 : fol 0 A < 4294967296 := fol_lt hbA (by decide)
      have r2 : fol 0 B < 4294967296 := fol_lt hbB (by decide)
      have r3 : fol 0 X < 4294967296 := fol_lt hbX (by decide)
      have r4 : upd 0 A < 4294967296 := upd_lt hbA (by decide)
      have r5 : upd 0 B < 4294967296 := upd_lt hbB (by decide)
      have x1 := bits32_xor _ _ r1 r2 _ _ rfl rfl
      have x2 := bits32_xor _ _ r4 r5 _ _ rfl rfl
      rw [← e1] at x1
      rw [e2] at x2
      have q1 := linear_q hTw hsX hbX _ rfl
      have q2 := linear_q hTw hsA hbA _ rfl
      have q3 := linear_q hTw hsB hbB _ rfl
      have q4 := sum_q hTw hsA hbA _ rfl
      have q5 := sum_q hTw hsB hbB _ rfl
      have z1 := fol_zeros k X
      have z2 := fol_shift k X
      obtain ⟨f1, hf1⟩ : ∃ f, f = fol 0 A := ⟨_, rfl⟩
      obtain ⟨f2, hf2⟩ : ∃ f, f = fol 0 B := ⟨_, rfl⟩
      obtain ⟨f3, hf3⟩ : ∃ f, f = fol 0 X := ⟨_, rfl⟩
      obtain ⟨s1, hv1⟩ : ∃ f, f = upd 0 A := ⟨_, rfl⟩
      obtain ⟨s2, hv2⟩ : ∃ f, f = upd 0 B := ⟨_, rfl⟩
      rw [← hf1, ← hf2, ← hf3] at x1
      rw [← hv1, ← hv2, ← hf3] at x2
      rw [← hf3] at q1 r3 z1 z2
      have HF3 := Lib.hid hf3
      rw [← hf1] at q2
      rw [← hf2] at q3
      rw [← hv1] at q4
      rw [← hv2] at q5
      have hne : ((f3 : Int) != (f3 : Int)) = false := by simp
      have hbq := Lib.hid hbX
      have hlq := Lib.hid hlX
      have hT2 := Lib.hid hTw
      have HZ1 := Lib.hid z1
      have HZ2 := Lib.hid z2
      clear e1 e2 r1 r2 r4 r5 hf1 hf2 hf3 hv1 hv2 hX hA hB' hsA hsB hbA hbB hlA hlB hbX hlX hTw z1 z2 hs hs2 hby hby2 hll hll2 hmi
      go_wp2_with fail
      go_quiet (first
        | (go_at_call 31; first | exact Calls.quiet_of_same (q1 _) | exact Calls.quiet_of_same (q2 _) | exact Calls.quiet_of_same (q3 _))
        | (go_at_call 32; first | exact Calls.quiet_of_same (q4 _) | exact Calls.quiet_of_same (q5 _)))
      go_wp2_with fail
      refine (q1 _).mono ?_
      rintro e w' ⟨rfl, rfl⟩
      go_wp2_with fail
      refine (shift_any f3 k _ r3 (by omega)).mono ?_
      rintro e w2 ⟨rfl, hb2⟩
      have hB2 := below_step (below_drewN hB nq) hb2
      have hD2 := below_step (below_drewN (Below.refl wr.heap.size wr) nq) hb2
      have hsz2 := hB2.size
      clear hb2 hB q2 q3 q4 q5
      go_wp2_with (at_make; refine wpList_unguard (by rfl) ?_; refine wpList_make_full _ rfl _ _ 22 rfl W.heap.size 5 i0 (.int .u8 0) 1 Tryd.underlying22 hinf hz0 hz1 .i64 .i64 _ _ k rfl rfl rfl rfl (by rw [hz2]; omega) (by unfold maxLen; omega) hsz2 ?_)
      intro w3 hown3 hgrow3
      rw [made_zeros] at hown3
      have hB3 : Below W.heap.size W w3 := hB2.grown hgrow3 hsz2 (fun _ hk => by cases hk)
      have hD3 : Below wr.heap.size wr w3 := hD2.grown hgrow3 hD2.size (fun _ hk => by cases hk)
      have hown3' : w3.ownsRow W.heap.size 5 1 (.slice (some ⟨w2.heap.size, 0, none⟩) k k) (List.replicate k (0 : Int)).length ((List.replicate k (0 : Int)).map (Value.int .u8)) := by rw [List.length_replicate]; exact hown3
      have hsX3 := hsX.below hD3
      have hsz3 := hB3.size
      have hrow3 : ∀ kk, (Value.slice (some ⟨w2.heap.size, 0, none⟩) k k).ownBlock = some kk → w2.heap.size ≤ kk := fun kk hk => by cases hk; exact Nat.le_refl _
      clear hown3 hgrow3
      go_wp2_with (at_builtin; refine wpList_unguard (by rfl) ?_; refine wpList_append_onsl _ rfl (.tmp 78) (.tmp 79) 22 rfl .u8 W.heap.size 5 i0 1 Tryd.underlying22 hinf hz0 hz1 hz2 _ (List.replicate k 0) (some ⟨W.heap.size, 0, none⟩) j j X rfl rfl hown3' hsX3 (by unfold maxLen; rw [List.length_replicate]; omega) (by rw [List.length_replicate]; omega) hsz3 ?_)
      intro v4 w4 hown4 hgrow4
      have hlen4 : (List.replicate k (0 : Int) ++ X).length = k + j := by rw [List.length_append, List.length_replicate, hsX.1]
      have hown4' : w4.ownsRow W.heap.size 5 1 v4 (k + j) ((List.replicate k (0 : Int) ++ X).map (Value.int .u8)) := by
        rw [← hlen4]; simpa using hown4
      obtain ⟨a4, c4, rfl⟩ := own_shape hown4'
      have hs4 := own_sl hown4'
      have hB4 : Below W.heap.size W w4 := hB3.grown hgrow4 hsz3 (fun kk hk => Nat.le_trans hsz2 (hrow3 kk hk))
      have hD4 : Below wr.heap.size wr w4 := hD3.grown hgrow4 hD3.size (fun kk hk => Nat.le_trans hD2.size (hrow3 kk hk))
      have hsX4 := hsX.below hD4
      have hsz4 := hB4.size
      have hT4 := hT.step hB4
      have hbz : Bys (List.replicate k 0) := fun x hx => by rw [List.eq_of_mem_replicate hx]; omega
      have q6 := linear_any a4 _ c4 (List.replicate k 0 ++ X) w4 hT4 hs4 (hbz.append hbq.out)
      rw [HZ1.out] at q6
      have q7 := linear_any (some ⟨W.heap.size, 0, none⟩) j j X w4 hT4 hsX4 hbq.out
      rw [← HF3.out] at q7
      have hown5 : (w4.alloc (.cells #[] 5)).ownsRow W.heap.size 5 1 (.slice (some ⟨w4.heap.size, 0, none⟩) 0 0) ([] : List Int).length (([] : List Int).map (Value.int .u8)) := World.ownsRow_lit w4 #[] 0 hsz4 (by unfold maxLen; omega) rfl
      have hB5 : Below W.heap.size W (w4.alloc (.cells #[] 5)) := hB4.alloc hsz4 _
      have hD5 : Below wr.heap.size wr (w4.alloc (.cells #[] 5)) := hD4.alloc hD4.size _
      have hsX5 := hsX.below hD5
      have hsz5 := hB5.size
      clear hown4 hown4' hgrow4 hown3' hrow3 hs4 hsX4 hD4 hB3 hD3 hsX3 hlen4 hbz
      go_wp2_with fail
      refine q6.mono ?_
      rintro e w' ⟨rfl, rfl⟩
      go_wp2_with fail
      refine q7.mono ?_
      rintro e w' ⟨rfl, rfl⟩
      clear q6 q7
      go_wp2_with (at_builtin; refine wpList_unguard (by rfl) ?_; refine wpList_append_onat _ rfl (.tmp 87) (.tmp 88) 22 rfl .u8 W.heap.size 5 i0 1 Tryd.underlying22 hinf hz0 hz1 hz2 _ [] (some ⟨W.heap.size, 0, none⟩) j j X rfl rfl hown5 hsX5 (by unfold maxLen; simp; omega) (by simp; omega) hsz5 ?_)
      intro v6 w6 hown6 hgrow6 hat6
      have hB6 : Below W.heap.size W w6 := hB5.grown hgrow6 hsz5 (fun kk hk => by cases hk; exact hsz4)
      have hsz6 := hB6.size
      have hown6' : w6.ownsRow W.heap.size 5 1 v6 j (X.map (Value.int .u8)) := by
        have h1 : X.length = j := hsX.1
        rw [← h1]
        simpa using hown6
      have hne6 : v6.ownBlock ≠ none := by rcases hat6 with h | h <;> rw [h] <;> simp [Value.ownBlock]
      obtain ⟨g6, c6, rfl, hg6⟩ := own_shape_at hown6' hne6
      clear hown6 hgrow6 hat6 hne6 hown5 hsX5
      go_wp2_with (at_builtin; refine wpList_unguard (by rfl) ?_; refine wpList_append_zeros _ rfl (.tmp 89) (.tmp 90) 22 3 rfl .u8 .i64 .i64 W.heap.size 5 i0 Tryd.underlying22 Tryd.underlying3 hinf hz0 hz1 hz2 g6 j c6 k X rfl rfl hown6' (by omega) hsz6 ?_)
      intro v7 w7 hown7 hgrow7
      have hB7 : Below W.heap.size W w7 := hB6.grown hgrow7 hsz6 (fun kk hk => by cases hk; exact hg6)
      have hown7' : w7.ownsRow W.heap.size 5 1 v7 (j + k) ((X ++ List.replicate k 0).map (Value.int .u8)) := by simpa using hown7
      obtain ⟨a7, c7, rfl⟩ := own_shape hown7'
      have hs7 := own_sl hown7'
      have hT7 := hT.step hB7
      have hbz : Bys (List.replicate k 0) := fun x hx => by rw [List.eq_of_mem_replicate hx]; omega
      have q8 := linear_any a7 _ c7 (X ++ List.replicate k 0) w7 hT7 hs7 (hbq.out.append hbz)
      rw [HZ2.out] at q8
      clear hown7 hown7' hgrow7 hs7 hown6' hbz
      go_wp2_with fail
      refine q8.mono ?_
      rintro e w' ⟨rfl, rfl⟩
      go_wp2_with fail
      refine (awake_any _ hT7).mono ?_
      rintro e w' ⟨rfl, hb3⟩
      go_wp2_with fail
      go_ret
      exact ⟨rfl, below_step hB7 hb3⟩
end Go.Proofs.YtdaijbplbnkpeaaDoor
