/-
  The library's slices.Sort at uint32 leaves a permutation (nothing is said of the order).
-/
import Derived.Test.YtdaijbplbnkpeaaDoorSrn
namespace Go.Proofs.YtdaijbplbnkpeaaDoor
open Go.RowKit Go.Shelf

set_option maxRecDepth 100000 in
set_option maxHeartbeats 2000000 in
theorem sort_any (base g n c : Nat) (M : List Int) (w : World) (hR : Rw base g n c w M) (hn' : n ≤ 4294967296) :
    Calls Tryd.prog 29 #[.slice (some ⟨g, 0, none⟩) n c] w fun e w' => (∃ v, e = .returned v) ∧ ∃ M', M'.Perm M ∧ Rw base g n c w' M' ∧ Below base w w' := by
  have hk : bl n ≤ 64 := bl_le.2 (by omega)
  have q := fun w => Tryd.bits_Len (n : Int) w (by omega) (by omega)
  simp only [Int.toNat_natCast, bitLen_bl n (by omega)] at q
  have hw : IntKind.u64.wrap (n : Int) = (n : Int) := by rw [IntKind.wrap_u64]; omega
  obtain ⟨k, hk2⟩ : ∃ k, k = bl n := ⟨_, rfl⟩
  simp only [← hk2] at q hk
  clear hk2
  have qs := fun w hR => pdq_any base g n c hn' n 0 n (k : Int) M w hR (by omega) (by omega) (by omega) (by omega) (by omega)
  rw [show ((0 : Nat) : Int) = 0 from rfl] at qs
  have Q := Lib.hid q
  have QS := Lib.hid qs
  clear q qs
  go_enter Tryd.func29, Tryd.ntmps29
  go_wp2_with fail
  refine (Q.out _).mono ?_
  rintro e w' ⟨rfl, hw3⟩
  rw [hw3]
  clear hw3
  go_wp2_with fail
  refine (QS.out _ hR).mono ?_
  rintro e w2 ⟨⟨v, rfl⟩, M2, hPn, hRn, hBn⟩
  go_wp2_with fail
  first | go_end0 | refine bodyPost_ret (results_none rfl _ _ _) rfl ?_
  exact ⟨⟨_, rfl⟩, M2, hPn, hRn, hBn⟩
end Go.Proofs.YtdaijbplbnkpeaaDoor
