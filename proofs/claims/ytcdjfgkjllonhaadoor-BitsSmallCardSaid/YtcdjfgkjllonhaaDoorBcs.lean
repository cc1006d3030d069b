/-
  What New, Of, With, Without and Not answer, in one form for all arguments.
-/
import Derived.Test.YtcdjfgkjllonhaaDoorBj
namespace Go.Proofs.YtcdjfgkjllonhaaDoor
open Go.RowKit Go.Shelf

/-- Whether there is a set with this N. -/
def inB (n : Int) : Bool := decide (0 ≤ n) && decide (n ≤ 65536)
theorem inB_yes {n : Int} (h : inB n = true) : 0 ≤ n ∧ n ≤ 65536 := by unfold inB at h; simpa using h
theorem inB_no {n : Int} (h : inB n = false) : n < 0 ∨ 65536 < n := by unfold inB at h; simp at h; omega
/-- Whether all numbers of a list are below n, and none below 0. -/
def allB (n : Int) (L : List Int) : Bool := L.all fun x => decide (0 ≤ x) && decide (x < n)
theorem allB_yes {n : Int} {L : List Int} (h : allB n L = true) : ∀ x ∈ L, 0 ≤ x ∧ x < n := by unfold allB at h; simpa using h
theorem allB_no {n : Int} {L : List Int} (h : allB n L = false) : ∃ x ∈ L, x < 0 ∨ n ≤ x := by
  unfold allB at h
  rw [List.all_eq_false] at h
  obtain ⟨x, hx, h⟩ := h
  simp only [Bool.and_eq_true, decide_eq_true_eq] at h
  exact ⟨x, hx, by omega⟩
theorem allB_succ {n : Int} {L : List Int} {k : Nat} (h : k < L.length) : allB n (L.take (k + 1)) = (allB n (L.take k) && (decide (0 ≤ L[k]?.getD 0) && decide (L[k]?.getD 0 < n))) := by
  unfold allB
  rw [List.take_succ_eq_append_getElem h, List.all_append, List.getElem?_eq_getElem h]
  simp

/-- What is answered: a set in new memory and an error, of which P says what they are. -/
def AnsE (w : World) (P : Int → Int → Nat → List Int → Prop) (e : Ending) (w' : World) : Prop :=
  ∃ (N : Int) (g : Option Addr) (n c : Nat) (R : List Int) (x : Int), e = .returned (.tuple #[.agg #[.int .i64 N, .slice g n c], .int .i64 x]) ∧ w'.ownsRow w.heap.size 30 1 (.slice g n c) n (R.map (Value.int .u64)) ∧ Wds R ∧ P x N n R ∧ Below w.heap.size w w'
theorem SetE.ans {w : World} {N : Nat} {p : Nat → Bool} {P : Int → Int → Nat → List Int → Prop} {e : Ending} {w' : World} (h : SetE w N p e w') (hP : ∀ R, R.length = (N + 63) / 64 → (∀ i, bt R i = p i) → P 0 (N : Int) ((N + 63) / 64) R) : AnsE w P e w' := by
  obtain ⟨g, c, R, he, ho, hw, hb, hD⟩ := h
  exact ⟨_, g, _, c, R, _, he, ho, hw, hP R (by have h9 := ho.1; simpa using h9) hb, hD⟩
theorem SetX.ans {w : World} {x : Int} {P : Int → Int → Nat → List Int → Prop} {e : Ending} {w' : World} (h : SetX w x e w') (hP : P x 0 0 []) : AnsE w P e w' := by
  obtain ⟨a, c, he, ho, hD⟩ := h
  exact ⟨_, a, 0, c, [], x, he, ho, Wds.nil, hP, hD⟩

def PNew (n : Int) (x N : Int) (k : Nat) (R : List Int) : Prop := (inB n = true → x = 0 ∧ N = n ∧ k = (n.toNat + 63) / 64 ∧ ∀ i, bt R i = false) ∧ (inB n = false → x = 2 ∧ N = 0 ∧ k = 0)
theorem newA (w : World) (n : Int) : Calls Tryd.prog 18 #[.int .i64 n] w (AnsE w (PNew n)) := by
  cases hb : inB n with
  | true =>
    obtain ⟨h0, h1⟩ := inB_yes hb
    obtain ⟨m, rfl⟩ : ∃ m : Nat, n = (m : Int) := ⟨n.toNat, by omega⟩
    exact (newOk_any w m (by omega)).mono fun e w' h => h.ans fun R _ hR => ⟨fun _ => ⟨rfl, rfl, rfl, hR⟩, (fun h => by rw [hb] at h; cases h)⟩
  | false => exact (newX_any w n (inB_no hb)).mono fun e w' h => h.ans ⟨(fun h => by rw [hb] at h; cases h), fun _ => ⟨rfl, rfl, rfl⟩⟩
def POf (n : Int) (L : List Int) (x N : Int) (k : Nat) (R : List Int) : Prop := ((inB n && allB n L) = true → x = 0 ∧ N = n ∧ k = (n.toNat + 63) / 64 ∧ ∀ i : Nat, bt R i = L.contains (i : Int)) ∧ ((inB n && allB n L) = false → x = 2 ∧ N = 0 ∧ k = 0)
theorem ofA (w : World) (n : Int) (a : Option Addr) (m c : Nat) (L : List Int) (hs : Sl .i64 w a m c L) : Calls Tryd.prog 35 #[.int .i64 n, .slice a m c] w (AnsE w (POf n L)) := by
  cases hb : inB n with
  | true =>
    obtain ⟨h0, h1⟩ := inB_yes hb
    obtain ⟨k, rfl⟩ : ∃ k : Nat, n = (k : Int) := ⟨n.toNat, by omega⟩
    refine (of_any w k (by omega) a m c L hs).mono fun e w' ⟨h2, h3⟩ => ?_
    cases ha : allB (k : Int) L with
    | true => exact (h2 (allB_yes ha)).ans fun R _ hR => ⟨fun _ => ⟨rfl, rfl, rfl, hR⟩, (fun h => by rw [hb, ha] at h; cases h)⟩
    | false => exact (h3 (allB_no ha)).ans ⟨(fun h => by rw [hb, ha] at h; cases h), fun _ => ⟨rfl, rfl, rfl⟩⟩
  | false => exact (ofX0_any w n (inB_no hb) a m c).mono fun e w' h => h.ans ⟨(fun h => by rw [hb] at h; cases h), fun _ => ⟨rfl, rfl, rfl⟩⟩
def PW (N i : Int) (l : List Int) (p : Nat → Bool) (x M : Int) (k : Nat) (R : List Int) : Prop :=
  (rightB N l = false → x = 50 ∧ M = 0 ∧ k = 0) ∧ (rightB N l = true → (i < 0 ∨ N ≤ i) → x = 2 ∧ M = 0 ∧ k = 0) ∧ (rightB N l = true → 0 ≤ i → i < N → x = 0 ∧ M = N ∧ k = l.length ∧ ∀ j, bt R j = p j)
theorem right_len {N : Nat} {l : List Int} (h : rightB (N : Int) l = true) : (N + 63) / 64 = l.length := by have := (of_rightB h).2.2.1; omega
theorem withA (w : World) (N i : Int) (a : Option Addr) (n c : Nat) (l : List Int) (h : SetIn w N a n c l) : Calls Tryd.prog 36 #[.agg #[.int .i64 N, .slice a n c], .int .i64 i] w (AnsE w (PW N i l fun j => bt l j || decide ((j : Int) = i))) := by
  cases hr : rightB N l with
  | false => exact (withX_any w N i 50 (.inl rfl) a n c l h fun W hW => copyX1_any W N i a n c l hW hr).mono fun e w' h => h.ans ⟨fun _ => ⟨rfl, rfl, rfl⟩, (fun h => by rw [hr] at h; cases h), (fun h => by rw [hr] at h; cases h)⟩
  | true =>
    obtain ⟨q0, q1, _⟩ := of_rightB hr
    by_cases hi : 0 ≤ i ∧ i < N
    · obtain ⟨h0, h1⟩ := hi
      obtain ⟨M, rfl⟩ : ∃ k : Nat, N = (k : Int) := ⟨N.toNat, by omega⟩
      obtain ⟨m, rfl⟩ : ∃ k : Nat, i = (k : Int) := ⟨i.toNat, by omega⟩
      refine (withOk_any w M m a n c l h hr (by omega)).mono fun e w' h => h.ans fun R hl hR => ⟨(fun h => by rw [hr] at h; cases h), (fun _ h => by omega), fun _ _ _ => ⟨rfl, rfl, right_len hr, fun j => ?_⟩⟩
      show _ = (bt l j || decide ((j : Int) = (m : Int)))
      rw [hR, show decide ((j : Int) = (m : Int)) = decide (j = m) from decide_eq_decide.2 (by omega)]
    · exact (withX_any w N i 2 (.inr rfl) a n c l h fun W hW => copyX2_any W N i a n c l hW hr (by omega)).mono fun e w' h => h.ans ⟨(fun h => by rw [hr] at h; cases h), fun _ _ => ⟨rfl, rfl, rfl⟩, fun _ h0 h1 => absurd ⟨h0, h1⟩ hi⟩
theorem withoutA (w : World) (N i : Int) (a : Option Addr) (n c : Nat) (l : List Int) (h : SetIn w N a n c l) : Calls Tryd.prog 37 #[.agg #[.int .i64 N, .slice a n c], .int .i64 i] w (AnsE w (PW N i l fun j => bt l j && !decide ((j : Int) = i))) := by
  cases hr : rightB N l with
  | false => exact (withoutX_any w N i 50 (.inl rfl) a n c l h fun W hW => copyX1_any W N i a n c l hW hr).mono fun e w' h => h.ans ⟨fun _ => ⟨rfl, rfl, rfl⟩, (fun h => by rw [hr] at h; cases h), (fun h => by rw [hr] at h; cases h)⟩
  | true =>
    obtain ⟨q0, q1, _⟩ := of_rightB hr
    by_cases hi : 0 ≤ i ∧ i < N
    · obtain ⟨h0, h1⟩ := hi
      obtain ⟨M, rfl⟩ : ∃ k : Nat, N = (k : Int) := ⟨N.toNat, by omega⟩
      obtain ⟨m, rfl⟩ : ∃ k : Nat, i = (k : Int) := ⟨i.toNat, by omega⟩
      refine (withoutOk_any w M m a n c l h hr (by omega)).mono fun e w' h => h.ans fun R hl hR => ⟨(fun h => by rw [hr] at h; cases h), (fun _ h => by omega), fun _ _ _ => ⟨rfl, rfl, right_len hr, fun j => ?_⟩⟩
      show _ = (bt l j && !decide ((j : Int) = (m : Int)))
      rw [hR, show decide ((j : Int) = (m : Int)) = decide (j = m) from decide_eq_decide.2 (by omega)]
    · exact (withoutX_any w N i 2 (.inr rfl) a n c l h fun W hW => copyX2_any W N i a n c l hW hr (by omega)).mono fun e w' h => h.ans ⟨(fun h => by rw [hr] at h; cases h), fun _ _ => ⟨rfl, rfl, rfl⟩, fun _ h0 h1 => absurd ⟨h0, h1⟩ hi⟩
def PNot (N : Int) (l : List Int) (x M : Int) (k : Nat) (R : List Int) : Prop :=
  (rightB N l = false → x = 50 ∧ M = 0 ∧ k = 0) ∧ (rightB N l = true → x = 0 ∧ M = N ∧ k = l.length ∧ ∀ j : Nat, bt R j = (decide ((j : Int) < N) && !bt l j))
theorem notA (w : World) (N : Int) (a : Option Addr) (n c : Nat) (l : List Int) (h : SetIn w N a n c l) : Calls Tryd.prog 19 #[.agg #[.int .i64 N, .slice a n c]] w (AnsE w (PNot N l)) := by
  cases hr : rightB N l with
  | false => exact (notX_any w N a n c l h hr).mono fun e w' h => h.ans ⟨fun _ => ⟨rfl, rfl, rfl⟩, (fun h => by rw [hr] at h; cases h)⟩
  | true =>
    obtain ⟨q0, q1, _⟩ := of_rightB hr
    obtain ⟨M, rfl⟩ : ∃ k : Nat, N = (k : Int) := ⟨N.toNat, by omega⟩
    refine (notOk_any w M a n c l h hr).mono fun e w' h => h.ans fun R hl hR => ⟨(fun h => by rw [hr] at h; cases h), fun _ => ⟨rfl, rfl, right_len hr, fun j => ?_⟩⟩
    rw [hR]
    simp

/-- An answer in a variable. -/
structure AnV (w W : World) (sb : Nat) (N : Int) (g : Option Addr) (n c : Nat) (R : List Int) : Prop where
  two : Two W sb 24 (.int .i64 N) (.slice g n c)
  own : W.ownsRow w.heap.size 30 1 (.slice g n c) n (R.map (Value.int .u64))
theorem AnV.step {w W W' : World} {sb : Nat} {N : Int} {g : Option Addr} {n c : Nat} {R : List Int} (h : AnV w W sb N g n c R) (hb : Below W.heap.size W W') : AnV w W' sb N g n c R := ⟨h.two.step hb, ownsRow_below h.own hb⟩
theorem AnV.sl {w W : World} {sb : Nat} {N : Int} {g : Option Addr} {n c : Nat} {R : List Int} (h : AnV w W sb N g n c R) : Sl .u64 W g n c R := own_sl h.own
theorem AnV.len {w W : World} {sb : Nat} {N : Int} {g : Option Addr} {n c : Nat} {R : List Int} (h : AnV w W sb N g n c R) : R.length = n := h.sl.1
theorem AnV.zero {w W : World} {sb : Nat} {N : Int} {g : Option Addr} {c : Nat} {R : List Int} (h : AnV w W sb N g 0 c R) : R = [] := List.eq_nil_of_length_eq_zero h.len

/-- A list of integers that is lent. -/
theorem lentI_any (w : World) (a : Option Addr) (n cap : Nat) (l : List Int) (hs : Sl .i64 w a n cap l) (hn : n ≤ 1000000) : Calls Tryd.prog 50 #[.slice a n cap] w fun r w' => ∃ g c, r = .returned (.slice g n c) ∧ Sl .i64 w' g (n + 12) c (l ++ marksF markI 12) ∧ Below w.heap.size w w' := by
  obtain rfl : l.length = n := hs.1
  exact lentInts_any w a l.length cap l hs hn
theorem keptI_any (w : World) (a a2 : Option Addr) (cap n cap2 : Nat) (l : List Int) (hs : Sl .i64 w a (n + 12) cap (l ++ marksF markI 12)) (hs2 : Sl .i64 w a2 n cap2 l) (hn : n ≤ 1000000) :
    Calls Tryd.prog 52 #[.slice a n cap, .slice a2 n cap2] w fun e w' => e = .returned (.bool true) ∧ Below w.heap.size w w' := by
  obtain rfl : l.length = n := hs2.1
  exact (keptInts_any w a a2 cap l.length cap2 l hs hs2 hn).mono fun _ _ ⟨he, hd⟩ => ⟨he, hd.below⟩
theorem sl_cut {W : World} {g : Option Addr} {n c : Nat} {l : List Int} (hl : l.length = n) (h : Sl .i64 W g (n + 12) c (l ++ marksF markI 12)) : Sl .i64 W g n c l := by
  have q := h.upto n (by omega)
  rw [List.take_left' hl] at q
  exact q
/-- The reference's set of a list of integers that are all below n. -/
theorem rofQ (w : World) (n K : Nat) (a : Option Addr) (m c : Nat) (L : List Int) (hs : Sl .i64 w a m c L) (hn : n ≤ 65536) (hL : ∀ x ∈ L, 0 ≤ x ∧ x < (n : Int)) (hK : K = (n + 63) / 64) :
    Calls Tryd.prog 16 #[.int .i64 (n : Int), .slice a m c] w (SetQ w n K fun i => L.contains (i : Int)) := by
  have e : ints (L.map Int.toNat) = L := by
    unfold ints
    rw [List.map_map]
    calc L.map _ = L.map id := List.map_congr_left fun x hx => by have := (hL x hx).1; simp; omega
      _ = L := List.map_id L
  have q := rof_any w n a m c (L.map Int.toNat) (by rw [e]; exact hs) hn (fun x hx => by obtain ⟨y, hy, rfl⟩ := List.mem_map.1 hx; have := hL y hy; omega)
  refine q.mono fun e w' h => ?_
  obtain ⟨g, c, R, he, ho, h2, h3, h4⟩ := h.q hK
  refine ⟨g, c, R, he, ho, h2, fun i => ?_, h4⟩
  rw [h3, Bool.eq_iff_iff]
  simp only [List.contains_eq_mem, decide_eq_true_eq, List.mem_map]
  constructor
  · rintro ⟨x, hx, hi⟩
    have := hL x hx
    have : x = (i : Int) := by omega
    rwa [← this]
  · exact fun h => ⟨_, h, by simp⟩
end Go.Proofs.YtcdjfgkjllonhaaDoor
