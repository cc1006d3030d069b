/-
  What the walks of joins and changes share: sets that are lent, results in variables, rows that lie one behind the other and so share no memory.
-/
import Derived.Test.YtcdjfgkjllonhaaDoorBl4
import Derived.Test.YtcdjfgkjllonhaaDoorApr
namespace Go.Proofs.YtcdjfgkjllonhaaDoor
open Go.RowKit Go.Shelf

/-- A row stays as it is where another block is written. -/
theorem own_nej {w : World} {base : Nat} {e : TypeId} {size : Nat} {v : Value} {n : Nat} {xs : List Value} (h : w.ownsRow base e size v n xs) {b : Nat} (hne : ∀ q, v.ownBlock = some q → q ≠ b) (j : Nat) (x : Value) : (w.setCell ⟨b, j, none⟩ x).ownsRow base e size v n xs := by
  obtain ⟨h1, h2⟩ := h
  refine ⟨h1, ?_⟩
  rcases h2 with h3 | ⟨g, cap, cur, hv, hb, hh, hr⟩
  · exact .inl h3
  · have hq : g ≠ b := hne g (by rw [hv]; rfl)
    exact .inr ⟨g, cap, cur, hv, hb, (Below.heap_setCell _ _ _ _ hq).trans hh, hr⟩

/-- A set that is neither right nor wrong, in a variable. -/
structure VrS (w W : World) (sb : Nat) (N : Int) (g : Option Addr) (n c : Nat) (R : List Int) : Prop where
  bel : Below w.heap.size w W
  set : SetIn W N g n c R
  two : Two W sb 24 (.int .i64 N) (.slice g n c)
theorem VrS.step {w W W' : World} {sb : Nat} {N : Int} {g : Option Addr} {n c : Nat} {R : List Int} (h : VrS w W sb N g n c R) (hb : Below W.heap.size W W') : VrS w W' sb N g n c R :=
  ⟨bstep h.bel hb, h.set.below hb, h.two.step hb⟩
theorem VrS.drew {w W : World} {sb : Nat} {N : Int} {g : Option Addr} {n c : Nat} {R : List Int} (h : VrS w W sb N g n c R) : VrS w W.drew sb N g n c R := h.step (Below.refl _ _).drew
theorem VrS.md {w W : World} {sb N : Nat} {g : Option Addr} {K c : Nat} {R : List Int} (h : VrS w W sb (N : Int) g K c R) : MdS w W sb N K g c R := ⟨h.bel, h.set, h.two⟩

/-- Where an address lies. -/
def Rng (g : Option Addr) (lo hi : Nat) : Prop := ∀ q, g = some ⟨q, 0, none⟩ → lo ≤ q ∧ q < hi
theorem Rng.own {w : World} {base : Nat} {e : TypeId} {size : Nat} {g : Option Addr} {n c : Nat} {xs : List Value} (h : w.ownsRow base e size (.slice g n c) n xs) : Rng g base w.heap.size := fun q e => by
  have := own_blk h (k := q) (by rw [e]; rfl)
  omega

/-- What a lent list is: the list, and twelve marks behind it. -/
def LentN (w : World) (n : Nat) (l : List Int) (r : Ending) (w' : World) : Prop :=
  ∃ g c, r = .returned (.slice g n c) ∧ w'.ownsRow w.heap.size 30 1 (.slice g (n + 12) c) (n + 12) ((l ++ marksF markN 12).map (Value.int .u64)) ∧ Below w.heap.size w w'
theorem lentN_any (w : World) (a : Option Addr) (n cap : Nat) (l : List Int) (hs : Sl .u64 w a n cap l) (hn : n ≤ 1000000) : Calls Tryd.prog 38 #[.slice a n cap] w (LentN w n l) := by
  obtain rfl : l.length = n := hs.1
  exact lentNums_own w a l.length cap l hs hn
theorem lent_sl {W : World} {base : Nat} {g : Option Addr} {n c : Nat} {l : List Int} (hl : l.length = n) (h : W.ownsRow base 30 1 (.slice g (n + 12) c) (n + 12) ((l ++ marksF markN 12).map (Value.int .u64))) : Sl .u64 W g n c l := by
  have q := (own_sl h).upto n (by omega)
  rw [List.take_left' hl] at q
  exact q
theorem keptN_any (w : World) (a a2 : Option Addr) (cap n cap2 : Nat) (l : List Int) (base : Nat) (ho : w.ownsRow base 30 1 (.slice a (n + 12) cap) (n + 12) ((l ++ marksF markN 12).map (Value.int .u64))) (hs2 : Sl .u64 w a2 n cap2 l) (hn : n ≤ 1000000) :
    Calls Tryd.prog 49 #[.slice a n cap, .slice a2 n cap2] w fun e w' => e = .returned (.bool true) ∧ Below w.heap.size w w' := by
  obtain rfl : l.length = n := hs2.1
  exact (keptNums_any w a a2 cap l.length cap2 l (own_sl ho) hs2 hn).mono fun _ _ ⟨he, hd⟩ => ⟨he, hd.below⟩

/-- What ends with no error: a set with this N and as many words as K says. -/
def SetK (w : World) (N K : Nat) (p : Nat → Bool) (e : Ending) (w' : World) : Prop :=
  ∃ g c R, e = .returned (.tuple #[.agg #[.int .i64 (N : Int), .slice g K c], .int .i64 0]) ∧ w'.ownsRow w.heap.size 30 1 (.slice g K c) K (R.map (Value.int .u64)) ∧ Wds R ∧ (∀ i, bt R i = p i) ∧ Below w.heap.size w w'
theorem SetE.k {w : World} {N K : Nat} {p : Nat → Bool} {e : Ending} {w' : World} (h : SetE w N p e w') (hK : K = (N + 63) / 64) : SetK w N K p e w' := by subst hK; exact h
/-- The same where the set itself is answered. -/
def SetQ (w : World) (N K : Nat) (p : Nat → Bool) (e : Ending) (w' : World) : Prop :=
  ∃ g c R, e = .returned (.agg #[.int .i64 (N : Int), .slice g K c]) ∧ Sl .u64 w' g K c R ∧ Wds R ∧ (∀ i, bt R i = p i) ∧ Below w.heap.size w w'
theorem SetR.q {w : World} {N K : Nat} {p : Nat → Bool} {e : Ending} {w' : World} (h : SetR w N p e w') (hK : K = (N + 63) / 64) : SetQ w N K p e w' := by
  subst hK
  obtain ⟨g, c, R, he, ho, h2, h3, h4⟩ := h
  exact ⟨g, c, R, he, own_sl ho, h2, h3, h4⟩

/-- Rows that lie one behind the other. -/
def Chain : Nat → List (Option Addr × Nat × Nat × List Int) → Nat → Prop
  | lo, [], top => lo ≤ top
  | lo, t :: T, top => ∃ hi, lo ≤ hi ∧ Rng t.1 lo hi ∧ Chain hi T top
theorem Chain.low {lo : Nat} {T : List (Option Addr × Nat × Nat × List Int)} {top : Nat} (h : Chain lo T top) : ∀ t ∈ T, ∀ q, t.1 = some ⟨q, 0, none⟩ → lo ≤ q := by
  induction T generalizing lo with
  | nil => intro t ht; cases ht
  | cons s T ih =>
    obtain ⟨hi, h1, h2, h3⟩ := h
    intro t ht q hq
    rcases List.mem_cons.1 ht with rfl | ht
    · exact (h2 q hq).1
    · have := ih h3 t ht q hq; omega
theorem Chain.apart {lo : Nat} {T : List (Option Addr × Nat × Nat × List Int)} {top : Nat} (h : Chain lo T top) : ∀ i j (hi : i < T.length) (hj : j < T.length), i < j → ∀ q, (T[i]).1 = some ⟨q, 0, none⟩ → (T[j]).1 ≠ some ⟨q, 0, none⟩ := by
  induction T generalizing lo with
  | nil => intro i j hi; simp at hi
  | cons s T ih =>
    obtain ⟨hi, h1, h2, h3⟩ := h
    intro i j hil hjl hij q hq hq2
    obtain ⟨j, rfl⟩ : ∃ m, j = m + 1 := ⟨j - 1, by omega⟩
    cases i with
    | zero =>
      have a := h2 q hq
      have b := h3.low _ (List.getElem_mem (by simpa using hjl)) q hq2
      omega
    | succ i => exact ih h3 i j (by simpa using hil) (by simpa using hjl) (by omega) q hq hq2
theorem Chain.snoc {lo : Nat} {T : List (Option Addr × Nat × Nat × List Int)} {top : Nat} (h : Chain lo T top) {t : Option Addr × Nat × Nat × List Int} {a b : Nat} (hab : a ≤ b) (ha : top ≤ a) (ht : Rng t.1 a b) : Chain lo (T ++ [t]) b := by
  induction T generalizing lo with
  | nil => exact ⟨b, Nat.le_trans h (Nat.le_trans ha hab), fun q e => by have := ht q e; have h' : lo ≤ top := h; omega, Nat.le_refl _⟩
  | cons s T ih =>
    obtain ⟨hi, h1, h2, h3⟩ := h
    exact ⟨hi, h1, h2, ih h3⟩

/-- Rows of which no two lie in one place. -/
def Sep (T : List (Option Addr × Nat × Nat × List Int)) : Prop := T.Pairwise fun s t => ∀ q, s.1 = some ⟨q, 0, none⟩ → t.1 ≠ some ⟨q, 0, none⟩
theorem Chain.sep {lo : Nat} {T : List (Option Addr × Nat × Nat × List Int)} {top : Nat} (h : Chain lo T top) : Sep T := List.pairwise_iff_getElem.2 fun i j hi hj hij => h.apart i j hi hj hij
theorem Sep.perm {T U : List (Option Addr × Nat × Nat × List Int)} (h : Sep T) (hp : T.Perm U) : Sep U := (hp.pairwise_iff (fun h q h1 h2 => h q h2 h1)).1 h
/-- A row as a value. -/
def rowV (t : Option Addr × Nat × Nat × List Int) : Value := .slice t.1 t.2.1 t.2.2.1
theorem apart_sep (w : World) (T : List (Option Addr × Nat × Nat × List Int)) (base : Nat) (K : Nat) (cs : Array Value) (hC : Sep T) (hown : ∀ t ∈ T, w.ownsRow base 30 1 (.slice t.1 t.2.1 t.2.2.1) t.2.1 (t.2.2.2.map (Value.int .u64)))
    (hn : ∀ t ∈ T, t.2.1 ≤ 100000) (hT : T.length = K) (h0 : 0 < K) (hK : K ≤ 1000) (hbs : base ≤ w.heap.size) (hcs : cs = (T.map rowV).toArray) :
    Calls Tryd.prog 53 #[.slice (some ⟨w.heap.size, 0, none⟩) K K] (w.alloc (.cells cs 22)) fun e w' => e = .returned (.bool true) ∧ Below base w w' := by
  subst hT hcs
  have hB : Below w.heap.size w (w.alloc (.cells (T.map rowV).toArray 22)) := (Below.refl _ w).alloc (Nat.le_refl _) _
  have hh : (w.alloc (.cells (T.map rowV).toArray 22)).heap[w.heap.size]? = some (.cells (T.map rowV).toArray 22 (0, 0)) := heap_alloc_new w _
  have hget : ∀ k (hk : k < T.length), T[k]?.getD (none, 0, 0, []) = T[k] := fun k hk => by rw [List.getElem?_eq_getElem hk]; rfl
  refine (apartNums_any (w.alloc (.cells (T.map rowV).toArray 22)) base w.heap.size 0 T.length T.length (fun k => (T[k]?.getD (none, 0, 0, [])).1) (fun k => (T[k]?.getD (none, 0, 0, [])).2.1) (fun k => (T[k]?.getD (none, 0, 0, [])).2.2.1) (fun k => (T[k]?.getD (none, 0, 0, [])).2.2.2)
    (fun k hk => ?_) (fun k hk => ?_) (fun i j hi hj hij g => ?_) h0 hK (fun k hk => ?_) ?_).mono fun e w' ⟨he, hb⟩ => ⟨he, (hB.mono hbs).trans hb.1⟩
  · simp only [hget k hk, Nat.zero_add]
    rw [cell_of_row _ _ _ _ _ _ hh, List.getElem?_toArray, List.getElem?_map, List.getElem?_eq_getElem hk]
    rfl
  · simp only [hget k hk]
    exact ownsRow_below (hown _ (List.getElem_mem hk)) hB
  · simp only [hget i hi, hget j hj]
    rcases Nat.lt_or_ge i j with h | h
    · exact List.pairwise_iff_getElem.1 hC i j hi hj h g
    · intro h1 h2
      exact List.pairwise_iff_getElem.1 hC j i hj hi (by omega) g h2 h1
  · simp only [hget k hk]
    exact hn _ (List.getElem_mem hk)
  · rw [World.size_alloc]; omega
theorem apart_list (w : World) (T : List (Option Addr × Nat × Nat × List Int)) (base top : Nat) (K : Nat) (cs : Array Value) (hC : Chain base T top) (hown : ∀ t ∈ T, w.ownsRow base 30 1 (.slice t.1 t.2.1 t.2.2.1) t.2.1 (t.2.2.2.map (Value.int .u64)))
    (hn : ∀ t ∈ T, t.2.1 ≤ 100000) (hT : T.length = K) (h0 : 0 < K) (hK : K ≤ 1000) (hbs : base ≤ w.heap.size) (hcs : cs = (T.map rowV).toArray) :
    Calls Tryd.prog 53 #[.slice (some ⟨w.heap.size, 0, none⟩) K K] (w.alloc (.cells cs 22)) fun e w' => e = .returned (.bool true) ∧ Below base w w' :=
  apart_sep w T base K cs hC.sep hown hn hT h0 hK hbs hcs
theorem own_cut {w : World} {base : Nat} {g : Option Addr} {n c : Nat} {l m : List Int} (hl : l.length = n) (h : w.ownsRow base 30 1 (.slice g (n + 12) c) (n + 12) ((l ++ m).map (Value.int .u64))) : w.ownsRow base 30 1 (.slice g n c) n (l.map (Value.int .u64)) := by
  obtain ⟨q, rfl, _⟩ := own_addr h (by omega)
  rw [List.map_append] at h
  exact own_front h (by simp [hl])
theorem box1 (w : World) (x0 x1 : Value) : Below w.heap.size w (w.alloc (.cells #[x0, x1] 24)) ∧ Two (w.alloc (.cells #[x0, x1] 24)) w.heap.size 24 x0 x1 := ⟨(Below.refl _ w).alloc (Nat.le_refl _) _, Two.new w _ _ _⟩
theorem rrB {W : World} {N : Int} {a : Option Addr} {n c : Nat} {l : List Int} (h : SetIn W N a n c l) {b : Bool} (hb : rightB N l = b) : Calls Tryd.prog 40 #[.agg #[.int .i64 N, .slice a n c]] W fun e w' => e = .returned (.bool b) ∧ Below W.heap.size W w' :=
  (rright_any W N a n c l h.sl h.wds h.high).mono fun e w' ⟨he, hw⟩ => ⟨by rw [he, hb], by rw [hw]; exact (Below.refl _ _).alloc (Nat.le_refl _) _⟩
end Go.Proofs.YtcdjfgkjllonhaaDoor
