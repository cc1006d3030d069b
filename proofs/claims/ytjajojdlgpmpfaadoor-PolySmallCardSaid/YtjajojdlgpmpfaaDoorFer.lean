/-
  Plain facts on polynomials over two elements: the residues modulo an irreducible one. No program is named here; there are no conditions but those in each statement.
-/
import Derived.Test.YtjajojdlgpmpfaaDoorOrd
namespace Go.Proofs.YtjajojdlgpmpfaaDoor

/-- A list without repetitions that lies in another one, and is as long, is it in some order. -/
theorem perm_of : ∀ {l m : List Nat}, l.Nodup → (∀ x ∈ l, x ∈ m) → m.length ≤ l.length → l.Perm m := by
  intro l
  induction l with
  | nil =>
    intro m _ _ h
    rw [List.eq_nil_of_length_eq_zero (by simpa using h : m.length = 0)]
  | cons a t ih =>
    intro m hn hs hl
    have ham : a ∈ m := hs a (List.mem_cons_self ..)
    rw [List.nodup_cons] at hn
    have hp := List.perm_cons_erase ham
    refine List.Perm.trans (List.Perm.cons a (ih hn.2 (fun x hx => ?_) ?_)) hp.symm
    · have hne : x ≠ a := fun e => hn.1 (e ▸ hx)
      exact (List.mem_erase_of_ne hne).2 (hs x (List.mem_cons_of_mem _ hx))
    · rw [List.length_erase_of_mem ham]; simp at hl; omega

/-- The product of a list. -/
def lp : List Nat → Nat
  | [] => 1
  | a :: l => cm a (lp l)
theorem lp_perm {l m : List Nat} (h : l.Perm m) : lp l = lp m := by
  induction h with
  | nil => rfl
  | cons a _ ih => simp only [lp]; rw [ih]
  | swap a b l => simp only [lp]; exact cm_left_comm _ _ _
  | trans _ _ h1 h2 => exact h1.trans h2
theorem Irr.not_one {f : Nat} (h : Irr f) : ¬ Dv f 1 := fun hd => by
  have := hd.bl_le (by decide)
  have := h.1
  simp at *; omega
theorem lp_prime {f : Nat} (h : Irr f) : ∀ l : List Nat, Dv f (lp l) → ∃ a ∈ l, Dv f a := by
  intro l
  induction l with
  | nil => intro hd; exact absurd hd h.not_one
  | cons a l ih =>
    intro hd
    rcases h.prime hd with h1 | h1
    · exact ⟨a, List.mem_cons_self .., h1⟩
    · obtain ⟨b, hb, h2⟩ := ih h1
      exact ⟨b, List.mem_cons_of_mem _ hb, h2⟩
theorem lp_map {f : Nat} (hf : f ≠ 0) (l : List Nat) : pm (lp (l.map fun a => pm (2 * a) f)) f = pm (cm (2 ^ l.length) (lp l)) f := by
  induction l with
  | nil => simp [lp]
  | cons a l ih =>
    simp only [List.map_cons, lp, List.length_cons]
    rw [pm_cm_left _ _ hf, ← pm_cm_right _ _ hf, ih, pm_cm_right _ _ hf, ← cm_two, cm_comm a 2, cm_assoc, cm_left_comm a, ← cm_assoc, Nat.pow_succ, Nat.mul_comm (2 ^ l.length) 2, even_cm, ← cm_two (cm (2 ^ l.length) (cm a (lp l))), cm_comm _ 2, ← cm_assoc, cm_assoc, cm_assoc]
/-- Fermat's theorem for x. -/
theorem fermat {f : Nat} (h : Irr f) (h2 : f ≠ 2) : Dv f (1 ^^^ 2 ^ (2 ^ (bl f - 1) - 1)) := by
  have hf := h.ne0
  have hb := h.1
  have hnt : ¬ Dv f 2 := fun hd => by
    rcases irr_two.dv hd with h3 | h3
    · rw [h3] at hb; simp at hb
    · exact h2 h3
  have hp : 0 < 2 ^ (bl f - 1) := Nat.two_pow_pos _
  obtain ⟨L, hL⟩ : ∃ L, L = List.range' 1 (2 ^ (bl f - 1) - 1) := ⟨_, rfl⟩
  have hmem : ∀ a, a ∈ L ↔ a ≠ 0 ∧ bl a < bl f := by
    intro a
    rw [hL, List.mem_range'_1]
    have := bl_le (x := a) (k := bl f - 1)
    omega
  have hnd : ∀ a ∈ L, ¬ Dv f a := fun a ha hd => ((hmem a).1 ha).1 (hd.zero_of_lt ((hmem a).1 ha).2)
  have hlen : L.length = 2 ^ (bl f - 1) - 1 := by rw [hL, List.length_range']
  have hcut : ∀ a b, Dv f (cm 2 a ^^^ cm 2 b) → Dv f (a ^^^ b) := by
    intro a b hd
    rw [← cm_xor_right] at hd
    rcases h.prime hd with h3 | h3
    · exact absurd h3 hnt
    · exact h3
  have hperm : (L.map fun a => pm (2 * a) f).Perm L := by
    refine perm_of ?_ ?_ (by simp)
    · rw [List.nodup_iff_pairwise_ne, List.pairwise_map]
      have hn : L.Pairwise (· ≠ ·) := by rw [hL]; exact List.nodup_iff_pairwise_ne.1 List.nodup_range'
      refine List.Pairwise.imp_of_mem ?_ hn
      intro a b ha hb2 hne he
      have h3 := (pm_eq_iff hf).1 he
      rw [← cm_two, ← cm_two, cm_comm a, cm_comm b] at h3
      have h4 := hcut a b h3
      have h5 := h4.zero_of_lt (by
        have := bl_xor_le a b; have := ((hmem a).1 ha).2; have := ((hmem b).1 hb2).2; omega)
      exact hne (xor_eq0 h5)
    · intro x hx
      obtain ⟨a, ha, rfl⟩ := List.mem_map.1 hx
      refine (hmem _).2 ⟨fun e => ?_, pm_bl _ hf⟩
      have h3 := (pm_eq0 hf).1 e
      rw [← cm_two, cm_comm] at h3
      rcases h.prime h3 with h4 | h4
      · exact hnt h4
      · exact hnd a ha h4
  have h3 := lp_map hf L
  rw [lp_perm hperm] at h3
  have h4 := (pm_eq_iff hf).1 h3
  have h5 : lp L ^^^ cm (2 ^ L.length) (lp L) = cm (1 ^^^ 2 ^ L.length) (lp L) := by rw [cm_xor_left, one_cm]
  rw [h5] at h4
  rcases h.prime h4 with h6 | h6
  · rwa [hlen] at h6
  · obtain ⟨a, ha, hd⟩ := lp_prime h L h6
    exact absurd hd (hnd a ha)
theorem fermat_x {f : Nat} (h : Irr f) : Dv f (2 ^^^ 2 ^ 2 ^ (bl f - 1)) := by
  by_cases h2 : f = 2
  · subst h2
    exact ⟨3, by decide +kernel⟩
  · have h3 := (fermat h h2).left 2
    have hp : 0 < 2 ^ (bl f - 1) := Nat.two_pow_pos _
    rw [cm_xor_right, cm_one, cm_comm, cm_two] at h3
    have e : 2 * 2 ^ (2 ^ (bl f - 1) - 1) = 2 ^ 2 ^ (bl f - 1) := by
      rw [Nat.mul_comm, ← Nat.pow_succ]; congr 1; omega
    rwa [e] at h3

/-- What passes the test is irreducible. -/
theorem irr_of_irB {p : Nat} (h : irB p = true) : Irr p := by
  obtain ⟨hb, hall⟩ := irB_iff.1 h
  have hp0 : p ≠ 0 := fun e => by subst e; simp at hb
  refine ⟨hb, fun a b hab => ?_⟩
  by_cases ha1 : a = 1
  · exact .inl ha1
  by_cases hb1 : b = 1
  · exact .inr hb1
  exfalso
  have ha0 : a ≠ 0 := fun e => by subst e; simp at hab; exact hp0 hab
  have hb0 : b ≠ 0 := fun e => by subst e; simp at hab; exact hp0 hab
  have ha2 : 2 ≤ bl a := bl_ge2.2 (by omega)
  have hb2 : 2 ≤ bl b := bl_ge2.2 (by omega)
  obtain ⟨f, hf, hd, hl⟩ := irr_small ha2 hb2
  rw [← hab] at hd hl
  have hf2 := hf.1
  have hg := hall (bl f - 2) (by omega)
  rw [show bl f - 2 + 1 = bl f - 1 from by omega, fr_eq hp0] at hg
  have h1 : Dv f (2 ^ 2 ^ (bl f - 1) ^^^ pm (2 ^ 2 ^ (bl f - 1)) p) := hd.trans (pm_dv _ hp0)
  have h2 := (fermat_x hf).xor h1
  rw [Nat.xor_assoc, xor_cl] at h2
  have h3 := pg_great (c := f) (a := pm (2 ^ 2 ^ (bl f - 1)) p ^^^ 2) (b := p) (by rwa [Nat.xor_comm]) hd
  rw [hg] at h3
  exact hf.not_one h3
/-- The order of x modulo an irreducible polynomial. -/
theorem ord_dvd {s n : Nat} (h : Irr s) (h2 : s % 2 = 1) (hn : IsOrd s n) : n ∣ 2 ^ (bl s - 1) - 1 :=
  hn.dvd h.ne0 (pm_cong h.ne0 (by rw [Nat.xor_comm]; exact fermat h (by omega)))

/-! ### how many roots -/
def ev : List Nat → Nat → Nat
  | [], _ => 0
  | c :: t, y => c ^^^ cm y (ev t y)
def qt : List Nat → Nat → List Nat
  | [], _ => []
  | [_], _ => []
  | _ :: d :: t, r => ev (d :: t) r :: qt (d :: t) r
def lead : List Nat → Nat
  | [] => 0
  | [c] => c
  | _ :: d :: t => lead (d :: t)
theorem qt_eq (y r : Nat) : ∀ cs, ev cs y ^^^ ev cs r = cm (y ^^^ r) (ev (qt cs r) y)
  | [] => by simp [ev, qt]
  | [c] => by simp [ev, qt]
  | c :: d :: t => by
    have ih := qt_eq y r (d :: t)
    have e : ev (d :: t) y = ev (d :: t) r ^^^ cm (y ^^^ r) (ev (qt (d :: t) r) y) := by
      rw [← ih, Nat.xor_comm, xor_cr]
    have e1 : ev (c :: d :: t) y = c ^^^ cm y (ev (d :: t) y) := rfl
    have e2 : ev (c :: d :: t) r = c ^^^ cm r (ev (d :: t) r) := rfl
    have e3 : ev (qt (c :: d :: t) r) y = ev (d :: t) r ^^^ cm y (ev (qt (d :: t) r) y) := rfl
    rw [e1, e2, e3, xor_ex, Nat.xor_self, Nat.zero_xor, cm_xor_right, cm_left_comm (y ^^^ r), cm_xor_left y r (ev (d :: t) r), Nat.xor_assoc, Nat.xor_comm (cm r _), ← Nat.xor_assoc, ← cm_xor_right, ← e]
theorem qt_len : ∀ (cs : List Nat) (r : Nat), (qt cs r).length = cs.length - 1
  | [], _ => rfl
  | [_], _ => rfl
  | c :: d :: t, r => by
    have ih := qt_len (d :: t) r
    simp only [qt, List.length_cons] at ih ⊢
    omega
theorem qt_lead : ∀ (cs : List Nat) (r : Nat), 2 ≤ cs.length → lead (qt cs r) = lead cs
  | [], _, h => by simp at h
  | [_], _, h => by simp at h
  | [c, d], r, _ => by simp [qt, ev, lead]
  | c :: d :: e :: t, r, _ => by
    have ih := qt_lead (d :: e :: t) r (by simp)
    simp only [qt, lead] at ih ⊢
    exact ih
theorem roots {p : Nat} (h : Irr p) : ∀ (D : Nat) (cs l : List Nat), cs.length = D + 1 → ¬ Dv p (lead cs) → l.Pairwise (fun a b => ¬ Dv p (a ^^^ b)) → (∀ y ∈ l, Dv p (ev cs y)) → l.length ≤ D := by
  intro D
  induction D with
  | zero =>
    intro cs l hc hl _ hr
    match cs, hc with
    | [c], _ =>
      match l with
      | [] => simp
      | y :: _ =>
        have := hr y (List.mem_cons_self ..)
        simp [ev] at this
        exact absurd this hl
  | succ D ih =>
    intro cs l hc hl hp hr
    match l with
    | [] => simp
    | r :: t =>
      rw [List.pairwise_cons] at hp
      have := ih (qt cs r) t (by rw [qt_len]; omega) (by rw [qt_lead _ _ (by omega)]; exact hl) hp.2 (by
        intro y hy
        have h1 := (hr y (List.mem_cons_of_mem _ hy)).xor (hr r (List.mem_cons_self ..))
        rw [qt_eq] at h1
        rcases h.prime h1 with h2 | h2
        · exact absurd (by rwa [Nat.xor_comm]) (hp.1 y hy)
        · exact h2)
      simp; omega
def mono (m : Nat) : List Nat := List.replicate m 0 ++ [1]
theorem mono_ev (y m : Nat) : ev (mono m) y = pw y m := by
  induction m with
  | zero => simp [mono, ev]
  | succ m ih =>
    have e : mono (m + 1) = 0 :: mono m := by simp [mono, List.replicate_succ]
    rw [e, ev, ih, Nat.zero_xor, pw_succ, cm_comm]
theorem mono_len (m : Nat) : (mono m).length = m + 1 := by simp [mono]
theorem mono_lead (m : Nat) : lead (mono m) = 1 := by
  induction m with
  | zero => rfl
  | succ m ih =>
    have e : mono (m + 1) = 0 :: mono m := by simp [mono, List.replicate_succ]
    have hne : ∃ d t, mono m = d :: t := by
      cases h : mono m with
      | nil => have := mono_len m; rw [h] at this; simp at this
      | cons d t => exact ⟨d, t, rfl⟩
    obtain ⟨d, t, h⟩ := hne
    rw [h] at ih
    rw [e, h]; exact ih
/-- Where x is its own power by 2^k, every residue is. -/
theorem frob {p k : Nat} (h : Dv p (pw 2 (2 ^ k) ^^^ 2)) (g : Nat) : Dv p (pw g (2 ^ k) ^^^ g) := by
  have hev : ∀ a, Dv p (pw a (2 ^ k) ^^^ a) → Dv p (pw (2 * a) (2 ^ k) ^^^ 2 * a) := by
    intro a ih
    have e : pw (2 * a) (2 ^ k) ^^^ 2 * a = cm (pw 2 (2 ^ k) ^^^ 2) (pw a (2 ^ k)) ^^^ cm 2 (pw a (2 ^ k) ^^^ a) := by
      rw [← cm_two, cm_comm a 2, pw_cm, cm_xor_left, cm_xor_right, xor_ex, ← Nat.xor_assoc, Nat.xor_assoc (cm (pw 2 (2 ^ k)) (pw a (2 ^ k)))]
      rw [Nat.xor_self, Nat.xor_zero]
    rw [e]
    exact (h.right _).xor (ih.left 2)
  induction g using bin_ind with
  | z =>
    have hp : 0 < 2 ^ k := Nat.two_pow_pos k
    obtain ⟨m, hm⟩ : ∃ m, 2 ^ k = m + 1 := ⟨2 ^ k - 1, by omega⟩
    rw [hm, pw_succ]; simp; exact Dv.zero p
  | e a ih => exact hev a ih
  | o a ih =>
    have e : pw (2 * a + 1) (2 ^ k) ^^^ (2 * a + 1) = pw (2 * a) (2 ^ k) ^^^ 2 * a := by
      rw [← even_xor_one, pw_xor, one_pw, xor_ex, Nat.xor_self, Nat.xor_zero]
    rw [e]; exact hev a ih
/-- x is its own power by 2^k, k from 1 on, for no k less than the degree. -/
theorem frob_deg {p k : Nat} (h : Irr p) (hk : 1 ≤ k) (hd : Dv p (pw 2 (2 ^ k) ^^^ 2)) : bl p - 1 ≤ k := by
  have h2 : 2 ≤ 2 ^ k := by
    have := Nat.pow_le_pow_right (n := 2) (by omega) hk
    simpa using this
  have hr := roots h (2 ^ k) (0 :: 1 :: mono (2 ^ k - 2)) (List.range (2 ^ (bl p - 1))) (by simp [mono_len]; omega) (by
      have hl := mono_lead (2 ^ k - 2)
      have hne : ∃ d t, mono (2 ^ k - 2) = d :: t := by
        cases h : mono (2 ^ k - 2) with
        | nil => have := mono_len (2 ^ k - 2); rw [h] at this; simp at this
        | cons d t => exact ⟨d, t, rfl⟩
      obtain ⟨d, t, hm⟩ := hne
      rw [hm] at hl ⊢
      simp only [lead] at hl ⊢
      rw [hl]; exact h.not_one) (by
      refine List.Pairwise.imp_of_mem ?_ (List.nodup_iff_pairwise_ne.1 List.nodup_range)
      intro a b ha hb hne hdv
      have h1 := bl_le.2 (List.mem_range.1 ha)
      have h3 := bl_le.2 (List.mem_range.1 hb)
      have := h.1
      exact hne (xor_eq0 (hdv.zero_of_lt (by have := bl_xor_le a b; omega)))) (by
      intro y _
      have e : ev (0 :: 1 :: mono (2 ^ k - 2)) y = pw y (2 ^ k) ^^^ y := by
        simp only [ev, mono_ev]
        rw [Nat.zero_xor, cm_xor_right, cm_one, ← cm_assoc, ← pw_sq, ← pw_add, show 2 + (2 ^ k - 2) = 2 ^ k from by omega, Nat.xor_comm]
      rw [e]; exact frob hd y)
  rw [List.length_range] at hr
  exact (Nat.pow_le_pow_iff_right (by omega)).1 hr
/-- An irreducible one passes the test. -/
theorem irB_of_irr {p : Nat} (h : Irr p) : irB p = true := by
  have hp0 := h.ne0
  refine irB_iff.2 ⟨h.1, fun i hi => ?_⟩
  rcases h.dv (pg_right (fr p (i + 1) ^^^ 2) p) with h1 | h1
  · exact h1
  · exfalso
    have h2 := pg_left (fr p (i + 1) ^^^ 2) p
    rw [h1, fr_eq hp0] at h2
    have h3 := (pm_dv (2 ^ 2 ^ (i + 1)) hp0).xor h2
    rw [Nat.xor_assoc, xor_cl, ← pw_two] at h3
    have := frob_deg h (by omega) h3
    omega
theorem irB_eq {p : Nat} : irB p = true ↔ Irr p := ⟨irr_of_irB, irB_of_irr⟩
end Go.Proofs.YtjajojdlgpmpfaaDoor
