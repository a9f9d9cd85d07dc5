/- The form of a clause, in plain words. -/
import Derived.Lib.SlicesCompact
import Derived.Sort.LotA
namespace Go.Proofs.Ytiomocmceccmbaa.Cn
open Go.Lib

def IsLit (x : Int) : Prop := x ≠ 0 ∧ x ≠ -9223372036854775808
instance (x : Int) : Decidable (IsLit x) := by unfold IsLit; exact inferInstance

/-- By atoms, then by numbers. -/
def Lt (a b : Int) : Prop := a.natAbs < b.natAbs ∨ (a.natAbs = b.natAbs ∧ a < b)
theorem Lt.trans {a b c : Int} (h : Lt a b) (k : Lt b c) : Lt a c := by unfold Lt at *; omega
theorem Lt.irrefl (a : Int) : ¬ Lt a a := by unfold Lt; omega
theorem Lt.total (a b : Int) : a = b ∨ Lt a b ∨ Lt b a := by unfold Lt; omega

/-- There is no form. -/
def Bad (l : List Int) : Prop := ∃ x ∈ l, ¬ IsLit x ∨ -x ∈ l

/-- f is l's form. -/
structure Good (l f : List Int) : Prop where
  lits : ∀ x ∈ l, IsLit x
  apart : ∀ x ∈ l, -x ∉ l
  same : ∀ x, x ∈ f ↔ x ∈ l
  up : f.Pairwise fun a b => a.natAbs < b.natAbs

theorem Good.not {l f : List Int} (h : Good l f) : ¬ Bad l := fun ⟨x, hx, hb⟩ => by
  rcases hb with hb | hb
  · exact hb (h.lits x hx)
  · exact h.apart x hx hb

theorem good_unique {l l' f g : List Int} (h : Good l f) (k : Good l' g) (e : ∀ x, x ∈ l ↔ x ∈ l') : f = g := by
  have nf : f.Nodup := h.up.imp fun {a b} hab e => by subst e; omega
  have ng : g.Nodup := k.up.imp fun {a b} hab e => by subst e; omega
  have hp : f.Perm g := (List.perm_ext_iff_of_nodup nf ng).2 fun x => by rw [h.same, k.same, e]
  exact List.Perm.eq_of_pairwise (le := fun a b : Int => a.natAbs < b.natAbs) (fun a b _ _ h1 h2 => by omega) h.up k.up hp

theorem good_congr {l l' f : List Int} (h : Good l f) (e : ∀ x, x ∈ l ↔ x ∈ l') : Good l' f :=
  ⟨fun x hx => h.lits x ((e x).2 hx), fun x hx hn => h.apart x ((e x).2 hx) ((e (-x)).2 hn), fun x => (h.same x).trans (e x), h.up⟩
theorem bad_congr {l l' : List Int} (h : Bad l) (e : ∀ x, x ∈ l ↔ x ∈ l') : Bad l' := by
  obtain ⟨x, hx, hb⟩ := h
  exact ⟨x, (e x).1 hx, hb.imp id fun h => (e (-x)).1 h⟩

def nthI (l : List Int) (i : Nat) : Int := l.getD i 0
theorem nthI_get {l : List Int} {i : Nat} (h : i < l.length) : l[i]? = some (nthI l i) := by unfold nthI; simp [List.getD_eq_getElem?_getD, h]
theorem nthI_mem {l : List Int} {i : Nat} (h : i < l.length) : nthI l i ∈ l := List.mem_of_getElem? (nthI_get h)
theorem mem_nthI {l : List Int} {x : Int} (h : x ∈ l) : ∃ i, i < l.length ∧ nthI l i = x := by
  obtain ⟨i, hi, e⟩ := List.getElem_of_mem h
  exact ⟨i, hi, by unfold nthI; simp [List.getD_eq_getElem?_getD, hi, e]⟩
theorem pairwise_nthI {R : Int → Int → Prop} {l : List Int} : l.Pairwise R ↔ ∀ i j, i < j → j < l.length → R (nthI l i) (nthI l j) := by
  rw [List.pairwise_iff_getElem]
  have e : ∀ i (h : i < l.length), nthI l i = l[i] := fun i h => by unfold nthI; simp [List.getD_eq_getElem?_getD, h]
  constructor
  · intro h i j hij hj
    rw [e i (by omega), e j hj]; exact h i j (by omega) hj hij
  · intro h i j hi hj hij
    rw [← e i hi, ← e j hj]; exact h i j hij hj

/-- What is kept of a sorted row. -/
theorem compact_up (d : Array Int) (hs : ∀ i j, i < j → j < d.size → d[i]! = d[j]! ∨ Lt d[i]! d[j]!) (m : Nat) (hm : m ≤ d.size) :
    (∀ x, x ∈ compactUpTo d m ↔ ∃ j, j < m ∧ d[j]! = x) ∧ (compactUpTo d m).Pairwise Lt := by
  induction m with
  | zero => exact ⟨fun x => by simp [compactUpTo], by simp [compactUpTo]⟩
  | succ m ih =>
    obtain ⟨h1, h2⟩ := ih (by omega)
    rw [compactUpTo_succ]
    by_cases hk : keeps d m = true
    · rw [if_pos hk]
      refine ⟨fun x => ?_, ?_⟩
      · rw [List.mem_append, h1, List.mem_singleton]
        constructor
        · rintro (⟨j, hj, e⟩ | e)
          · exact ⟨j, by omega, e⟩
          · exact ⟨m, by omega, e.symm⟩
        · rintro ⟨j, hj, e⟩
          by_cases ej : j = m
          · subst ej; exact .inr e.symm
          · exact .inl ⟨j, by omega, e⟩
      · rw [List.pairwise_append]
        refine ⟨h2, by simp, fun a ha b hb => ?_⟩
        rw [List.mem_singleton] at hb
        subst hb
        obtain ⟨j, hj, rfl⟩ := (h1 a).1 ha
        have hne : d[m]! ≠ d[m - 1]! := by
          simp [keeps] at hk; rcases hk with hk | hk
          · omega
          · exact hk
        have hl : Lt d[m - 1]! d[m]! := by
          rcases hs (m - 1) m (by omega) (by omega) with e | e
          · exact absurd e.symm hne
          · exact e
        by_cases ej : j = m - 1
        · rw [ej]; exact hl
        · rcases hs j (m - 1) (by omega) (by omega) with e | e
          · rw [e]; exact hl
          · exact e.trans hl
    · rw [if_neg hk, List.append_nil]
      refine ⟨fun x => ?_, h2⟩
      rw [h1]
      constructor
      · rintro ⟨j, hj, e⟩; exact ⟨j, by omega, e⟩
      · rintro ⟨j, hj, e⟩
        by_cases ej : j = m
        · subst ej
          simp [keeps] at hk
          exact ⟨j - 1, by omega, by rw [← hk.2]; exact e⟩
        · exact ⟨j, by omega, e⟩

/-- The sorted row, what is kept of it: all of l's, by rising order. -/
theorem compact_sorted (s : List Int) (hs : s.Pairwise fun a b => a = b ∨ Lt a b) : (∀ x, x ∈ compact s ↔ x ∈ s) ∧ (compact s).Pairwise Lt := by
  have e : ∀ i, i < s.length → s.toArray[i]! = nthI s i := fun i h => by unfold nthI; simp [List.getD_eq_getElem?_getD, h]
  have h := compact_up s.toArray (fun i j hij hj => by
    simp at hj
    rw [e i (by omega), e j hj]
    exact pairwise_nthI.1 hs i j hij hj) s.length (by simp)
  refine ⟨fun x => ?_, h.2⟩
  unfold compact
  rw [h.1]
  constructor
  · rintro ⟨j, hj, ex⟩
    rw [e j hj] at ex; rw [← ex]; exact nthI_mem hj
  · intro hx
    obtain ⟨j, hj, ex⟩ := mem_nthI hx
    exact ⟨j, hj, by rw [e j hj]; exact ex⟩

/-- No two neighbours are opposites: then that is the form. -/
theorem good_of {l c : List Int} (hl : ∀ x ∈ l, IsLit x) (hm : ∀ x, x ∈ c ↔ x ∈ l) (hp : c.Pairwise Lt) (hn : ∀ i, i + 1 < c.length → nthI c (i + 1) ≠ -nthI c i) : Good l c := by
  have step : ∀ i, i + 1 < c.length → (nthI c i).natAbs < (nthI c (i + 1)).natAbs := fun i hi => by
    have h1 := pairwise_nthI.1 hp i (i + 1) (by omega) hi
    have h2 := hn i hi
    unfold Lt at h1; omega
  have up : ∀ k i, i + 1 + k < c.length → (nthI c i).natAbs < (nthI c (i + 1 + k)).natAbs := by
    intro k
    induction k with
    | zero => exact step
    | succ k ih =>
      intro i hi
      have h1 := ih i (by omega)
      have h2 := step (i + 1 + k) (by omega)
      rw [show i + 1 + (k + 1) = i + 1 + k + 1 by omega]; omega
  have hup : c.Pairwise fun a b => a.natAbs < b.natAbs := pairwise_nthI.2 fun i j hij hj => by
    have := up (j - i - 1) i (by omega)
    rwa [show i + 1 + (j - i - 1) = j by omega] at this
  refine ⟨hl, fun x hx hnx => ?_, hm, hup⟩
  obtain ⟨i, hi, ei⟩ := mem_nthI ((hm x).2 hx)
  obtain ⟨j, hj, ej⟩ := mem_nthI ((hm (-x)).2 hnx)
  have hlit := (hl x hx).1
  rcases Nat.lt_trichotomy i j with h | h | h
  · have := pairwise_nthI.1 hup i j h hj; rw [ei, ej] at this; omega
  · subst h; rw [ei] at ej; omega
  · have := pairwise_nthI.1 hup j i h hi; rw [ei, ej] at this; omega

theorem bad_of {l c : List Int} (hm : ∀ x, x ∈ c ↔ x ∈ l) {i : Nat} (hi : i + 1 < c.length) (e : nthI c (i + 1) = -nthI c i) : Bad l :=
  ⟨nthI c i, (hm _).1 (nthI_mem (by omega)), .inr ((hm _).1 (e ▸ nthI_mem hi))⟩

/-! The document's way: each literal is put in at its place. -/
theorem insert_good {l a b : List Int} {x : Int} (h : Good l (a ++ b)) (hx : IsLit x) (ha : ∀ y ∈ a, y.natAbs < x.natAbs) (hb : ∀ y ∈ b, x.natAbs < y.natAbs) : Good (l ++ [x]) (a ++ x :: b) := by
  have hup := List.pairwise_append.1 h.up
  have hnx : -x ∉ a ++ b := fun hin => by
    rcases List.mem_append.1 hin with hin | hin
    · have := ha _ hin; omega
    · have := hb _ hin; omega
  have hxx : x ∉ a ++ b := fun hin => by
    rcases List.mem_append.1 hin with hin | hin
    · have := ha _ hin; omega
    · have := hb _ hin; omega
  have h0 := hx.1
  refine ⟨fun y hy => ?_, fun y hy hn => ?_, fun y => ?_, ?_⟩
  · rcases List.mem_append.1 hy with hy | hy
    · exact h.lits y hy
    · simp at hy; rw [hy]; exact hx
  · rcases List.mem_append.1 hy with hy | hy
    · rcases List.mem_append.1 hn with hn | hn
      · exact h.apart y hy hn
      · simp at hn
        have : y = -x := by omega
        exact hnx (this ▸ (h.same y).2 hy)
    · simp at hy; subst hy
      rcases List.mem_append.1 hn with hn | hn
      · exact hnx ((h.same _).2 hn)
      · simp at hn; omega
  · have := h.same y
    simp only [List.mem_append, List.mem_cons, List.not_mem_nil, or_false] at this ⊢
    rw [← this]
    constructor
    · rintro (h | h | h)
      · exact .inl (.inl h)
      · exact .inr h
      · exact .inl (.inr h)
    · rintro ((h | h) | h)
      · exact .inl h
      · exact .inr (.inr h)
      · exact .inr (.inl h)
  · rw [List.pairwise_append, List.pairwise_cons]
    refine ⟨hup.1, ⟨hb, hup.2.1⟩, fun y hy z hz => ?_⟩
    rcases List.mem_cons.1 hz with rfl | hz
    · exact ha y hy
    · exact hup.2.2 y hy z hz

theorem again_good {l f : List Int} {x : Int} (h : Good l f) (hx : x ∈ f) : Good (l ++ [x]) f :=
  good_congr h fun y => by
    simp only [List.mem_append, List.mem_cons, List.not_mem_nil, or_false]
    exact ⟨.inl, fun hy => by rcases hy with hy | rfl; exact hy; exact (h.same _).1 hx⟩

end Go.Proofs.Ytiomocmceccmbaa.Cn
