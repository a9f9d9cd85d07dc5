/- An edge more, edges upward, edges turned round: plain mathematics. -/
import Derived.Test.YtiimhndiifojnaaOrMath
namespace Go.Proofs.Ytiimhndiifojnaa.Or

section
variable {n : Nat} {Ln Ln' : Nat → Nat} {Z Z' : Nat → Nat → Int}
theorem Way.mono {p t : Nat} (hp : p < n) (h : ∀ u v, u < n → v < n → Edge Ln Z u v → Edge Ln' Z' u v) (hw : Way n Ln Z p t) : Way n Ln' Z' p t := by
  have := hw (fun x => x < n ∧ Way n Ln' Z' p x) (fun u hu e => ⟨hu, Way.one hu (h p u hp hu e)⟩) (fun u v ⟨hu, hs⟩ hv e => ⟨hv, hs.snoc hv (h u v hu hv e)⟩)
  exact this.2
theorem Round.mono (h : ∀ u v, u < n → v < n → Edge Ln Z u v → Edge Ln' Z' u v) (hr : Round n Ln Z) : Round n Ln' Z' := by
  obtain ⟨p, hp, hw⟩ := hr
  exact ⟨p, hp, hw.mono hp h⟩
theorem Round.up (h : ∀ u v, u < n → v < n → Edge Ln Z u v → u < v) : ¬ Round n Ln Z := fun ⟨p, hp, hw⟩ => by
  have := hw (fun x => x < n ∧ p < x) (fun u hu e => ⟨hu, h p u hp hu e⟩) (fun u v ⟨hu, hs⟩ hv e => ⟨hv, Nat.lt_trans hs (h u v hu hv e)⟩)
  omega
theorem Way.turned {p t : Nat} (hp : p < n) (h : ∀ u v, u < n → v < n → Edge Ln Z u v → Edge Ln' Z' v u) (hw : Way n Ln Z p t) : Way n Ln' Z' t p := by
  have := hw (fun x => x < n ∧ Way n Ln' Z' x p) (fun u hu e => ⟨hu, Way.one hp (h p u hp hu e)⟩) (fun u v ⟨hu, hs⟩ hv e => ⟨hv, Way.cons hu (h u v hu hv e) hs⟩)
  exact this.2
theorem Round.turned (h : ∀ u v, u < n → v < n → Edge Ln Z u v → Edge Ln' Z' v u) (hr : Round n Ln Z) : Round n Ln' Z' := by
  obtain ⟨p, hp, hw⟩ := hr
  exact ⟨p, hp, hw.turned hp h⟩
end
/-! Rows as lists. -/
def lenR (R : Nat → List Int) (p : Nat) : Nat := (R p).length
def atR (R : Nat → List Int) (p i : Nat) : Int := (R p)[i]?.getD 0
theorem edge_list {R : Nat → List Int} {p t : Nat} : Edge (lenR R) (atR R) p t ↔ (t : Int) ∈ R p := by
  constructor
  · rintro ⟨i, hi, e⟩
    unfold lenR at hi
    unfold atR at e
    rw [List.getElem?_eq_getElem hi] at e
    have e : (R p)[i] = (t : Int) := e
    rw [← e]; exact List.getElem_mem hi
  · intro h
    obtain ⟨i, hi, e⟩ := List.getElem_of_mem h
    exact ⟨i, hi, by unfold atR; rw [List.getElem?_eq_getElem hi]; exact e⟩
/-- The first k edges of a row. -/
def rowK (Z : Nat → Nat → Int) (p k : Nat) : List Int := (List.range k).map (Z p)
theorem rowK_zero (Z : Nat → Nat → Int) (p : Nat) : rowK Z p 0 = [] := rfl
theorem rowK_succ (Z : Nat → Nat → Int) (p k : Nat) : rowK Z p (k + 1) = rowK Z p k ++ [Z p k] := by unfold rowK; rw [List.range_succ, List.map_append]; rfl
theorem rowK_len (Z : Nat → Nat → Int) (p k : Nat) : (rowK Z p k).length = k := by simp [rowK]
theorem mem_rowK {Z : Nat → Nat → Int} {p k : Nat} {y : Int} : y ∈ rowK Z p k ↔ ∃ i, i < k ∧ Z p i = y := by simp [rowK]
/-- What has been laid of the edges turned round, and of those upward: all rows below p, and of row p the first k. -/
structure Turned (n : Nat) (Ln : Nat → Nat) (Z : Nat → Nat → Int) (p k : Nat) (Bk : Nat → List Int) : Prop where
  sound : ∀ t q : Nat, t < n → (q : Int) ∈ Bk t → q < n ∧ Edge Ln Z q t
  full : ∀ t q : Nat, t < n → q < p → Edge Ln Z q t → (q : Int) ∈ Bk t
  part : ∀ (t i : Nat), t < n → i < k → Z p i = (t : Int) → (p : Int) ∈ Bk t
  fewer : ∀ t, (Bk t).length ≤ 100000
def upd (R : Nat → List Int) (p : Nat) (l : List Int) : Nat → List Int := fun q => if q = p then l else R q
theorem upd_same (R : Nat → List Int) (p : Nat) (l : List Int) : upd R p l p = l := if_pos rfl
theorem upd_other {R : Nat → List Int} {p q : Nat} (h : q ≠ p) (l : List Int) : upd R p l q = R q := if_neg h
end Go.Proofs.Ytiimhndiifojnaa.Or
