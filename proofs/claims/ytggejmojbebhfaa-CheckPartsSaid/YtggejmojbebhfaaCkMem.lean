/- A recipe's copy: two fields of one package are struck. -/
import Derived.Test.YtggejmojbebhfaaCkMath
import Derived.Test.YtggejmojbebhfaaRcOwnK
import Derived.Test.YtggejmojbebhfaaRcCheckLaw
namespace Go.Proofs.Ytggejmojbebhfaa.Rc
open Go.RowKit

theorem elemPkg : Elem pkgK 22 45 :=
  ⟨Try.underlying22, ⟨.agg #[.string ⟨#[]⟩, .int .i64 0, .slice none 0 0, .slice none 0 0, .slice none 0 0, .slice none 0 0, .slice none 0 0, .slice none 0 0], 168, by kernel_rfl, by rfl, by decide, by decide⟩, by decide, by
    rintro w cs x ⟨v1, v2, v3, v4, v5, v6, rfl, h⟩ u hu
    obtain ⟨⟨_, _, _, rfl⟩, ⟨_, _, _, rfl⟩, ⟨_, _, _, rfl⟩, ⟨_, _, _, rfl⟩, ⟨_, _, _, rfl⟩, ⟨_, _, _, rfl⟩⟩ := h.sls
    simp at hu
    rcases hu with rfl | rfl | rfl | rfl | rfl | rfl | rfl | rfl <;> rfl⟩
theorem elemRoot9 : Elem rootK 35 75 :=
  ⟨Try.underlying35, ⟨.agg #[.string ⟨#[]⟩, .slice none 0 0, .slice none 0 0, .int .i64 0], 72, by kernel_rfl, by rfl, by decide, by decide⟩, by decide, by
    rintro w cs x ⟨v1, v2, rfl, h, _⟩ u hu
    obtain ⟨_, _, _, rfl⟩ := h.spans.sl
    obtain ⟨_, _, _, rfl⟩ := h.sets.sl
    simp at hu
    rcases hu with rfl | rfl | rfl | rfl <;> rfl⟩
abbrev nilV : Value := .slice none 0 0
/-- A package of a row of the call's own: its block. -/
theorem pkgs_open {w0 w : World} {base : Nat} {A : Option Addr} {L c : Nat} {l : List Pkg} (h : OwnK pkgK 45 w0 w base (.slice A L c) l) {k : Nat} (hk : k < L) :
    ∃ g cur css, A = some ⟨g, 0, none⟩ ∧ base ≤ g ∧ L = l.length ∧ L ≤ c ∧ c ≤ maxLen ∧ w.heap[g]? = some (.cells cur 45 (0, 0)) ∧ Css pkgK w0 css l ∧ (∀ j i, j < L → i < 8 → cur[j * 8 + i]? = (nth css j)[i]?) := by
  obtain ⟨css, hc, hx, h2⟩ := h
  rcases h2 with ⟨e, h0⟩ | ⟨g, cap, cur, e, hg, hh, h1, h3, hs, h4⟩
  · injection e with e1 e2 e3; omega
  · injection e with e1 e2 e3
    subst e1 e2 e3
    refine ⟨g, cur, css, rfl, hg, rfl, h1, h3, hh, hc, fun j i hj hi => ?_⟩
    have hp : j * 8 + i < css.flatten.length := by
      rw [hc.flat]
      show _ < l.length * 8
      omega
    have e1 := flat_get hc.lens (j := j) (i := i) (by rw [hc.1]; exact hj) (show i < pkgK.n from hi)
    rw [← e1]
    have e2 : (cur.toList.take css.flatten.length)[j * pkgK.n + i]? = css.flatten[j * pkgK.n + i]? := by rw [hc.flat, h4]
    rw [List.getElem?_take, if_pos (show j * pkgK.n + i < css.flatten.length from hp), Array.getElem?_toList] at e2
    exact e2
theorem bare_row {w0 w1 : World} {g L c k : Nat} {cur : Array Value} {css : List (List Value)} {l : List Pkg} (hb : Below w0.heap.size w0 w1) (hL : L = l.length) (hLc : L ≤ c) (hc : c ≤ maxLen) (hcs : Css pkgK w0 css l)
    (hcur : ∀ j i, j < L → i < 8 → cur[j * 8 + i]? = (nth css j)[i]?) (hk : k < L) (hh : w1.heap[g]? = some (.cells ((cur.setIfInBounds (k * 8 + 6) nilV).setIfInBounds (k * 8 + 7) nilV) 45 (0, 0))) :
    RowD pkgK w1 (.slice (some ⟨g, 0, none⟩) L c) (l.set k (bare (nth l k))) := by
  subst hL
  have hsz : ∀ j i, j < l.length → i < 8 → j * 8 + i < cur.size := fun j i hj hi => by
    have h1 := hcur j i hj hi
    obtain ⟨v1, v2, v3, v4, v5, v6, e, _⟩ := hcs.2 j hj
    rw [e] at h1
    apply Classical.byContradiction
    intro hn
    rw [Array.getElem?_eq_none (by omega)] at h1
    have : i = 0 ∨ i = 1 ∨ i = 2 ∨ i = 3 ∨ i = 4 ∨ i = 5 ∨ i = 6 ∨ i = 7 := by omega
    rcases this with rfl | rfl | rfl | rfl | rfl | rfl | rfl | rfl <;> simp at h1
  refine ⟨some ⟨g, 0, none⟩, c, by rw [List.length_set], by rw [List.length_set]; exact hLc, hc, fun _ => ⟨g, 0, rfl, lt_of_heap hh, fun j hj => ?_⟩⟩
  rw [List.length_set] at hj
  obtain ⟨v1, v2, v3, v4, v5, v6, e, hp⟩ := hcs.2 j hj
  have hcell : ∀ i, i < 8 → w1.cell? ⟨g, 0 + j * pkgK.n + i, none⟩ = ((cur.setIfInBounds (k * 8 + 6) nilV).setIfInBounds (k * 8 + 7) nilV)[j * 8 + i]? := fun i _ => by
    rw [Nat.zero_add]
    exact cell_of_row w1 g _ _ _ _ hh
  rw [nth_set _ hj]
  by_cases ek : k = j
  · subst ek
    rw [if_pos rfl]
    have hp1 := hp.below hb (Nat.le_refl _)
    refine ⟨[.string (nth l k).name, .int .i64 (nth l k).line, v1, v2, v3, v4, nilV, nilV], ⟨v1, v2, v3, v4, nilV, nilV, rfl, ⟨hp1.name, hp1.line, hp1.rels, hp1.vars, hp1.prov, hp1.deps, RowD.nil w1, RowD.nil w1⟩⟩, fun i hi => ?_⟩
    have hi8 : i < 8 := hi
    rw [hcell i hi8, Array.getElem?_setIfInBounds, Array.getElem?_setIfInBounds, hcur k i hj hi8, e]
    have s6 := hsz k 6 hj (by omega)
    have s7 := hsz k 7 hj (by omega)
    have : i = 0 ∨ i = 1 ∨ i = 2 ∨ i = 3 ∨ i = 4 ∨ i = 5 ∨ i = 6 ∨ i = 7 := by omega
    rcases this with rfl | rfl | rfl | rfl | rfl | rfl | rfl | rfl <;> simp [s6, s7]
  · rw [if_neg ek]
    refine ⟨nth css j, pkgK.below (hcs.2 j hj) hb (Nat.le_refl _), fun i hi => ?_⟩
    have hi8 : i < 8 := hi
    rw [hcell i hi8, Array.getElem?_setIfInBounds, Array.getElem?_setIfInBounds, if_neg (by omega), if_neg (by omega), hcur j i hj hi8]
end Go.Proofs.Ytggejmojbebhfaa.Rc
