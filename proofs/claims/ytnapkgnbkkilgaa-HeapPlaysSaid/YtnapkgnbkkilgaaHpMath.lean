/- What up and down make of a row and its places, as plain lists. -/
import Derived.Test.YtnapkgnbkkilgaaHpSwap
namespace Go.Proofs.Ytnapkgnbkkilgaa.Hp

def at' (l : List Nat) (p : Nat) : Nat := l.getD p 0
def swR (row : List Nat) (p q : Nat) : List Nat := (row.set p (at' row q)).set q (at' row p)
def swP (row pl : List Nat) (p q : Nat) : List Nat := (pl.set (at' row p) (q + 1)).set (at' row q) (p + 1)
def aheadR (sc row : List Nat) (p q : Nat) : Bool := aheadB (at' sc (at' row p)) (at' sc (at' row q)) (at' row p) (at' row q)

theorem at_get {l : List Nat} {p : Nat} (h : p < l.length) : l[p]? = some (at' l p) := by
  unfold at'; rw [List.getD_eq_getElem?_getD, List.getElem?_eq_getElem h]; rfl

/-- The row's atoms have scores, and stand in it once. -/
def Valid (sc row : List Nat) : Prop := (∀ x ∈ row, x < sc.length) ∧ row.Nodup

theorem at_mem {l : List Nat} {p : Nat} (h : p < l.length) : at' l p ∈ l := List.mem_of_getElem? (at_get h)

theorem swR_perm {row : List Nat} {p q : Nat} (hp : p < row.length) (hq : q < row.length) : (swR row p q).Perm row := by
  have h := Array.swap_perm (xs := row.toArray) (i := p) (j := q) (by simpa using hp) (by simpa using hq)
  have h2 := Array.perm_iff_toList_perm.1 h
  have e : (row.toArray.swap p q (by simpa using hp) (by simpa using hq)).toList = swR row p q := by
    unfold swR at'
    simp [Array.swap_def, List.getD_eq_getElem?_getD, hp, hq]
  rw [e] at h2
  simpa using h2

theorem Valid.swap {sc row : List Nat} {p q : Nat} (h : Valid sc row) (hp : p < row.length) (hq : q < row.length) : Valid sc (swR row p q) :=
  ⟨fun x hx => h.1 x ((swR_perm hp hq).mem_iff.1 hx), (swR_perm hp hq).nodup_iff.2 h.2⟩
theorem swR_length (row : List Nat) (p q : Nat) : (swR row p q).length = row.length := by simp [swR]
theorem swP_length (row pl : List Nat) (p q : Nat) : (swP row pl p q).length = pl.length := by simp [swP]
theorem Valid.at_lt {sc row : List Nat} {p : Nat} (h : Valid sc row) (hp : p < row.length) : at' row p < sc.length := h.1 _ (at_mem hp)
theorem Valid.at_ne {sc row : List Nat} {p q : Nat} (h : Valid sc row) (hp : p < row.length) (hq : q < row.length) (hne : p ≠ q) : at' row p ≠ at' row q := by
  intro e
  have h1 := at_get hp
  have h2 := at_get hq
  rw [List.getElem?_eq_getElem hp] at h1
  rw [List.getElem?_eq_getElem hq] at h2
  have hE : row[p] = row[q] := by rw [Option.some.inj h1, Option.some.inj h2, e]
  have hN := List.pairwise_iff_getElem.1 h.2
  rcases Nat.lt_or_gt_of_ne hne with hl | hl
  · exact hN p q hp hq hl hE
  · exact hN q p hq hp hl hE.symm

def upF (sc row pl : List Nat) (k : Nat) : List Nat × List Nat :=
  if h : 1 < k ∧ aheadR sc row (k - 1) (k / 2 - 1) = true then upF sc (swR row (k - 1) (k / 2 - 1)) (swP row pl (k - 1) (k / 2 - 1)) (k / 2) else (row, pl)
termination_by k
decreasing_by omega

/-- Which one of the place k and its children stands ahead of all. -/
def next1 (sc row : List Nat) (k : Nat) : Nat := if 2 * k ≤ row.length ∧ aheadR sc row (2 * k - 1) (k - 1) = true then 2 * k else k
def next2 (sc row : List Nat) (k : Nat) : Nat := if 2 * k + 1 ≤ row.length ∧ aheadR sc row (2 * k) (next1 sc row k - 1) = true then 2 * k + 1 else next1 sc row k

theorem next1_le (sc row : List Nat) (k : Nat) : k ≤ next1 sc row k ∧ (next1 sc row k = k ∨ next1 sc row k ≤ row.length) := by unfold next1; split <;> omega
theorem next2_le (sc row : List Nat) (k : Nat) : k ≤ next2 sc row k ∧ (next2 sc row k = k ∨ next2 sc row k ≤ row.length) := by
  unfold next2; have := next1_le sc row k; split <;> omega

def downF (sc row pl : List Nat) (k : Nat) : List Nat × List Nat :=
  if h : next2 sc row k = k then (row, pl) else downF sc (swR row (k - 1) (next2 sc row k - 1)) (swP row pl (k - 1) (next2 sc row k - 1)) (next2 sc row k)
termination_by row.length + 1 - k
decreasing_by
  have := next2_le sc row k
  rw [swR_length]
  omega

end Go.Proofs.Ytnapkgnbkkilgaa.Hp
