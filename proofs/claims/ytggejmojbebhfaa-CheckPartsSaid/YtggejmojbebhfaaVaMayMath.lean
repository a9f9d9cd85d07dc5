/- Plain mathematics: what variants may be. -/
import Derived.Test.YtggejmojbebhfaaVaMem
namespace Go.Proofs.Ytggejmojbebhfaa.Va

def eqS (a b : ByteArray) : Bool := a.toList == b.toList
theorem eqS_iff {a b : ByteArray} : eqS a b = true ↔ a = b := by
  unfold eqS
  simp only [beq_iff_eq, Lib.toList_data]
  refine ⟨fun h => ?_, fun h => by rw [h]⟩
  cases a; cases b
  simp at h ⊢
  exact Array.ext' (by simpa using h)
theorem eqS_comm (a b : ByteArray) : eqS a b = eqS b a := by
  unfold eqS
  rw [Bool.eq_iff_iff]; simp; exact eq_comm

def hasS (l : List ByteArray) (x : ByteArray) : Bool := l.any (eqS x)
def hasN (l : List Var) (x : ByteArray) : Bool := l.any fun v => eqS v.1 x
def okVals (l : List ByteArray) : Bool := (List.range l.length).all fun i => valB (nthS l i).data.toList && !hasS (l.take i) (nthS l i)
def mayOneB (v : Var) : Bool := nameB v.1.data.toList && !decide (v.2.length = 0) && decide (v.2.length ≤ 4) && okVals v.2
def mayB (l : List Var) : Bool := decide (l.length ≤ 4) && (List.range l.length).all fun i => mayOneB (nthV l i) && !hasN (l.take i) (nthV l i).1

theorem range_snoc (p : Nat → Bool) (k : Nat) : (List.range (k + 1)).all p = ((List.range k).all p && p k) := by
  rw [List.range_succ, List.all_append]; simp
theorem range_false {p : Nat → Bool} {n k : Nat} (hk : k < n) (h : p k = false) : (List.range n).all p = false :=
  List.all_eq_false.2 ⟨k, by simpa using hk, by simp [h]⟩

theorem any_snocS {l : List ByteArray} {k : Nat} (hk : k < l.length) (p : ByteArray → Bool) : (l.take (k + 1)).any p = ((l.take k).any p || p (nthS l k)) := by
  rw [List.take_succ_eq_append_getElem hk, List.any_append, nthS_lt hk]; simp
theorem any_snocV {l : List Var} {k : Nat} (hk : k < l.length) (p : Var → Bool) : (l.take (k + 1)).any p = ((l.take k).any p || p (nthV l k)) := by
  rw [List.take_succ_eq_append_getElem hk, List.any_append, nthV_lt hk]; simp
theorem any_atS {l : List ByteArray} {k : Nat} (hk : k < l.length) {p : ByteArray → Bool} (h : p (nthS l k) = true) : l.any p = true :=
  List.any_eq_true.2 ⟨_, nthS_mem hk, h⟩
theorem any_atV {l : List Var} {k : Nat} (hk : k < l.length) {p : Var → Bool} (h : p (nthV l k) = true) : l.any p = true :=
  List.any_eq_true.2 ⟨_, nthV_mem hk, h⟩

end Go.Proofs.Ytggejmojbebhfaa.Va
