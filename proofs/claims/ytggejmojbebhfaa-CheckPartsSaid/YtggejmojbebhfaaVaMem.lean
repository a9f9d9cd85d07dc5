/- Texts, settings and variants in memory. -/
import Derived.Test.YtggejmojbebhfaaMem
import Derived.Test.YtggejmojbebhfaaRows
import Derived.Test.YtggejmojbebhfaaVaMath
import Derived.Deep.MidRow
namespace Go.Proofs.Ytggejmojbebhfaa.Va
open Go.RowKit

abbrev Set1 := ByteArray × ByteArray
abbrev Var := ByteArray × List ByteArray

def nthS (l : List ByteArray) (i : Nat) : ByteArray := l[i]?.getD ⟨#[]⟩
def nthT (l : List Set1) (i : Nat) : Set1 := l[i]?.getD (⟨#[]⟩, ⟨#[]⟩)
def nthV (l : List Var) (i : Nat) : Var := l[i]?.getD (⟨#[]⟩, [])
theorem nthS_lt {l : List ByteArray} {i : Nat} (h : i < l.length) : nthS l i = l[i] := by unfold nthS; rw [List.getElem?_eq_getElem h]; rfl
theorem nthT_lt {l : List Set1} {i : Nat} (h : i < l.length) : nthT l i = l[i] := by unfold nthT; rw [List.getElem?_eq_getElem h]; rfl
theorem nthV_lt {l : List Var} {i : Nat} (h : i < l.length) : nthV l i = l[i] := by unfold nthV; rw [List.getElem?_eq_getElem h]; rfl
theorem nthS_mem {l : List ByteArray} {i : Nat} (h : i < l.length) : nthS l i ∈ l := by rw [nthS_lt h]; exact List.getElem_mem h
theorem nthT_mem {l : List Set1} {i : Nat} (h : i < l.length) : nthT l i ∈ l := by rw [nthT_lt h]; exact List.getElem_mem h
theorem nthV_mem {l : List Var} {i : Nat} (h : i < l.length) : nthV l i ∈ l := by rw [nthV_lt h]; exact List.getElem_mem h

/-- Texts that lie in memory. -/
def Strs (w : World) (v : Value) (l : List ByteArray) : Prop :=
  ∃ A c, v = .slice A l.length c ∧ l.length ≤ c ∧ c ≤ maxLen ∧ (0 < l.length → ∃ b off, A = some ⟨b, off, none⟩ ∧ b < w.heap.size ∧ ∀ j, j < l.length → w.cell? ⟨b, off + j, none⟩ = some (.string (nthS l j)) ∧ (nthS l j).size ≤ maxLen)
/-- Settings that lie in memory. -/
def Sets (w : World) (v : Value) (l : List Set1) : Prop :=
  ∃ A c, v = .slice A l.length c ∧ l.length ≤ c ∧ c ≤ maxLen ∧ (0 < l.length → ∃ b off, A = some ⟨b, off, none⟩ ∧ b < w.heap.size ∧ ∀ j, j < l.length →
    w.cell? ⟨b, off + j * 2, none⟩ = some (.string (nthT l j).1) ∧ w.cell? ⟨b, off + j * 2 + 1, none⟩ = some (.string (nthT l j).2) ∧ (nthT l j).1.size ≤ maxLen ∧ (nthT l j).2.size ≤ maxLen)
/-- Variants that lie in memory. -/
def Vars (w : World) (v : Value) (l : List Var) : Prop :=
  ∃ A c, v = .slice A l.length c ∧ l.length ≤ c ∧ c ≤ maxLen ∧ (0 < l.length → ∃ b off, A = some ⟨b, off, none⟩ ∧ b < w.heap.size ∧ ∀ j, j < l.length →
    w.cell? ⟨b, off + j * 2, none⟩ = some (.string (nthV l j).1) ∧ (∃ u, w.cell? ⟨b, off + j * 2 + 1, none⟩ = some u ∧ Strs w u (nthV l j).2) ∧ (nthV l j).1.size ≤ maxLen)

theorem Strs.below {w w' : World} {B : Nat} {v : Value} {l : List ByteArray} (h : Strs w v l) (hb : Below B w w') (hB : w.heap.size ≤ B) : Strs w' v l := by
  obtain ⟨A, c, e, h1, h2, h3⟩ := h
  refine ⟨A, c, e, h1, h2, fun hp => ?_⟩
  obtain ⟨b, off, ha, hlt, hc⟩ := h3 hp
  exact ⟨b, off, ha, Nat.lt_of_lt_of_le hlt hb.size, fun j hj => ⟨(hb.cell (p := ⟨b, off + j, none⟩) (by simp; omega)).trans (hc j hj).1, (hc j hj).2⟩⟩
theorem Sets.below {w w' : World} {B : Nat} {v : Value} {l : List Set1} (h : Sets w v l) (hb : Below B w w') (hB : w.heap.size ≤ B) : Sets w' v l := by
  obtain ⟨A, c, e, h1, h2, h3⟩ := h
  refine ⟨A, c, e, h1, h2, fun hp => ?_⟩
  obtain ⟨b, off, ha, hlt, hc⟩ := h3 hp
  exact ⟨b, off, ha, Nat.lt_of_lt_of_le hlt hb.size, fun j hj => ⟨(hb.cell (p := ⟨b, off + j * 2, none⟩) (by simp; omega)).trans (hc j hj).1, (hb.cell (p := ⟨b, off + j * 2 + 1, none⟩) (by simp; omega)).trans (hc j hj).2.1, (hc j hj).2.2⟩⟩
theorem Vars.below {w w' : World} {B : Nat} {v : Value} {l : List Var} (h : Vars w v l) (hb : Below B w w') (hB : w.heap.size ≤ B) : Vars w' v l := by
  obtain ⟨A, c, e, h1, h2, h3⟩ := h
  refine ⟨A, c, e, h1, h2, fun hp => ?_⟩
  obtain ⟨b, off, ha, hlt, hc⟩ := h3 hp
  refine ⟨b, off, ha, Nat.lt_of_lt_of_le hlt hb.size, fun j hj => ?_⟩
  obtain ⟨g1, ⟨u, g2, g3⟩, g4⟩ := hc j hj
  exact ⟨(hb.cell (p := ⟨b, off + j * 2, none⟩) (by simp; omega)).trans g1, ⟨u, (hb.cell (p := ⟨b, off + j * 2 + 1, none⟩) (by simp; omega)).trans g2, g3.below hb hB⟩, g4⟩

theorem Strs.open' {w : World} {v : Value} {l : List ByteArray} (h : Strs w v l) : ∃ A L c, v = .slice A L c ∧ L = l.length ∧ L ≤ c ∧ c ≤ maxLen ∧
    (0 < L → ∃ b off, A = some ⟨b, off, none⟩ ∧ b < w.heap.size ∧ ∀ j, j < L → w.cell? ⟨b, off + j, none⟩ = some (.string (nthS l j)) ∧ (nthS l j).size ≤ maxLen) := by
  obtain ⟨A, c, e, h1, h2, h3⟩ := h
  exact ⟨A, _, c, e, rfl, h1, h2, h3⟩
theorem Sets.open' {w : World} {v : Value} {l : List Set1} (h : Sets w v l) : ∃ A L c, v = .slice A L c ∧ L = l.length ∧ L ≤ c ∧ c ≤ maxLen ∧
    (0 < L → ∃ b off, A = some ⟨b, off, none⟩ ∧ b < w.heap.size ∧ ∀ j, j < L →
    w.cell? ⟨b, off + j * 2, none⟩ = some (.string (nthT l j).1) ∧ w.cell? ⟨b, off + j * 2 + 1, none⟩ = some (.string (nthT l j).2) ∧ (nthT l j).1.size ≤ maxLen ∧ (nthT l j).2.size ≤ maxLen) := by
  obtain ⟨A, c, e, h1, h2, h3⟩ := h
  exact ⟨A, _, c, e, rfl, h1, h2, h3⟩
theorem Vars.open' {w : World} {v : Value} {l : List Var} (h : Vars w v l) : ∃ A L c, v = .slice A L c ∧ L = l.length ∧ L ≤ c ∧ c ≤ maxLen ∧
    (0 < L → ∃ b off, A = some ⟨b, off, none⟩ ∧ b < w.heap.size ∧ ∀ j, j < L →
    w.cell? ⟨b, off + j * 2, none⟩ = some (.string (nthV l j).1) ∧ (∃ u, w.cell? ⟨b, off + j * 2 + 1, none⟩ = some u ∧ Strs w u (nthV l j).2) ∧ (nthV l j).1.size ≤ maxLen) := by
  obtain ⟨A, c, e, h1, h2, h3⟩ := h
  exact ⟨A, _, c, e, rfl, h1, h2, h3⟩

/-- The first ones alone. -/
theorem Strs.take {w : World} {A : Option Addr} {L c k : Nat} {l : List ByteArray} (h : Strs w (.slice A L c) l) (hk : k ≤ L) : Strs w (.slice A k c) (l.take k) := by
  obtain ⟨A', c', e, h1, h2, h3⟩ := h
  injection e with e1 e2 e3
  subst e1; subst e3; subst e2
  have hl : (l.take k).length = k := by rw [List.length_take]; omega
  refine ⟨A, c, by rw [hl], by omega, h2, fun hp => ?_⟩
  obtain ⟨b, off, ha, hlt, hc⟩ := h3 (by omega)
  refine ⟨b, off, ha, hlt, fun j hj => ?_⟩
  rw [hl] at hj
  have e : nthS (l.take k) j = nthS l j := by unfold nthS; rw [List.getElem?_take, if_pos hj]
  rw [e]; exact hc j (by omega)
theorem Vars.take {w : World} {A : Option Addr} {L c k : Nat} {l : List Var} (h : Vars w (.slice A L c) l) (hk : k ≤ L) : Vars w (.slice A k c) (l.take k) := by
  obtain ⟨A', c', e, h1, h2, h3⟩ := h
  injection e with e1 e2 e3
  subst e1; subst e3; subst e2
  have hl : (l.take k).length = k := by rw [List.length_take]; omega
  refine ⟨A, c, by rw [hl], by omega, h2, fun hp => ?_⟩
  obtain ⟨b, off, ha, hlt, hc⟩ := h3 (by omega)
  refine ⟨b, off, ha, hlt, fun j hj => ?_⟩
  rw [hl] at hj
  have e : nthV (l.take k) j = nthV l j := by unfold nthV; rw [List.getElem?_take, if_pos hj]
  rw [e]; exact hc j (by omega)

/-- A row of settings of the call's own. -/
def cellsT (l : List Set1) : List Value := l.flatMap fun x => [.string x.1, .string x.2]
theorem cellsT_len (l : List Set1) : (cellsT l).length = l.length * 2 := by
  induction l with
  | nil => rfl
  | cons x r ih => simp [cellsT] at ih ⊢; omega
theorem cellsT_get : ∀ (l : List Set1) (j : Nat), j < l.length → (cellsT l)[j * 2]? = some (.string (nthT l j).1) ∧ (cellsT l)[j * 2 + 1]? = some (.string (nthT l j).2)
  | [], _, h => by simp at h
  | x :: l, 0, _ => by simp [cellsT, nthT]
  | x :: l, j + 1, h => by
    have := cellsT_get l j (by simpa using h)
    have e : ∀ i, (cellsT (x :: l))[(j + 1) * 2 + i]? = (cellsT l)[j * 2 + i]? := by
      intro i
      unfold cellsT
      rw [List.flatMap_cons, List.getElem?_append_right (by simp; omega)]
      congr 1
      simp; omega
    have en : nthT (x :: l) (j + 1) = nthT l j := by simp [nthT]
    rw [en]
    exact ⟨(e 0).trans this.1, (e 1).trans this.2⟩
theorem cellsT_app (a b : List Set1) : cellsT (a ++ b) = cellsT a ++ cellsT b := by simp [cellsT]
theorem cellsT_one (l : List Set1) : ∀ u ∈ cellsT l, u.oneCell' = true := by
  intro u hu; unfold cellsT at hu; simp at hu
  obtain ⟨x, y, _, h | h⟩ := hu <;> subst h <;> rfl

def OwnT (w : World) (base : Nat) (v : Value) (l : List Set1) : Prop := w.ownsRow base 78 2 v l.length (cellsT l)

theorem OwnT.sets {w : World} {base : Nat} {v : Value} {l : List Set1} (h : OwnT w base v l) (hs : ∀ x ∈ l, x.1.size ≤ maxLen ∧ x.2.size ≤ maxLen) : Sets w v l := by
  rcases h.2 with ⟨rfl, h0⟩ | ⟨g, cap, cur, rfl, hg, hh, h1, h2, _, h4⟩
  · exact ⟨none, 0, by rw [h0], by omega, by simp [maxLen], fun hp => by omega⟩
  · refine ⟨some ⟨g, 0, none⟩, cap, rfl, h1, h2, fun _ => ⟨g, 0, rfl, lt_of_heap hh, fun j hj => ?_⟩⟩
    have hc : ∀ i u, (cellsT l)[i]? = some u → w.cell? ⟨g, i, none⟩ = some u := by
      intro i u hu
      refine cells_get hh i ?_
      rw [← h4, List.getElem?_take] at hu
      split at hu
      · simpa using hu
      · cases hu
    obtain ⟨q1, q2⟩ := cellsT_get l j hj
    have := hs _ (nthT_mem hj)
    exact ⟨by rw [Nat.zero_add]; exact hc _ _ q1, by rw [Nat.zero_add]; exact hc _ _ q2, this⟩

theorem OwnT.touch {w w' : World} {base : Nat} {v : Value} {l : List Set1} {S : Nat → Prop} (h : OwnT w base v l) (ht : Touch w w' S) (hS : ∀ g, v.ownBlock = some g → ¬ S g) : OwnT w' base v l := own_touch h ht hS
theorem OwnT.below {w w' : World} {base : Nat} {v : Value} {l : List Set1} (h : OwnT w base v l) (hb : Below w.heap.size w w') : OwnT w' base v l := own_touch h (Touch.of_below (S := fun _ => False) hb) (fun _ _ h => h)
theorem OwnT.base {w : World} {base base' : Nat} {v : Value} {l : List Set1} (h : OwnT w base v l) (hb : base' ≤ base) : OwnT w base' v l := ownsRow_base h hb
theorem OwnT.slice {w : World} {base : Nat} {v : Value} {l : List Set1} (h : OwnT w base v l) : ∃ A c, v = .slice A l.length c := by
  rcases own_len h with ⟨e, h0⟩ | ⟨g, cap, e⟩
  · exact ⟨none, 0, by rw [e, h0]⟩
  · exact ⟨_, _, e⟩
theorem own_nilT (w : World) (base : Nat) : OwnT w base (.slice none 0 0) [] := ⟨rfl, .inl ⟨rfl, rfl⟩⟩

theorem set_info : (Try.prog.info? 78).map (fun i => (i.zero, i.size, i.bytes)) = some (some (.agg #[.string ⟨#[]⟩, .string ⟨#[]⟩]), 2, 32) := by kernel_rfl
theorem sets_info : (Try.prog.info? 71).map (fun i => (i.zero, i.size, i.bytes)) = some (some (.slice none 0 0), 1, 24) := by kernel_rfl

end Go.Proofs.Ytggejmojbebhfaa.Va
