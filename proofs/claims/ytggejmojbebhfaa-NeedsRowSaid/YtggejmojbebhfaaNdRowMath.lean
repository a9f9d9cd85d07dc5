/- Ranks of versions that are all unlike: plain mathematics. -/
import Derived.Test.YtggejmojbebhfaaNdRank
namespace Go.Proofs.Ytggejmojbebhfaa.Rc
open Go.RowKit

def vMay (s : ByteArray) : Bool := Ver.may s.data.toList
def cmpV (a b : ByteArray) : Int := Ver.compare a.data.toList b.data.toList
def nw (v r : ByteArray) : Bool := decide (cmpV r v = 1)
def rels0 (l : List ByteArray) : List Rel := l.map fun s => (s, false)
def rowPkg (l : List ByteArray) : Pkg := ⟨⟨#[]⟩, 0, rels0 l, [], [], [], [], []⟩
def rnkV (l : List ByteArray) (v : ByteArray) : Nat := (l.filter (nw v)).length
def rnk (l : List ByteArray) (k : Nat) : Nat := rnkV l (nth l k)
theorem cnt_lt {α : Type} {p q : α → Bool} : ∀ (l : List α), (∀ x ∈ l, p x = true → q x = true) → (∃ x ∈ l, q x = true ∧ p x = false) → (l.filter p).length < (l.filter q).length
  | [], _, h => by obtain ⟨_, h, _⟩ := h; cases h
  | a :: l, h, hx => by
    have hle : ∀ l' : List α, (∀ x ∈ l', p x = true → q x = true) → (l'.filter p).length ≤ (l'.filter q).length := fun l' h' => by
      induction l' with
      | nil => simp
      | cons b l' ih =>
        have i := ih fun x hx => h' x (List.mem_cons_of_mem _ hx)
        have hb := h' b List.mem_cons_self
        simp only [List.filter_cons]
        cases hp : p b <;> cases hq : q b <;> simp_all <;> omega
    obtain ⟨x, hm, hq, hp⟩ := hx
    have ha := h a List.mem_cons_self
    have ht : ∀ x ∈ l, p x = true → q x = true := fun x hx => h x (List.mem_cons_of_mem _ hx)
    have hl := hle l ht
    simp only [List.filter_cons]
    rcases List.mem_cons.1 hm with rfl | hm
    · rw [hq, hp]; simp; omega
    · have i := cnt_lt l ht ⟨x, hm, hq, hp⟩
      cases hp' : p a <;> cases hq' : q a <;> simp_all <;> omega
theorem rank_in {l : List ByteArray} {v : ByteArray} (hv : v ∈ l) : rankI (rowPkg l) v = (rnkV l v : Nat) := by
  have ha : (rowPkg l).rels.any (fun r => relIs r v) = true := List.any_eq_true.2 ⟨(v, false), List.mem_map.2 ⟨v, hv, rfl⟩, by unfold relIs; exact Va.eqS_iff.2 rfl⟩
  rw [rankI_yes ha]
  congr 1
  unfold cntK rnkV
  rw [List.take_length]
  show ((l.map fun s => ((s, false) : Rel)).filter (fun r => newer r v)).length = _
  rw [List.filter_map, List.length_map]
  rfl
theorem nw_self (v : ByteArray) : nw v v = false := by unfold nw cmpV; rw [Ver.compare_self]; rfl
theorem rnkV_lt {l : List ByteArray} {v : ByteArray} (hv : v ∈ l) : rnkV l v < l.length := by
  have h := cnt_lt (p := nw v) (q := fun _ => true) l (fun _ _ _ => rfl) ⟨v, hv, rfl, nw_self v⟩
  have e : (l.filter (fun _ => true)) = l := List.filter_eq_self.2 fun _ _ => rfl
  rw [e] at h
  exact h
theorem rnkV_less {l : List ByteArray} {v w : ByteArray} (hw : w ∈ l) (h : cmpV v w = -1) : rnkV l w < rnkV l v := by
  have h1 : cmpV w v = 1 := by unfold cmpV at h ⊢; rw [Ver.compare_anti v.data.toList w.data.toList, h]; rfl
  refine cnt_lt l (fun x _ hx => ?_) ⟨w, hw, by unfold nw; rw [h1]; rfl, nw_self w⟩
  unfold nw at hx ⊢
  rw [decide_eq_true_eq] at hx ⊢
  rcases Ver.compare_range x.data.toList v.data.toList with e | e | e
  · have := Ver.compare_trans x.data.toList v.data.toList w.data.toList (by rw [e]; decide) (by unfold cmpV at h; rw [h]; decide)
    unfold cmpV at hx
    omega
  · have := Ver.compare_trans x.data.toList v.data.toList w.data.toList (by rw [e]; decide) (by unfold cmpV at h; rw [h]; decide)
    unfold cmpV at hx
    omega
  · exact e
theorem rnkV_ne {l : List ByteArray} {v w : ByteArray} (hv : v ∈ l) (hw : w ∈ l) (mv : vMay v = true) (hne : v ≠ w) : rnkV l v ≠ rnkV l w := by
  rcases Ver.compare_range v.data.toList w.data.toList with e | e | e
  · have := rnkV_less (v := v) hw e; omega
  · rcases Ver.compare_eq e with h | h
    · exact absurd (ByteArray.ext (Array.ext' h)) hne
    · unfold vMay at mv; rw [h.1] at mv; cases mv
  · have h1 : cmpV w v = -1 := by unfold cmpV; rw [Ver.compare_anti v.data.toList w.data.toList, e]
    have := rnkV_less (v := w) hv h1; omega
theorem rank_nth {l : List ByteArray} {k : Nat} (hk : k < l.length) : rankI (rowPkg l) (nth l k) = (rnk l k : Nat) := rank_in (nth_mem hk)
theorem rnk_lt {l : List ByteArray} {k : Nat} (hk : k < l.length) : rnk l k < l.length := rnkV_lt (nth_mem hk)
theorem rnk_less {l : List ByteArray} {k m : Nat} (hm : m < l.length) (h : Ver.less (nth l k).data.toList (nth l m).data.toList = true) : rnk l m < rnk l k := rnkV_less (nth_mem hm) (by unfold Ver.less at h; exact of_decide_eq_true h)
theorem nth_inj {l : List ByteArray} (hn : l.Nodup) {k m : Nat} (hk : k < l.length) (hm : m < l.length) (h : nth l k = nth l m) : k = m := by
  rw [nth_lt hk, nth_lt hm] at h
  exact (List.getElem_inj hn).1 h
theorem rnk_ne {l : List ByteArray} (hn : l.Nodup) (hmay : ∀ x ∈ l, vMay x = true) {k m : Nat} (hk : k < l.length) (hm : m < l.length) (hne : m ≠ k) : rnk l m ≠ rnk l k :=
  rnkV_ne (nth_mem hm) (nth_mem hk) (hmay _ (nth_mem hm)) fun e => hne (nth_inj hn hm hk e)
def seenB (l : List ByteArray) (k j : Nat) : Bool := (List.range k).any fun m => rnk l m == j
theorem seenB_zero (l : List ByteArray) (j : Nat) : seenB l 0 j = false := rfl
theorem seenB_succ (l : List ByteArray) (k j : Nat) : seenB l (k + 1) j = (seenB l k j || (rnk l k == j)) := by unfold seenB; rw [List.range_succ, List.any_append]; simp
theorem seenB_own {l : List ByteArray} (hn : l.Nodup) (hmay : ∀ x ∈ l, vMay x = true) {k : Nat} (hk : k < l.length) : seenB l k (rnk l k) = false := by
  unfold seenB
  rw [List.any_eq_false]
  intro m hm
  have hm := List.mem_range.1 hm
  have := rnk_ne hn hmay hk (m := m) (by omega) (by omega)
  simpa using this
/-- What has been seen, in cells. -/
def Seen (l : List ByteArray) (k : Nat) (cs : Array Value) : Prop := cs.size = l.length ∧ ∀ j, j < l.length → cs[j]? = some (.bool (seenB l k j))
theorem Seen.step {l : List ByteArray} {k : Nat} {cs : Array Value} (h : Seen l k cs) (hk : k < l.length) : Seen l (k + 1) (cs.setIfInBounds (rnk l k) (.bool true)) := by
  have hr := rnk_lt hk
  refine ⟨by rw [Array.size_setIfInBounds, h.1], fun j hj => ?_⟩
  rw [Array.getElem?_setIfInBounds, seenB_succ]
  by_cases e : rnk l k = j
  · subst e; simp [h.1, hr]
  · have e2 : (rnk l k == j) = false := by simpa using e
    simp [e, e2, h.2 j hj]
end Go.Proofs.Ytggejmojbebhfaa.Rc
