/- What may be needed: plain mathematics. -/
import Derived.Test.YtaahdhpljlkfjaaGreatZg04
import Derived.Lib.SlKeysI
namespace Go.Proofs.YtaahdhpljlkfjaaGreat.Rc
open Go.RowKit

/-- What a name may be. -/
def targs (x : Rec) (s : ByteArray) : List Int := if knownB x s then [findR x s] else provs x s
theorem targs_range {x : Rec} {s : ByteArray} {t : Int} (h : t ∈ targs x s) : 0 ≤ t ∧ t < x.pkgs.length := by
  unfold targs at h
  split at h
  · next hk =>
    simp at h
    subst h
    have h0 : 0 ≤ idx (fun p => nameIs p s) x.pkgs := by
      have := idx_any (fun p => nameIs p s) x.pkgs
      rw [show (x.pkgs.any fun p => nameIs p s) = true from hk] at this
      simpa using this
    obtain ⟨k, hk, hl, _⟩ := idx_at h0
    exact ⟨h0, by rw [show findR x s = k from hk]; omega⟩
  · unfold provs at h
    rw [List.mem_map] at h
    obtain ⟨i, hi, rfl⟩ := h
    rw [List.mem_filter, List.mem_range] at hi
    exact ⟨by omega, by omega⟩
theorem targs_known {x : Rec} {s : ByteArray} (h : knownB x s = true) : targs x s = [findR x s] := by unfold targs; rw [if_pos h]
theorem targs_not {x : Rec} {s : ByteArray} (h : knownB x s = false) : targs x s = provs x s := by unfold targs; rw [h]; rfl
theorem targs_len (x : Rec) (s : ByteArray) : (targs x s).length ≤ x.pkgs.length + 1 := by
  unfold targs
  split
  · simp
  · exact Nat.le_trans (provsK_le x s _) (by omega)

def add1 (m : List Int) (t : Int) : List Int := if t ∈ m then m else m ++ [t]
def addAll (m ts : List Int) : List Int := ts.foldl add1 m
theorem add1_yes {m : List Int} {t : Int} (h : t ∈ m) : add1 m t = m := by unfold add1; rw [if_pos h]
theorem add1_no {m : List Int} {t : Int} (h : t ∉ m) : add1 m t = m ++ [t] := by unfold add1; rw [if_neg h]
theorem add1_nodup {m : List Int} (h : m.Nodup) (t : Int) : (add1 m t).Nodup := by
  unfold add1
  split
  · exact h
  · next hn =>
    rw [List.nodup_append]
    refine ⟨h, by simp, fun a ha b hb => ?_⟩
    simp at hb
    subst hb
    rintro rfl
    exact hn ha
theorem add1_mem {m : List Int} {t y : Int} : y ∈ add1 m t ↔ y ∈ m ∨ y = t := by
  unfold add1
  split
  · next h =>
    constructor
    · exact .inl
    · rintro (h' | rfl)
      · exact h'
      · exact h
  · simp
theorem add1_pre (m : List Int) (t : Int) : ∃ e, add1 m t = m ++ e := by
  unfold add1
  split
  · exact ⟨[], by simp⟩
  · exact ⟨_, rfl⟩
theorem addAll_nil (m : List Int) : addAll m [] = m := rfl
theorem addAll_snoc {m ts : List Int} {k : Nat} (h : k < ts.length) : addAll m (ts.take (k + 1)) = add1 (addAll m (ts.take k)) (nth ts k) := by
  unfold addAll
  rw [take_snoc h, List.foldl_append]
  rfl
theorem addAll_nodup : ∀ (ts : List Int) {m : List Int}, m.Nodup → (addAll m ts).Nodup
  | [], _, h => h
  | t :: ts, _, h => addAll_nodup ts (add1_nodup h t)
theorem addAll_mem : ∀ (ts : List Int) {m : List Int} {y : Int}, y ∈ addAll m ts ↔ y ∈ m ∨ y ∈ ts
  | [], _, _ => by simp [addAll]
  | t :: ts, m, y => by
    show y ∈ addAll (add1 m t) ts ↔ _
    rw [addAll_mem ts, add1_mem, List.mem_cons, or_assoc]
theorem addAll_pre : ∀ (ts : List Int) (m : List Int), ∃ e, addAll m ts = m ++ e
  | [], m => ⟨[], by simp [addAll]⟩
  | t :: ts, m => by
    obtain ⟨e1, h1⟩ := add1_pre m t
    obtain ⟨e2, h2⟩ := addAll_pre ts (add1 m t)
    exact ⟨e1 ++ e2, by show addAll (add1 m t) ts = _; rw [h2, h1, List.append_assoc]⟩

/-- The package at a place. -/
def pk (x : Rec) (i : Int) : Pkg := nth x.pkgs i.toNat
inductive Reach (x : Rec) (q : List Root) : Int → Prop
  | root {r : Root} {t : Int} (h : r ∈ q) (ht : t ∈ targs x r.spec.name) : Reach x q t
  | dep {i t : Int} {d : Two} (h : Reach x q i) (hd : d ∈ (pk x i).deps) (ht : t ∈ targs x d.a.name) : Reach x q t
theorem Reach.range {x : Rec} {q : List Root} {t : Int} (h : Reach x q t) : 0 ≤ t ∧ t < x.pkgs.length := by
  cases h with
  | root h ht => exact targs_range ht
  | dep h hd ht => exact targs_range ht
theorem Reach.mono {x : Rec} {q p : List Root} (hs : ∀ r ∈ q, r ∈ p) {t : Int} (h : Reach x q t) : Reach x p t := by
  induction h with
  | root h ht => exact .root (hs _ h) ht
  | dep _ hd ht ih => exact .dep ih hd ht
theorem Reach.both {x : Rec} {q p : List Root} {t : Int} : Reach x (q ++ p) t ↔ Reach x q t ∨ Reach x p t := by
  constructor
  · intro h
    induction h with
    | root h ht =>
      rw [List.mem_append] at h
      exact h.imp (fun h => .root h ht) (fun h => .root h ht)
    | dep _ hd ht ih => exact ih.imp (fun h => .dep h hd ht) (fun h => .dep h hd ht)
  · rintro (h | h)
    · exact h.mono fun r hr => List.mem_append.2 (.inl hr)
    · exact h.mono fun r hr => List.mem_append.2 (.inr hr)

open Classical in
/-- What may be needed, in order. -/
noncomputable def closeL (x : Rec) (q : List Root) : List Int := ((List.range x.pkgs.length).filter fun (i : Nat) => decide (Reach x q (i : Int))).map fun (i : Nat) => (i : Int)
theorem closeL_mem {x : Rec} {q : List Root} {t : Int} : t ∈ closeL x q ↔ Reach x q t := by
  unfold closeL
  rw [List.mem_map]
  constructor
  · rintro ⟨i, hi, rfl⟩
    rw [List.mem_filter] at hi
    simpa using hi.2
  · intro h
    have hr := h.range
    refine ⟨t.toNat, ?_, by omega⟩
    rw [List.mem_filter, List.mem_range]
    refine ⟨by omega, ?_⟩
    rw [show ((t.toNat : Nat) : Int) = t by omega]
    simpa using h
theorem closeL_sorted (x : Rec) (q : List Root) : (closeL x q).Pairwise (· < ·) := by
  unfold closeL
  rw [List.pairwise_map]
  have h : (List.range x.pkgs.length).Pairwise fun a b => ((a : Nat) : Int) < ((b : Nat) : Int) := List.pairwise_lt_range.imp (by intro a b h; omega)
  exact h.filter _
theorem closeL_len (x : Rec) (q : List Root) : (closeL x q).length ≤ x.pkgs.length := by
  unfold closeL
  rw [List.length_map]
  exact Nat.le_trans (List.length_filter_le _ _) (by simp)
theorem leI_sorted {l : List Int} (h : l.Pairwise (· < ·)) : l.Pairwise (fun a b => leI a b = true) := h.imp fun {a b} (h : a < b) => decide_eq_true (Int.le_of_lt h)
/-- Whatever order they came in. -/
theorem sorted_is {l m : List Int} (hl : l.Nodup) (hm : m.Pairwise (· < ·)) (h : ∀ t, t ∈ l ↔ t ∈ m) : l.mergeSort leI = m := by
  have tr : ∀ a b c : Int, leI a b = true → leI b c = true → leI a c = true := fun a b c h1 h2 => by simp only [leI, decide_eq_true_eq] at *; exact Int.le_trans h1 h2
  have to : ∀ a b : Int, (leI a b || leI b a) = true := fun a b => by simp only [leI, Bool.or_eq_true, decide_eq_true_eq]; exact Int.le_total a b
  have hmn : m.Nodup := hm.imp fun {a b} h => by omega
  refine List.Perm.eq_of_pairwise (le := fun a b => leI a b = true) (fun a b _ _ h1 h2 => ?_) (List.pairwise_mergeSort tr to l) (leI_sorted hm) ((List.mergeSort_perm l leI).trans ((List.perm_ext_iff_of_nodup hl hmn).2 h))
  simp only [leI, decide_eq_true_eq] at h1 h2
  exact Int.le_antisymm h1 h2

/-- Between two packages of the work. -/
structure Bfs (x : Rec) (q : List Root) (met : List Int) (p : Nat) : Prop where
  nodup : met.Nodup
  sound : ∀ i ∈ met, Reach x q i
  roots : ∀ r ∈ q, ∀ t ∈ targs x r.spec.name, t ∈ met
  done : ∀ j, j < p → ∀ d ∈ (pk x (nth met j)).deps, ∀ t ∈ targs x d.a.name, t ∈ met
  le : p ≤ met.length
theorem len_of_sound {x : Rec} {q : List Root} {met : List Int} (hn : met.Nodup) (h : ∀ i ∈ met, Reach x q i) : met.length ≤ x.pkgs.length := by
  refine Nat.le_trans (List.Nodup.length_le_of_subset hn (l₂ := (List.range x.pkgs.length).map fun (i : Nat) => (i : Int)) fun t ht => ?_) (by simp)
  have := (h t ht).range
  rw [List.mem_map]
  exact ⟨t.toNat, by rw [List.mem_range]; omega, by omega⟩
theorem Bfs.len {x : Rec} {q : List Root} {met : List Int} {p : Nat} (h : Bfs x q met p) : met.length ≤ x.pkgs.length := len_of_sound h.nodup h.sound
theorem Bfs.end {x : Rec} {q : List Root} {met : List Int} {p : Nat} (h : Bfs x q met p) (hp : met.length ≤ p) : met.mergeSort leI = closeL x q := by
  refine sorted_is h.nodup (closeL_sorted x q) fun t => ?_
  rw [closeL_mem]
  refine ⟨h.sound t, fun hr => ?_⟩
  induction hr with
  | root hr ht => exact h.roots _ hr _ ht
  | dep _ hd ht ih =>
    obtain ⟨j, hj, rfl⟩ := List.mem_iff_getElem.1 ih
    refine h.done j (by omega) _ ?_ _ ht
    rw [nth_lt hj]; exact hd
/-- While the roots are read. -/
structure Roots (x : Rec) (q : List Root) (met : List Int) (k : Nat) : Prop where
  nodup : met.Nodup
  sound : ∀ i ∈ met, Reach x q i
  roots : ∀ r ∈ q.take k, ∀ t ∈ targs x r.spec.name, t ∈ met
theorem Roots.start (x : Rec) (q : List Root) : Roots x q [] 0 := ⟨List.nodup_nil, fun i h => (by cases h), fun r h => (by simp at h)⟩
theorem Roots.step {x : Rec} {q : List Root} {met : List Int} {k : Nat} (h : Roots x q met k) (hk : k < q.length) : Roots x q (addAll met (targs x (nth q k).spec.name)) (k + 1) := by
  refine ⟨addAll_nodup _ h.nodup, fun i hi => ?_, fun r hr t ht => ?_⟩
  · rcases (addAll_mem _).1 hi with hi | hi
    · exact h.sound i hi
    · exact .root (nth_mem hk) hi
  · rw [take_snoc hk, List.mem_append] at hr
    rcases hr with hr | hr
    · exact (addAll_mem _).2 (.inl (h.roots r hr t ht))
    · simp at hr
      subst hr
      exact (addAll_mem _).2 (.inr ht)
theorem Roots.bfs {x : Rec} {q : List Root} {met : List Int} {k : Nat} (h : Roots x q met k) (hk : q.length ≤ k) : Bfs x q met 0 :=
  ⟨h.nodup, h.sound, fun r hr => h.roots r (by rw [List.take_of_length_le hk]; exact hr), fun j hj => by omega, Nat.zero_le _⟩
/-- While the depends of the package met[p] are read. -/
structure Deps (x : Rec) (q : List Root) (ds : List Two) (met : List Int) (p k : Nat) : Prop where
  bfs : Bfs x q met p
  lt : p < met.length
  eqs : ds = (pk x (nth met p)).deps
  here : ∀ d ∈ ds.take k, ∀ t ∈ targs x d.a.name, t ∈ met
theorem Deps.start {x : Rec} {q : List Root} {met : List Int} {p : Nat} (h : Bfs x q met p) (hp : p < met.length) : Deps x q (pk x (nth met p)).deps met p 0 := ⟨h, hp, rfl, fun d hd => by simp at hd⟩
theorem nth_app {l e : List Int} {j : Nat} (h : j < l.length) : nth (l ++ e) j = nth l j := by unfold nth; rw [List.getElem?_append_left h]
theorem Deps.step {x : Rec} {q : List Root} {ds : List Two} {met : List Int} {p k : Nat} (h : Deps x q ds met p k) (hk : k < ds.length) : Deps x q ds (addAll met (targs x (nth ds k).a.name)) p (k + 1) := by
  obtain ⟨⟨h1, h2, h3, h4, h5⟩, h6, h7, h8⟩ := h
  obtain ⟨e, he⟩ := addAll_pre (targs x (nth ds k).a.name) met
  have hle : met.length ≤ (addAll met (targs x (nth ds k).a.name)).length := by rw [he, List.length_append]; omega
  have hnth : ∀ j, j < met.length → nth (addAll met (targs x (nth ds k).a.name)) j = nth met j := fun j hj => by rw [he, nth_app hj]
  refine ⟨⟨addAll_nodup _ h1, fun i hi => ?_, fun r hr t ht => (addAll_mem _).2 (.inl (h3 r hr t ht)), fun j hj d hd t ht => ?_, by omega⟩, by omega, by rw [hnth p h6]; exact h7, fun d hd t ht => ?_⟩
  · rcases (addAll_mem _).1 hi with hi | hi
    · exact h2 i hi
    · exact .dep (h2 _ (nth_mem h6)) (by rw [← h7]; exact nth_mem hk) hi
  · rw [hnth j (by omega)] at hd
    exact (addAll_mem _).2 (.inl (h4 j hj d hd t ht))
  · rw [take_snoc hk, List.mem_append] at hd
    rcases hd with hd | hd
    · exact (addAll_mem _).2 (.inl (h8 d hd t ht))
    · simp at hd
      subst hd
      exact (addAll_mem _).2 (.inr ht)
theorem Deps.finish {x : Rec} {q : List Root} {ds : List Two} {met : List Int} {p k : Nat} (h : Deps x q ds met p k) (hk : ds.length ≤ k) : Bfs x q met (p + 1) := by
  obtain ⟨⟨h1, h2, h3, h4, h5⟩, h6, h7, h8⟩ := h
  refine ⟨h1, h2, h3, fun j hj d hd t ht => ?_, by omega⟩
  by_cases e : j = p
  · subst e
    rw [← h7] at hd
    exact h8 d (by rw [List.take_of_length_le hk]; exact hd) t ht
  · exact h4 j (by omega) d hd t ht
end Go.Proofs.YtaahdhpljlkfjaaGreat.Rc
