/- Ways and ways round, in plain words: what a search by steps finds, and what the law's own way of taking places out finds. -/
namespace Go.Proofs.Ytiimhndiifojnaa.Or

def nth (l : List Nat) (i : Nat) : Nat := l.getD i 0
theorem nth_get {l : List Nat} {i : Nat} (h : i < l.length) : l[i]? = some (nth l i) := by unfold nth; simp [List.getD_eq_getElem?_getD, h]
theorem nth_mem {l : List Nat} {i : Nat} (h : i < l.length) : nth l i ∈ l := List.mem_of_getElem? (nth_get h)
theorem mem_nth {l : List Nat} {x : Nat} (h : x ∈ l) : ∃ i, i < l.length ∧ nth l i = x := by
  obtain ⟨i, hi, e⟩ := List.getElem_of_mem h
  exact ⟨i, hi, by unfold nth; simp [List.getD_eq_getElem?_getD, hi, e]⟩
theorem nth_append_left {l r : List Nat} {i : Nat} (h : i < l.length) : nth (l ++ r) i = nth l i := by
  unfold nth; simp [List.getD_eq_getElem?_getD, List.getElem?_append_left h]
theorem nth_append_last {l : List Nat} {x : Nat} : nth (l ++ [x]) l.length = x := by
  unfold nth; simp [List.getD_eq_getElem?_getD]
theorem nth_set {l : List Nat} {i j x : Nat} (h : i < l.length) : nth (l.set i x) j = if j = i then x else nth l j := by
  unfold nth
  by_cases e : j = i
  · subst e; rw [if_pos rfl]; simp [List.getD_eq_getElem?_getD, h]
  · rw [if_neg e]; simp [List.getD_eq_getElem?_getD, List.getElem?_set_ne (Ne.symm e)]
theorem nth_inj {l : List Nat} (h : l.Nodup) {i j : Nat} (hi : i < l.length) (hj : j < l.length) (e : nth l i = nth l j) : i = j := by
  have h1 := nth_get hi
  have h2 := nth_get hj
  rw [e] at h1
  exact (List.getElem?_inj hi h).1 (h1.trans h2.symm)
theorem nth_reverse {l : List Nat} {i : Nat} (h : i < l.length) : nth l.reverse i = nth l (l.length - 1 - i) := by
  unfold nth; simp [List.getD_eq_getElem?_getD, List.getElem?_reverse h]
theorem nth_drop {l : List Nat} {m i : Nat} : nth (l.drop m) i = nth l (m + i) := by
  unfold nth; simp [List.getD_eq_getElem?_getD]

/-! Edges: place p has 'Ln p' of them, the i-th leads to 'Z p i'; those that lead to no place count for nothing. -/
def Edge (Ln : Nat → Nat) (Z : Nat → Nat → Int) (p t : Nat) : Prop := ∃ i, i < Ln p ∧ Z p i = (t : Int)

/-- A way of at least one edge among the first n places. -/
def Way (n : Nat) (Ln : Nat → Nat) (Z : Nat → Nat → Int) (p t : Nat) : Prop :=
  ∀ S : Nat → Prop, (∀ u, u < n → Edge Ln Z p u → S u) → (∀ u v, S u → v < n → Edge Ln Z u v → S v) → S t

def Round (n : Nat) (Ln : Nat → Nat) (Z : Nat → Nat → Int) : Prop := ∃ p, p < n ∧ Way n Ln Z p p

section
variable {n : Nat} {Ln : Nat → Nat} {Z : Nat → Nat → Int}

theorem Way.one {p t : Nat} (ht : t < n) (h : Edge Ln Z p t) : Way n Ln Z p t := fun _ h1 _ => h1 t ht h
theorem Way.snoc {p t u : Nat} (h : Way n Ln Z p t) (hu : u < n) (he : Edge Ln Z t u) : Way n Ln Z p u := fun S h1 h2 => h2 t u (h S h1 h2) hu he
theorem Way.cons {p t u : Nat} (ht : t < n) (he : Edge Ln Z p t) (h : Way n Ln Z t u) : Way n Ln Z p u := fun S h1 h2 =>
  h S (fun v hv e => h2 t v (h1 t ht he) hv e) h2
theorem Way.trans {p t u : Nat} (h : Way n Ln Z p t) (k : Way n Ln Z t u) : Way n Ln Z p u := fun S h1 h2 =>
  k S (fun v hv e => h2 t v (h S h1 h2) hv e) h2
theorem Way.first {p t : Nat} (h : Way n Ln Z p t) : ∃ v, v < n ∧ Edge Ln Z p v ∧ (v = t ∨ Way n Ln Z v t) :=
  h (fun x => ∃ v, v < n ∧ Edge Ln Z p v ∧ (v = x ∨ Way n Ln Z v x)) (fun u hu e => ⟨u, hu, e, .inl rfl⟩) fun x y ⟨v, hv, e, hx⟩ hy exy =>
    ⟨v, hv, e, .inr (by rcases hx with rfl | hx; exact Way.one hy exy; exact hx.snoc hy exy)⟩
theorem Way.lt {p t : Nat} (h : Way n Ln Z p t) : t < n := h (fun x => x < n) (fun _ hu _ => hu) (fun _ _ _ hv _ => hv)

/-- A way round, written out. -/
structure Cyc (n : Nat) (Ln : Nat → Nat) (Z : Nat → Nat → Int) (l : List Nat) : Prop where
  pos : 0 < l.length
  lt : ∀ i, i < l.length → nth l i < n
  next : ∀ i, i < l.length → Edge Ln Z (nth l i) (nth l ((i + 1) % l.length))
  nodup : l.Nodup

theorem Cyc.round {l : List Nat} (h : Cyc n Ln Z l) : Round n Ln Z := by
  have hp := h.pos
  refine ⟨nth l 0, h.lt 0 hp, fun S h1 h2 => ?_⟩
  have all : ∀ k, k < l.length → S (nth l ((k + 1) % l.length)) := by
    intro k
    induction k with
    | zero => intro hk; exact h1 _ (h.lt _ (Nat.mod_lt _ hp)) (h.next 0 hk)
    | succ k ih =>
      intro hk
      have := ih (by omega)
      rw [Nat.mod_eq_of_lt hk] at this
      exact h2 _ _ this (h.lt _ (Nat.mod_lt _ hp)) (h.next (k + 1) hk)
  have := all (l.length - 1) (by omega)
  rwa [Nat.sub_add_cancel hp, Nat.mod_self] at this

/-! How many of the first n numbers are so. -/
open Classical in
noncomputable def cnt (p : Nat → Prop) : Nat → Nat
  | 0 => 0
  | n + 1 => cnt p n + (if p n then 1 else 0)
theorem cnt_le (p : Nat → Prop) (n : Nat) : cnt p n ≤ n := by
  induction n with
  | zero => exact Nat.le_refl _
  | succ n ih => unfold cnt; split <;> omega
theorem cnt_mono {p q : Nat → Prop} {n : Nat} (h : ∀ i, i < n → p i → q i) : cnt p n ≤ cnt q n := by
  induction n with
  | zero => exact Nat.le_refl _
  | succ n ih =>
    have := ih fun i hi => h i (by omega)
    unfold cnt
    by_cases hp : p n
    · rw [if_pos hp, if_pos (h n (by omega) hp)]; omega
    · rw [if_neg hp]; split <;> omega
theorem cnt_lt {p q : Nat → Prop} {n : Nat} (h : ∀ i, i < n → p i → q i) {x : Nat} (hx : x < n) (hq : q x) (hp : ¬ p x) : cnt p n < cnt q n := by
  induction n with
  | zero => omega
  | succ n ih =>
    unfold cnt
    by_cases e : x = n
    · subst e
      rw [if_neg hp, if_pos hq]
      have := cnt_mono (p := p) (q := q) (n := x) fun i hi => h i (by omega)
      omega
    · have := ih (fun i hi => h i (by omega)) (by omega)
      by_cases hpn : p n
      · rw [if_pos hpn, if_pos (h n (by omega) hpn)]; omega
      · rw [if_neg hpn]; split <;> omega
theorem cnt_full {p : Nat → Prop} {n : Nat} (h : n ≤ cnt p n) : ∀ i, i < n → p i := by
  induction n with
  | zero => intro i hi; omega
  | succ n ih =>
    intro i hi
    have hl := cnt_le p n
    unfold cnt at h
    by_cases hp : p n
    · rw [if_pos hp] at h
      by_cases e : i = n
      · rw [e]; exact hp
      · exact ih (by omega) i (by omega)
    · rw [if_neg hp] at h; omega

/-- Where each of some places leads to another one of them there is a way round. -/
theorem closed_round {U : Nat → Prop} (hU : ∀ u, U u → u < n ∧ ∃ v, U v ∧ Edge Ln Z u v) {p : Nat} (hp : U p) : Round n Ln Z := by
  apply Classical.byContradiction
  intro hno
  have none : ∀ m u, U u → cnt (fun v => Way n Ln Z u v) n ≤ m → False := by
    intro m
    induction m with
    | zero =>
      intro u hu hm
      obtain ⟨h1, v, hv, he⟩ := hU u hu
      have hvn := (hU v hv).1
      have := cnt_lt (p := fun _ => False) (q := fun v => Way n Ln Z u v) (n := n) (fun _ _ h => h.elim) hvn (Way.one hvn he) id
      omega
    | succ m ih =>
      intro u hu hm
      obtain ⟨h1, v, hv, he⟩ := hU u hu
      have hvn := (hU v hv).1
      have := cnt_lt (p := fun x => Way n Ln Z v x) (q := fun x => Way n Ln Z u x) (n := n) (fun x _ h => Way.cons hvn he h) hvn (Way.one hvn he) (fun h => hno ⟨v, hvn, h⟩)
      exact ih v hv (by omega)
  exact none _ p hp (Nat.le_refl _)

/-- No row of unlike places is longer than there are places. -/
theorem nodup_le {l : List Nat} (h : l.Nodup) (hl : ∀ x ∈ l, x < n) : l.length ≤ n := by
  have hp : l.Perm ((List.range n).filter (fun x => decide (x ∈ l))) := by
    rw [List.perm_ext_iff_of_nodup h (List.Pairwise.filter _ List.nodup_range)]
    intro x
    rw [List.mem_filter, List.mem_range]
    simp only [decide_eq_true_eq]
    exact ⟨fun hx => ⟨hl x hx, hx⟩, fun hx => hx.2⟩
  rw [hp.length_eq]
  exact Nat.le_trans (List.length_filter_le _ _) (by simp)

/-! The search by steps from a place: 'from :: tl' are the places met, in the order of their meeting, m of them (and k edges of the next one) are looked through; 'cm' tells from where each was met. -/
structure Bfs (n : Nat) (Ln : Nat → Nat) (Z : Nat → Nat → Int) (fr : Nat) (tl cm : List Nat) (m k : Nat) : Prop where
  frlt : fr < n
  nodup : (fr :: tl).Nodup
  lt : ∀ x ∈ tl, x < n
  len : cm.length = n
  came : ∀ i, i < tl.length → ∃ j, j ≤ i ∧ nth cm (nth (fr :: tl) (i + 1)) = nth (fr :: tl) j + 1 ∧ Edge Ln Z (nth (fr :: tl) j) (nth (fr :: tl) (i + 1))
  zero : ∀ x, x < n → x ∉ tl → nth cm x = 0
  done : ∀ i j, (i < m ∨ (i = m ∧ j < k)) → j < Ln (nth (fr :: tl) i) → Z (nth (fr :: tl) i) j ≠ (fr : Int) ∧ ∀ t : Nat, t < n → Z (nth (fr :: tl) i) j = (t : Int) → t ∈ tl
  bound : m ≤ tl.length + 1

theorem Bfs.all_lt {fr m k : Nat} {tl cm : List Nat} (h : Bfs n Ln Z fr tl cm m k) : ∀ x ∈ fr :: tl, x < n := fun x hx => by
  rcases List.mem_cons.1 hx with rfl | hx
  · exact h.frlt
  · exact h.lt x hx
theorem Bfs.few {fr m k : Nat} {tl cm : List Nat} (h : Bfs n Ln Z fr tl cm m k) : tl.length + 1 ≤ n := by
  have := nodup_le h.nodup h.all_lt
  simpa using this

theorem bfs_start {fr : Nat} (h : fr < n) : Bfs n Ln Z fr [] (List.replicate n 0) 0 0 :=
  ⟨h, by simp, by simp, by simp, by simp, fun x hx _ => by unfold nth; simp [List.getD_eq_getElem?_getD, hx], fun i j hij => by omega, by simp⟩

theorem Bfs.row_done {fr m : Nat} {tl cm : List Nat} {k : Nat} (h : Bfs n Ln Z fr tl cm m k) (hm : m < tl.length + 1) (hk : Ln (nth (fr :: tl) m) ≤ k) : Bfs n Ln Z fr tl cm (m + 1) 0 :=
  ⟨h.frlt, h.nodup, h.lt, h.len, h.came, h.zero, fun i j hij hj => by
    rcases hij with hij | hij
    · by_cases e : i = m
      · subst e; exact h.done i j (.inr ⟨rfl, by omega⟩) hj
      · exact h.done i j (.inl (by omega)) hj
    · omega, by omega⟩

theorem Bfs.skip {fr m k : Nat} {tl cm : List Nat} (h : Bfs n Ln Z fr tl cm m k) (hf : Z (nth (fr :: tl) m) k ≠ (fr : Int)) (ht : ∀ t : Nat, t < n → Z (nth (fr :: tl) m) k = (t : Int) → nth cm t ≠ 0) : Bfs n Ln Z fr tl cm m (k + 1) :=
  ⟨h.frlt, h.nodup, h.lt, h.len, h.came, h.zero, fun i j hij hj => by
    by_cases e : i = m ∧ j = k
    · obtain ⟨rfl, rfl⟩ := e
      refine ⟨hf, fun t htn e => ?_⟩
      exact Classical.byContradiction fun hno => ht t htn e (h.zero t htn hno)
    · exact h.done i j (by omega) hj, h.bound⟩

theorem Bfs.visit {fr m k t : Nat} {tl cm : List Nat} (h : Bfs n Ln Z fr tl cm m k) (hm : m < tl.length + 1) (hk : k < Ln (nth (fr :: tl) m)) (hf : t ≠ fr) (ht : t < n) (hz : Z (nth (fr :: tl) m) k = (t : Int)) (h0 : nth cm t = 0) :
    Bfs n Ln Z fr (tl ++ [t]) (cm.set t (nth (fr :: tl) m + 1)) m (k + 1) := by
  have hnot : t ∉ tl := fun hin => by
    obtain ⟨i, hi, e⟩ := mem_nth hin
    obtain ⟨j, _, hc, _⟩ := h.came i hi
    have e2 : nth (fr :: tl) (i + 1) = t := by rw [← e]; unfold nth; simp
    rw [e2, h0] at hc
    omega
  have hnot2 : t ∉ fr :: tl := by simp [hf, hnot]
  have keep : ∀ i, i < tl.length + 1 → nth (fr :: (tl ++ [t])) i = nth (fr :: tl) i := fun i hi => by
    rw [← List.cons_append]; exact nth_append_left (by simpa using hi)
  have last : nth (fr :: (tl ++ [t])) (tl.length + 1) = t := by
    rw [← List.cons_append]; exact nth_append_last (l := fr :: tl)
  refine ⟨h.frlt, ?_, fun x hx => ?_, by simpa using h.len, fun i hi => ?_, fun x hx hn => ?_, fun i j hij hj => ?_, ?_⟩
  · rw [← List.cons_append, List.nodup_append]
    exact ⟨h.nodup, by simp, fun a ha b hb => by simp at hb; subst hb; exact fun e => hnot2 (e ▸ ha)⟩
  · rcases List.mem_append.1 hx with hx | hx
    · exact h.lt x hx
    · simp at hx; omega
  · rw [List.length_append, List.length_singleton] at hi
    by_cases e : i = tl.length
    · subst e
      refine ⟨m, by omega, ?_, ?_⟩
      · rw [last, keep m hm, nth_set (by rw [h.len]; exact ht), if_pos rfl]
      · rw [last, keep m hm]; exact ⟨k, hk, hz⟩
    · obtain ⟨j, hj, hc, he⟩ := h.came i (by omega)
      refine ⟨j, hj, ?_, ?_⟩
      · rw [keep _ (by omega), keep j (by omega), nth_set (by rw [h.len]; exact ht), if_neg, hc]
        intro e2
        have : nth (fr :: tl) (i + 1) ∈ fr :: tl := nth_mem (by simp; omega)
        exact hnot2 (e2 ▸ this)
      · rw [keep (i + 1) (by omega), keep j (by omega)]; exact he
  · rw [nth_set (by rw [h.len]; exact ht)]
    have hne : x ≠ t := fun e => hn (by simp [e])
    rw [if_neg hne]
    exact h.zero x hx fun hin => hn (by simp [hin])
  · have hi : i < tl.length + 1 := by omega
    rw [keep i hi] at hj ⊢
    by_cases e : i = m ∧ j = k
    · obtain ⟨rfl, rfl⟩ := e
      refine ⟨by rw [hz]; omega, fun t' _ e => ?_⟩
      rw [hz] at e
      have : t' = t := by omega
      simp [this]
    · obtain ⟨h1, h2⟩ := h.done i j (by omega) hj
      exact ⟨h1, fun t' a b => by simp [h2 t' a b]⟩
  · have := h.bound; simp; omega

/-- All is looked through, and the place was not met again: no way leads back to it. -/
theorem Bfs.none {fr m k : Nat} {tl cm : List Nat} (h : Bfs n Ln Z fr tl cm m k) (hm : tl.length + 1 ≤ m) : ¬ Way n Ln Z fr fr := fun hw => by
  have step : ∀ i, i < tl.length + 1 → ∀ v, v < n → Edge Ln Z (nth (fr :: tl) i) v → v ∈ tl := fun i hi v hv ⟨j, hj, e⟩ => (h.done i j (.inl (by omega)) hj).2 v hv e
  have hin : fr ∈ tl := hw (fun x => x ∈ tl) (fun u hu e => step 0 (by omega) u hu e) fun u v hu hv e => by
    obtain ⟨i, hi, e2⟩ := mem_nth hu
    refine step (i + 1) (by omega) v hv ?_
    have : nth (fr :: tl) (i + 1) = u := by rw [← e2]; unfold nth; simp
    rw [this]; exact e
  have := h.nodup
  simp at this
  exact this.1 hin

/-- The way back along where each place was met from: 'o' are the places so far, the i-th place met is the last of them. -/
structure Along (Ln : Nat → Nat) (Z : Nat → Nat → Int) (fr : Nat) (tl : List Nat) (m : Nat) (o : List Nat) (i : Nat) : Prop where
  pos : 0 < o.length
  lt : i < tl.length + 1
  first : nth o 0 = nth (fr :: tl) m
  last : nth o (o.length - 1) = nth (fr :: tl) i
  step : ∀ a, a + 1 < o.length → Edge Ln Z (nth o (a + 1)) (nth o a)
  nodup : o.Nodup
  from' : ∀ x ∈ o, ∃ b, i ≤ b ∧ b < tl.length + 1 ∧ nth (fr :: tl) b = x

theorem along_start {fr m : Nat} {tl : List Nat} (hm : m < tl.length + 1) : Along Ln Z fr tl m [nth (fr :: tl) m] m :=
  ⟨by simp, hm, rfl, rfl, fun a ha => by simp at ha, by simp, fun x hx => ⟨m, by omega, hm, by simp at hx; exact hx.symm⟩⟩

theorem Along.few {fr m k m' i : Nat} {tl cm o : List Nat} (h : Along Ln Z fr tl m o i) (hb : Bfs n Ln Z fr tl cm m' k) : o.length ≤ n :=
  nodup_le h.nodup fun x hx => by
    obtain ⟨b, _, hb2, rfl⟩ := h.from' x hx
    exact hb.all_lt _ (nth_mem (by simpa using hb2))

theorem Along.next {fr m k m' i : Nat} {tl cm o : List Nat} (h : Along Ln Z fr tl m o i) (hb : Bfs n Ln Z fr tl cm m' k) (hne : nth (fr :: tl) i ≠ fr) :
    ∃ j, j < i ∧ nth cm (nth (fr :: tl) i) = nth (fr :: tl) j + 1 ∧ Along Ln Z fr tl m (o ++ [nth (fr :: tl) j]) j := by
  have hi0 : i ≠ 0 := fun e => hne (by subst e; unfold nth; simp)
  obtain ⟨i', rfl⟩ : ∃ i', i = i' + 1 := ⟨i - 1, by omega⟩
  have hlt := h.lt
  have hpos := h.pos
  obtain ⟨j, hj, hc, he⟩ := hb.came i' (by omega)
  refine ⟨j, by omega, hc, ⟨by simp, by omega, ?_, ?_, fun a ha => ?_, ?_, fun x hx => ?_⟩⟩
  · rw [nth_append_left hpos]; exact h.first
  · rw [List.length_append, List.length_singleton, Nat.add_sub_cancel]; exact nth_append_last
  · rw [List.length_append, List.length_singleton] at ha
    by_cases e : a + 1 = o.length
    · rw [e, nth_append_last, nth_append_left (by omega), show a = o.length - 1 by omega, h.last]
      exact he
    · rw [nth_append_left (by omega), nth_append_left (by omega)]
      exact h.step a (by omega)
  · rw [List.nodup_append]
    refine ⟨h.nodup, by simp, fun a ha b hb2 e => ?_⟩
    simp at hb2
    obtain ⟨c, c1, c2, c3⟩ := h.from' a ha
    have := nth_inj hb.nodup (i := c) (j := j) (by simpa using c2) (by simp; omega) (by rw [c3, e, hb2])
    omega
  · rcases List.mem_append.1 hx with hx | hx
    · obtain ⟨b, b1, b2, b3⟩ := h.from' x hx
      exact ⟨b, by omega, b2, b3⟩
    · simp at hx; exact ⟨j, by omega, by omega, hx.symm⟩

theorem Along.cyc {fr m k m' i j : Nat} {tl cm o : List Nat} (h : Along Ln Z fr tl m o i) (hb : Bfs n Ln Z fr tl cm m' k) (he : nth (fr :: tl) i = fr) (hj : j < Ln (nth (fr :: tl) m)) (hz : Z (nth (fr :: tl) m) j = (fr : Int)) : Cyc n Ln Z o.reverse := by
  have hpos := h.pos
  refine ⟨by simpa using hpos, fun a ha => ?_, fun a ha => ?_, by simpa [List.Nodup, List.pairwise_reverse, ne_comm] using h.nodup⟩
  · simp at ha
    rw [nth_reverse ha]
    obtain ⟨b, _, b2, b3⟩ := h.from' _ (nth_mem (l := o) (i := o.length - 1 - a) (by omega))
    rw [← b3]; exact hb.all_lt _ (nth_mem (by simpa using b2))
  · simp at ha
    rw [List.length_reverse]
    by_cases e : a + 1 = o.length
    · rw [e, Nat.mod_self, nth_reverse ha, nth_reverse hpos, show o.length - 1 - a = 0 by omega, h.first, Nat.sub_zero, h.last, he]
      exact ⟨j, hj, hz⟩
    · rw [Nat.mod_eq_of_lt (by omega), nth_reverse ha, nth_reverse (by omega)]
      have := h.step (o.length - 1 - (a + 1)) (by omega)
      rwa [show o.length - 1 - (a + 1) + 1 = o.length - 1 - a by omega] at this

/-! The law's own way: places without an edge to one that is left go. -/
def bat (l : List Bool) (i : Nat) : Bool := l.getD i false
theorem bat_get {l : List Bool} {i : Nat} (h : i < l.length) : l[i]? = some (bat l i) := by unfold bat; simp [List.getD_eq_getElem?_getD, h]
theorem bat_set {l : List Bool} {i j : Nat} {x : Bool} (h : i < l.length) : bat (l.set i x) j = if j = i then x else bat l j := by
  unfold bat
  by_cases e : j = i
  · subst e; rw [if_pos rfl]; simp [List.getD_eq_getElem?_getD, h]
  · rw [if_neg e]; simp [List.getD_eq_getElem?_getD, List.getElem?_set_ne (Ne.symm e)]

def HeldBy (n : Nat) (Z : Nat → Nat → Int) (g : List Bool) (p k : Nat) : Prop := ∃ i, i < k ∧ ∃ v : Nat, v < n ∧ Z p i = (v : Int) ∧ bat g v = false

/-- What holds in the r-th sweep ahead of place p. -/
structure Sweep (n : Nat) (Ln : Nat → Nat) (Z : Nat → Nat → Int) (r p : Nat) (g : List Bool) : Prop where
  len : g.length = n
  stay : ∀ u c, u < n → c < n → Way n Ln Z c c → Way n Ln Z u c → bat g u = false
  go : (∀ u, u < n → bat g u = false → HeldBy n Z g u (Ln u)) ∨ r + 1 ≤ cnt (fun i => bat g i = true) n ∨ (r ≤ cnt (fun i => bat g i = true) n ∧ ∀ u, u < p → bat g u = false → HeldBy n Z g u (Ln u))

theorem sweep_start : Sweep n Ln Z 0 0 (List.replicate n false) :=
  ⟨by simp, fun u _ hu _ _ _ => by unfold bat; simp [List.getD_eq_getElem?_getD, hu], .inr (.inr ⟨by omega, fun u hu => by omega⟩)⟩

theorem Sweep.step {r p : Nat} {g : List Bool} (h : Sweep n Ln Z r p g) (hp : p < n) (held : Bool) (hh : held = true ↔ HeldBy n Z g p (Ln p)) : Sweep n Ln Z r (p + 1) (g.set p (bat g p || !held)) := by
  have hl := h.len
  by_cases hc : bat g p = true ∨ held = true
  · -- nothing turns
    have e : g.set p (bat g p || !held) = g := by
      have hv : (bat g p || !held) = bat g p := by
        rcases hc with hc | hc
        · simp [hc]
        · simp [hc]
      rw [hv]
      apply List.ext_getElem? 
      intro i
      by_cases e : i = p
      · subst e; rw [List.getElem?_set_self (by omega), bat_get (by omega)]
      · rw [List.getElem?_set_ne (Ne.symm e)]
    rw [e]
    refine ⟨hl, h.stay, ?_⟩
    rcases h.go with h1 | h1 | ⟨h1, h2⟩
    · exact .inl h1
    · exact .inr (.inl h1)
    · refine .inr (.inr ⟨h1, fun u hu hb => ?_⟩)
      by_cases e : u = p
      · subst e
        rcases hc with hc | hc
        · rw [hc] at hb; cases hb
        · exact hh.1 hc
      · exact h2 u (by omega) hb
  · have hg : bat g p = false := by cases hx : bat g p <;> simp_all
    have hf : held = false := by cases hx : held <;> simp_all
    have hv : (bat g p || !held) = true := by simp [hf]
    rw [hv]
    have hnot : ¬ HeldBy n Z g p (Ln p) := fun hx => by rw [hh.2 hx] at hf; cases hf
    refine ⟨by simpa using hl, fun u c hu hc0 hcc huc => ?_, ?_⟩
    · rw [bat_set (by omega)]
      by_cases e : u = p
      · subst e
        exfalso
        obtain ⟨v, hv, ⟨i, hi, ez⟩, hvc⟩ := huc.first
        refine hnot ⟨i, hi, v, hv, ez, ?_⟩
        rcases hvc with rfl | hvc
        · exact h.stay v v hv hv hcc hcc
        · exact h.stay v c hv hc0 hcc hvc
      · rw [if_neg e]; exact h.stay u c hu hc0 hcc huc
    · have more : cnt (fun i => bat g i = true) n < cnt (fun i => bat (g.set p true) i = true) n :=
        cnt_lt (fun i _ hi => by rw [bat_set (by omega)]; split; rfl; exact hi) hp (by rw [bat_set (by omega), if_pos rfl]) (by simp [hg])
      rcases h.go with h1 | h1 | ⟨h1, _⟩
      · exact absurd (h1 p hp hg) hnot
      · exact .inr (.inl (by omega))
      · exact .inr (.inl (by omega))

theorem Sweep.turn {r : Nat} {g : List Bool} (h : Sweep n Ln Z r n g) : Sweep n Ln Z (r + 1) 0 g :=
  ⟨h.len, h.stay, by
    rcases h.go with h1 | h1 | ⟨_, h2⟩
    · exact .inl h1
    · exact .inr (.inr ⟨h1, fun u hu => by omega⟩)
    · exact .inl h2⟩

theorem Sweep.found {g : List Bool} (h : Sweep n Ln Z n 0 g) {p : Nat} (hp : p < n) (hg : bat g p = false) : Round n Ln Z := by
  have hcl := h.go
  have hcount : ¬ n ≤ cnt (fun i => bat g i = true) n := fun hn => by
    have := cnt_full hn p hp
    simp [hg] at this
  have hle := cnt_le (fun i => bat g i = true) n
  have hc : ∀ u, u < n → bat g u = false → HeldBy n Z g u (Ln u) := by
    rcases hcl with h1 | h1 | ⟨h1, _⟩
    · exact h1
    · exact absurd (by omega) hcount
    · exact absurd h1 hcount
  refine closed_round (U := fun u => u < n ∧ bat g u = false) (fun u ⟨h1, h2⟩ => ⟨h1, ?_⟩) ⟨hp, hg⟩
  obtain ⟨i, hi, v, hv, ez, hb⟩ := hc u h1 h2
  exact ⟨v, ⟨hv, hb⟩, i, hi, ez⟩

theorem Sweep.none {r : Nat} {g : List Bool} (h : Sweep n Ln Z r 0 g) (hall : ∀ p, p < n → bat g p = true) : ¬ Round n Ln Z := fun ⟨p, hp, hw⟩ => by
  have := h.stay p p hp hp hw hw
  rw [hall p hp] at this; cases this

end
end Go.Proofs.Ytiimhndiifojnaa.Or
