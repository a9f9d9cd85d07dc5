/- Rows of the call's own, of any kind of data: whole rows, or one element, appended. -/
import Derived.Test.YtaahdhpljlkfjaaGreatZg08
import Derived.Test.YtaahdhpljlkfjaaGreatZg11
namespace Go.Proofs.YtaahdhpljlkfjaaGreat.Rc
open Go.RowKit Go.Deep

/-- What a slice type T of elements e of a kind is. -/
structure Elem {α : Type} [Inhabited α] (K : Kd α) (T e : TypeId) : Prop where
  slice : Tryz.prog.underlying T = some (.slice e)
  info : ∃ (z : Value) (m : Nat), (Tryz.prog.info? e).map (fun i => (i.zero, i.size, i.bytes)) = some (some z, K.n, m) ∧ z.cells.size = K.n ∧ 0 < m ∧ m ≤ 400
  pos : 0 < K.n
  one : ∀ {w : World} {cs : List Value} {x : α}, K.is w cs x → ∀ u ∈ cs, u.oneCell' = true

theorem flat_get {n : Nat} : ∀ {css : List (List Value)}, (∀ c ∈ css, c.length = n) → ∀ {j i : Nat}, j < css.length → i < n → css.flatten[j * n + i]? = (nth css j)[i]?
  | [], _, _, _, hj, _ => by simp at hj
  | c :: r, h, 0, i, _, hi => by
    have hc := h c (by simp)
    rw [Nat.zero_mul, Nat.zero_add, List.flatten_cons, List.getElem?_append_left (by omega)]
    rfl
  | c :: r, h, j + 1, i, hj, hi => by
    have hc := h c (by simp)
    rw [Nat.add_mul, Nat.one_mul, List.flatten_cons, List.getElem?_append_right (by omega), show j * n + n + i - c.length = j * n + i by omega,
      flat_get (fun c hc => h c (by simp [hc])) (by simpa using hj) hi]
    rfl
theorem flat_len {n : Nat} : ∀ {css : List (List Value)}, (∀ c ∈ css, c.length = n) → css.flatten.length = css.length * n
  | [], _ => by simp
  | c :: r, h => by
    rw [List.flatten_cons, List.length_append, h c (by simp), flat_len (fun c hc => h c (by simp [hc])), List.length_cons, Nat.add_mul]
    omega
/-- The cells of elements. -/
def Css {α : Type} [Inhabited α] (K : Kd α) (w : World) (css : List (List Value)) (l : List α) : Prop := css.length = l.length ∧ ∀ j, j < l.length → K.is w (nth css j) (nth l j)
section
variable {α : Type} [Inhabited α] {K : Kd α} {w w0 : World}
theorem Css.nil (w : World) : Css K w [] [] := ⟨rfl, fun j hj => by simp at hj⟩
theorem Css.one {cs : List Value} {x : α} (h : K.is w cs x) : Css K w [cs] [x] := ⟨rfl, fun j hj => by
  obtain rfl : j = 0 := by simp at hj; omega
  exact h⟩
theorem Css.lens {css : List (List Value)} {l : List α} (h : Css K w css l) : ∀ c ∈ css, c.length = K.n := by
  intro c hc
  obtain ⟨j, hj, rfl⟩ := List.mem_iff_getElem.1 hc
  have := K.len (h.2 j (by rw [← h.1]; exact hj))
  rwa [nth_lt hj] at this
theorem Css.app {c1 c2 : List (List Value)} {l1 l2 : List α} (h1 : Css K w c1 l1) (h2 : Css K w c2 l2) : Css K w (c1 ++ c2) (l1 ++ l2) := by
  refine ⟨by rw [List.length_append, List.length_append, h1.1, h2.1], fun j hj => ?_⟩
  rw [List.length_append] at hj
  by_cases hlt : j < l1.length
  · have e1 : nth (c1 ++ c2) j = nth c1 j := by unfold nth; rw [List.getElem?_append_left (by rw [h1.1]; exact hlt)]
    have e2 : nth (l1 ++ l2) j = nth l1 j := by unfold nth; rw [List.getElem?_append_left hlt]
    rw [e1, e2]
    exact h1.2 j hlt
  · have e1 : nth (c1 ++ c2) j = nth c2 (j - l1.length) := by unfold nth; rw [List.getElem?_append_right (by rw [h1.1]; omega), h1.1]
    have e2 : nth (l1 ++ l2) j = nth l2 (j - l1.length) := by unfold nth; rw [List.getElem?_append_right (by omega)]
    rw [e1, e2]
    exact h2.2 _ (by omega)
theorem Css.flat {css : List (List Value)} {l : List α} (h : Css K w css l) : css.flatten.length = l.length * K.n := by rw [flat_len h.lens, h.1]
theorem Css.ones {T e : TypeId} (hT : Elem K T e) {css : List (List Value)} {l : List α} (h : Css K w css l) : ∀ u ∈ css.flatten, u.oneCell' = true := by
  intro u hu
  rw [List.mem_flatten] at hu
  obtain ⟨c, hc, hu⟩ := hu
  obtain ⟨j, hj, rfl⟩ := List.mem_iff_getElem.1 hc
  have := h.2 j (by rw [← h.1]; exact hj)
  rw [nth_lt hj] at this
  exact hT.one this u hu
/-- The cells of a row. -/
theorem RowD.css {A : Option Addr} {L c : Nat} {l : List α} (h : RowD K w (.slice A L c) l) (hL : 0 < L) (hn : 0 < K.n) : ∃ b off css, A = some ⟨b, off, none⟩ ∧ b < w.heap.size ∧ Css K w css l ∧ ∀ p u, css.flatten[p]? = some u → w.cell? ⟨b, off + p, none⟩ = some u := by
  have hl := h.len
  subst hl
  obtain ⟨b, off, _, hA, hb, _⟩ := h.at hL
  have hx : ∀ j, ∃ cs : List Value, j < l.length → K.is w cs (nth l j) ∧ ∀ i, i < K.n → w.cell? ⟨b, off + j * K.n + i, none⟩ = cs[i]? := fun j => by
    by_cases hj : j < l.length
    · obtain ⟨b', off', cs, e, _, h1, h2⟩ := h.at hj
      rw [hA] at e
      cases e
      exact ⟨cs, fun _ => ⟨h1, h2⟩⟩
    · exact ⟨[], fun h => absurd h hj⟩
  obtain ⟨f, hf⟩ := Classical.axiomOfChoice hx
  have hlen : ((List.range l.length).map f).length = l.length := by simp
  have hnth : ∀ j, j < l.length → nth ((List.range l.length).map f) j = f j := fun j hj => by unfold nth; simp [hj]
  have hcss : Css K w ((List.range l.length).map f) l := ⟨hlen, fun j hj => by rw [hnth j hj]; exact (hf j hj).1⟩
  refine ⟨b, off, _, hA, hb, hcss, fun p u hu => ?_⟩
  have hp : p < l.length * K.n := by rw [← hcss.flat]; exact (List.getElem?_eq_some_iff.1 hu).1
  have hj : p / K.n < l.length := Nat.div_lt_of_lt_mul (by rw [Nat.mul_comm]; exact hp)
  have hi : p % K.n < K.n := Nat.mod_lt _ hn
  have e : p / K.n * K.n + p % K.n = p := by rw [Nat.mul_comm]; exact Nat.div_add_mod p K.n
  rw [← e, flat_get hcss.lens (by rw [hlen]; exact hj) hi, hnth _ hj] at hu
  rw [← e, ← Nat.add_assoc, (hf _ hj).2 _ hi]
  exact hu

/-- A row of the call's own, whose elements' insides lay in w0. -/
def OwnK (K : Kd α) (e : TypeId) (w0 w : World) (base : Nat) (v : Value) (l : List α) : Prop := ∃ css, Css K w0 css l ∧ w.ownsRow base e K.n v l.length css.flatten
theorem OwnK.nil (e : TypeId) (w0 w : World) (base : Nat) : OwnK K e w0 w base (.slice none 0 0) [] := ⟨[], Css.nil w0, by simp, .inl ⟨rfl, rfl⟩⟩
theorem OwnK.empty {e : TypeId} {base X : Nat} (w0 : World) (h : w.heap[X]? = some (.cells #[] e (0, 0))) (hb : base ≤ X) : OwnK K e w0 w base (.slice (some ⟨X, 0, none⟩) 0 0) [] :=
  ⟨[], Css.nil w0, by simp, .inr ⟨X, 0, #[], rfl, hb, h, by simp, by simp [maxLen], by simp, by simp⟩⟩
section
variable {e : TypeId} {base : Nat} {v : Value} {l : List α}
theorem OwnK.touch {w' : World} {S : Nat → Prop} (h : OwnK K e w0 w base v l) (ht : Touch w w' S) (hS : ∀ g, v.ownBlock = some g → ¬ S g) : OwnK K e w0 w' base v l := by
  obtain ⟨css, h1, h2⟩ := h
  exact ⟨css, h1, own_touch h2 ht hS⟩
theorem OwnK.below {w' : World} (h : OwnK K e w0 w base v l) (hb : Below w.heap.size w w') : OwnK K e w0 w' base v l := h.touch (Touch.of_below (S := fun _ => False) hb) (fun _ _ h => h)
theorem OwnK.alloc (h : OwnK K e w0 w base v l) (o : Obj) : OwnK K e w0 (w.alloc o) base v l := h.below ((Below.refl _ _).alloc (Nat.le_refl _) o)
theorem OwnK.drew (h : OwnK K e w0 w base v l) : OwnK K e w0 w.drew base v l := by
  obtain ⟨css, h1, h2⟩ := h
  exact ⟨css, h1, h2.drew⟩
theorem OwnK.lower {base' : Nat} (h : OwnK K e w0 w base v l) (hb : base' ≤ base) : OwnK K e w0 w base' v l := by
  obtain ⟨css, h1, h2⟩ := h
  exact ⟨css, h1, ownsRow_base h2 hb⟩
theorem OwnK.sl (h : OwnK K e w0 w base v l) : ∃ A L c, v = .slice A L c := by
  obtain ⟨css, h1, h2⟩ := h
  rcases own_len h2 with ⟨e, _⟩ | ⟨g, cap, e⟩
  · exact ⟨_, _, _, e⟩
  · exact ⟨_, _, _, e⟩
theorem OwnK.len {A : Option Addr} {L c : Nat} (h : OwnK K e w0 w base (.slice A L c) l) : L = l.length := by
  obtain ⟨css, h1, h2⟩ := h
  rcases own_len h2 with ⟨e, h0⟩ | ⟨g, cap, e⟩
  · injection e with e1 e2 e3; omega
  · injection e
theorem OwnK.lt (h : OwnK K e w0 w base v l) (g : Nat) (hg : v.ownBlock = some g) : base ≤ g ∧ g < w.heap.size := by
  obtain ⟨css, h1, h2⟩ := h
  exact World.ownsRow.lt h2 g hg
/-- As a row that is read. -/
theorem OwnK.row (h : OwnK K e w0 w base v l) (hb : Below w0.heap.size w0 w) : RowD K w v l := by
  obtain ⟨css, hc, _, h2⟩ := h
  rcases h2 with ⟨rfl, h0⟩ | ⟨g, cap, cur, rfl, hg, hh, h1, h3, _, h4⟩
  · obtain rfl : l = [] := List.eq_nil_of_length_eq_zero h0
    exact RowD.nil w
  · refine ⟨_, _, rfl, h1, h3, fun _ => ⟨g, 0, rfl, lt_of_heap hh, fun j hj => ⟨nth css j, K.below (hc.2 j hj) hb (Nat.le_refl _), fun i hi => ?_⟩⟩⟩
    have hp : j * K.n + i < css.flatten.length := by
      rw [hc.flat]
      calc j * K.n + i < j * K.n + K.n := by omega
        _ = (j + 1) * K.n := by rw [Nat.add_mul, Nat.one_mul]
        _ ≤ l.length * K.n := Nat.mul_le_mul_right _ hj
    have e1 := flat_get hc.lens (j := j) (i := i) (by rw [hc.1]; exact hj) hi
    rw [← e1]
    have e2 : (cur.toList.take css.flatten.length)[j * K.n + i]? = css.flatten[j * K.n + i]? := by rw [hc.flat, h4]
    rw [List.getElem?_take, if_pos hp, List.getElem?_eq_getElem hp] at e2
    rw [List.getElem?_eq_getElem hp, Nat.zero_add]
    exact cells_get hh _ (by rw [← Array.getElem?_toList]; exact e2)
end
/-- Elements whose cells lie somewhere are appended. -/
theorem run_app_css {T e : TypeId} (hT : Elem K T e) (base : Nat) (v : Value) (xs zs : List α) (b off L c : Nat) (css : List (List Value)) (hown : OwnK K e w0 w base v xs) (hc : Css K w0 css zs) (hL : L = zs.length)
    (hs : ∀ p u, css.flatten[p]? = some u → w.cell? ⟨b, off + p, none⟩ = some u) (hl : xs.length + zs.length ≤ 100000) (hbase : base ≤ w.heap.size) :
    ∃ A n c' w', (Builtin.append_ #[T, T] T #[v, .slice (some ⟨b, off, none⟩) L c]).run Tryz.prog w = .ok (.slice A n c') w' ∧ OwnK K e w0 w' base (.slice A n c') (xs ++ zs) ∧ w.grownBy w' v.ownBlock := by
  obtain ⟨hsl, ⟨z, m, hi, hzc, hm0, hm⟩, hpos, _⟩ := id hT
  obtain ⟨i0, hi0, hz0, hz1, hz2⟩ := info_parts hi
  obtain ⟨css0, h1, h2⟩ := hown
  subst hL
  obtain ⟨v', w', hrun, r1, r2, _, r4⟩ := run_append_own_at (P := Tryz.prog) w base T T e i0 _ K.n m hsl hi0 hz0 hz1 hz2 (by rw [hzc]) hpos v xs.length css0.flatten h2 ⟨b, off, none⟩ zs.length c css.flatten hc.flat
      (fun j u hu => by rw [Addr.add_mid]; exact hs j u hu) (hc.ones hT) (by unfold maxLen; omega) (by
        have := Nat.mul_le_mul hl hm
        omega) hbase
  obtain ⟨A, n, c', rfl⟩ : ∃ A n c, v' = .slice A n c := by
    rcases own_len r1 with ⟨e, _⟩ | ⟨g, cap, e⟩
    · exact ⟨_, _, _, e⟩
    · exact ⟨_, _, _, e⟩
  refine ⟨A, n, c', w', hrun, ⟨css0 ++ css, h1.app hc, ?_⟩, r2⟩
  rw [List.length_append, List.flatten_append]
  exact r1
/-- A row is appended. -/
theorem run_app_row {T e : TypeId} (hT : Elem K T e) (base : Nat) (v x : Value) (xs zs : List α) (hb : Below w0.heap.size w0 w) (hown : OwnK K e w0 w base v xs) (hr : RowD K w0 x zs) (hl : xs.length + zs.length ≤ 100000) (hbase : base ≤ w.heap.size) :
    ∃ A n c' w', (Builtin.append_ #[T, T] T #[v, x]).run Tryz.prog w = .ok (.slice A n c') w' ∧ OwnK K e w0 w' base (.slice A n c') (xs ++ zs) ∧ w.grownBy w' v.ownBlock := by
  obtain ⟨A, L, c, rfl⟩ := hr.sl
  have hL := hr.len
  by_cases hz : L = 0
  · obtain rfl : zs = [] := List.eq_nil_of_length_eq_zero (by omega)
    subst hz
    obtain ⟨hsl, ⟨z, m, hi, hzc, hm0, hm⟩, hpos, _⟩ := id hT
    obtain ⟨i0, hi0, hz0, hz1, hz2⟩ := info_parts hi
    have hv : ∃ A n cp, v = .slice A n cp ∧ n ≤ cp := by
      obtain ⟨css0, _, h2⟩ := hown
      rcases h2.2 with ⟨e, _⟩ | ⟨g, cap, cur, e, _, _, hle, _⟩
      · exact ⟨_, _, _, e, Nat.le_refl _⟩
      · exact ⟨_, _, _, e, hle⟩
    obtain ⟨A', n, cp, rfl, hle⟩ := hv
    have hs : Src Tryz.prog i0.size T (.slice A 0 c) 0 [] w := by
      cases A with
      | none => exact Src.ofNil w hsl c
      | some a => exact Src.ofSlice w hsl a 0 c [] (by simp) (fun j u hu => by simp at hu) (by simp)
    exact ⟨_, _, _, w, run_append_nothing w T T T e i0 hsl hi0 A' n cp hle _ hs, by rw [List.append_nil]; exact hown, grown_refl w _⟩
  · obtain ⟨b, off, css, rfl, hlt, hc, hcell⟩ := hr.css (by omega) hT.pos
    exact run_app_css hT base v xs zs b off L c css hown hc hL (fun p u hu => (hb.cell (p := ⟨b, off + p, none⟩) hlt).trans (hcell p u hu)) hl hbase
end
theorem wpList_app_row {α : Type} [Inhabited α] {K : Kd α} {T e : TypeId} (hT : Elem K T e) {ops : Array Oper} {rest : List Oper} {o : Oper} {a : Act} {Q : Exit → Act → World → Prop} (hgd : o.guard = none) (s y : Operand)
    (ho : o.op = .call { callee := .builtin .append, args := #[s, y], argTypes := #[T, T] }) (hty : o.type = T)
    {w0 w : World} {base : Nat} {v x : Value} {xs zs : List α} (hs : a.eval s = v) (hx : a.eval y = x) (hb : Below w0.heap.size w0 w) (hown : OwnK K e w0 w base v xs) (hr : RowD K w0 x zs) (hl : xs.length + zs.length ≤ 100000) (hbase : base ≤ w.heap.size)
    (hK : ∀ A' L' c' w', OwnK K e w0 w' base (.slice A' L' c') (xs ++ zs) → w.grownBy w' v.ownBlock → wpList Tryz.prog ops Q rest (a.put o.dst (.slice A' L' c')) w') : wpList Tryz.prog ops Q (o :: rest) a w := by
  refine wpList_plain hgd fun K hK' => ?_
  obtain ⟨A, n, c, w', hrun, r1, r2⟩ := run_app_row hT base v x xs zs hb hown hr hl hbase
  unfold Oper.wp
  simp [execOp, ho, hty, resolve, invoke, builtin, hs, hx, hrun, Result.andThen]
  exact hK' _ _ (hK A n c w' r1 r2)
/-- The same in a region that draws its order. -/
theorem step_app_row {α : Type} [Inhabited α] {K : Kd α} {T e : TypeId} (hT : Elem K T e) {ops : Array Oper} {o : Oper} {a : Act} {J : Act → World → Prop} {Q : Exit → Act → World → Prop} {E : Prop} (hgd : o.guard = none) (s y : Operand)
    (ho : o.op = .call { callee := .builtin .append, args := #[s, y], argTypes := #[T, T] }) (hty : o.type = T)
    {w0 w : World} {base : Nat} {v x : Value} {xs zs : List α} (hs : a.eval s = v) (hx : a.eval y = x) (hb : Below w0.heap.size w0 w) (hown : OwnK K e w0 w base v xs) (hr : RowD K w0 x zs) (hl : xs.length + zs.length ≤ 100000) (hbase : base ≤ w.heap.size)
    (hK : ∀ A' L' c' w', OwnK K e w0 w' base (.slice A' L' c') (xs ++ zs) → w.grownBy w' v.ownBlock → J (a.put o.dst (.slice A' L' c')) w') : if Region.wanted o (yielded ops a.tmps) = true then Oper.wp Tryz.prog o a w J Q else E := by
  have hw : Region.wanted o (yielded ops a.tmps) = true := by simp [Region.wanted, hgd]
  rw [if_pos hw]
  obtain ⟨A, n, c, w', hrun, r1, r2⟩ := run_app_row hT base v x xs zs hb hown hr hl hbase
  unfold Oper.wp
  simp [execOp, ho, hty, resolve, invoke, builtin, hs, hx, hrun, Result.andThen]
  exact hK A n c w' r1 r2
theorem Bxs.grownK {α : Type} [Inhabited α] {K : Kd α} {e : TypeId} {w0 w1 w2 w3 : World} {l : List (Array Value × TypeId)} {v : Value} {xs : List α} (h : Bxs w0 w1 l) (hown : OwnK K e w3 w1 w0.heap.size v xs) (hne : ∀ T ∈ l.map Prod.snd, e ≠ T) (hg : w1.grownBy w2 v.ownBlock) : Bxs w0 w2 l := by
  obtain ⟨css, _, h2⟩ := hown
  exact h.grown h2 hne hg
theorem Bxs.drew {w0 w1 : World} {l : List (Array Value × TypeId)} (h : Bxs w0 w1 l) : Bxs w0 w1.drew l := h.step ⟨rfl, rfl, rfl, Nat.le_refl _, fun _ _ => rfl⟩
/-- A row of another type stays as it is. -/
theorem OwnV.keptK {α β : Type} [Inhabited β] {K : Kd β} {e e2 : TypeId} {enc : α → Value} {w0 w w' : World} {base base2 : Nat} {v v2 : Value} {l : List α} {xs : List β} (h : OwnV e enc w base v l) (hk : OwnK K e2 w0 w base2 v2 xs) (hne : e ≠ e2)
    (hg : w.grownBy w' v2.ownBlock) : OwnV e enc w' base v l := by
  obtain ⟨css, _, h2⟩ := hk
  refine h.touch (Touch.of_grown (S := fun i => v2.ownBlock = some i) hg (fun i e => e)) (fun g e1 e3 => ?_)
  rcases h2.2 with ⟨rfl, _⟩ | ⟨g', cap, cur, rfl, _, hh, _⟩
  · simp [Value.ownBlock] at e3
  · obtain rfl : g' = g := by simpa [Value.ownBlock] using e3
    exact own_apart h hh hne e1
theorem wpList_app_el {α : Type} [Inhabited α] {K : Kd α} {T e : TypeId} (hT : Elem K T e) {ops : Array Oper} {rest : List Oper} {o : Oper} {a : Act} {Q : Exit → Act → World → Prop} (hgd : o.guard = none) (s y : Operand)
    (ho : o.op = .call { callee := .builtin .append, args := #[s, y], argTypes := #[T, T] }) (hty : o.type = T)
    {w0 w : World} {base X : Nat} {v : Value} {xs : List α} {x : α} {cs : Array Value} (hs : a.eval s = v) (hx : a.eval y = .slice (some ⟨X, 0, none⟩) 1 1) (hown : OwnK K e w0 w base v xs) (hX : w.heap[X]? = some (.cells cs e (0, 0))) (hk : K.is w0 cs.toList x)
    (hl : xs.length ≤ 99999) (hbase : base ≤ w.heap.size)
    (hK : ∀ A' L' c' w', OwnK K e w0 w' base (.slice A' L' c') (xs ++ [x]) → w.grownBy w' v.ownBlock → wpList Tryz.prog ops Q rest (a.put o.dst (.slice A' L' c')) w') : wpList Tryz.prog ops Q (o :: rest) a w := by
  refine wpList_plain hgd fun K hK' => ?_
  obtain ⟨A, n, c, w', hrun, r1, r2⟩ := run_app_css hT base v xs [x] X 0 1 1 [cs.toList] hown (Css.one hk) rfl (fun p u hu => by
    rw [Nat.zero_add]
    exact cells_get hX p (by simpa using hu)) (by simpa using hl) hbase
  unfold Oper.wp
  simp [execOp, ho, hty, resolve, invoke, builtin, hs, hx, hrun, Result.andThen]
  exact hK' _ _ (hK A n c w' r1 r2)
end Go.Proofs.YtaahdhpljlkfjaaGreat.Rc
