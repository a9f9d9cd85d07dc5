/- Appends of rows of rows. -/
import Derived.Test.YtiomocmceccmbaaCnJoin
namespace Go.Proofs.Ytiomocmceccmbaa.Cn
open Go.RowKit

/-- A row of slices of the call's own, and the rows that they are. -/
structure OwnG (w : World) (base : Nat) (v : Value) (us : List Value) (ls : List (List Int)) : Prop where
  own : w.ownsRow base 22 1 v us.length us
  rows : RowsOf w 0 (fun b => v.ownBlock = some b) us ls

theorem OwnG.grid {w : World} {base : Nat} {v : Value} {us : List Value} {ls : List (List Int)} (h : OwnG w base v us ls) : Grid w v ls := by
  have hro : RowsOf w 0 (fun _ => False) us ls := ⟨h.rows.1, fun j u z hu hz => ⟨(h.rows.2 j u z hu hz).1, fun _ _ _ h => h⟩⟩
  by_cases hv : v = .slice none 0 0
  · have h0 : us.length = 0 := by
      rcases own_len h.own with ⟨_, h0⟩ | ⟨g, c, e⟩
      · exact h0
      · rw [hv] at e; cases e
    have hls : ls = [] := List.eq_nil_of_length_eq_zero (h.rows.1.trans h0)
    subst hls
    exact ⟨none, 0, us, hv, by simp, by simp [maxLen], .inl rfl, hro⟩
  · obtain ⟨g, c, rfl, h1, h2, _, h4, h5⟩ := own_cells h.own hv
    rw [← h.rows.1] at h1
    exact ⟨some ⟨g, 0, none⟩, c, us, by rw [h.rows.1], h1, h2, .inr ⟨g, 0, rfl, h4, fun j u hu => by rw [Nat.zero_add]; exact (h5 j u hu).1⟩, hro⟩

theorem OwnG.below {w w' : World} {base : Nat} {v : Value} {us : List Value} {ls : List (List Int)} (h : OwnG w base v us ls) (hb : Below w.heap.size w w') : OwnG w' base v us ls :=
  ⟨own_touch h.own (Touch.of_below (S := fun _ => False) hb) (fun _ _ h => h), h.rows.below hb⟩

theorem ownG_empty {w : World} {base X : Nat} (h : w.heap[X]? = some (.cells #[] 22 (0, 0))) (hb : base ≤ X) : OwnG w base (.slice (some ⟨X, 0, none⟩) 0 0) [] [] :=
  ⟨⟨rfl, .inr ⟨X, 0, #[], rfl, hb, h, Nat.le_refl _, by simp [maxLen], rfl, rfl⟩⟩, ⟨rfl, fun j u z hu => by simp at hu⟩⟩

theorem RowsOf.append {w : World} {base : Nat} {F : Nat → Prop} {us vs : List Value} {ps qs : List (List Int)} (h : RowsOf w base F us ps) (k : RowsOf w base F vs qs) : RowsOf w base F (us ++ vs) (ps ++ qs) := by
  refine ⟨by simp [h.1, k.1], fun j u z hu hz => ?_⟩
  by_cases hj : j < us.length
  · rw [List.getElem?_append_left hj] at hu
    rw [List.getElem?_append_left (by rw [h.1]; exact hj)] at hz
    exact h.2 j u z hu hz
  · rw [List.getElem?_append_right (by omega)] at hu
    rw [List.getElem?_append_right (by rw [h.1]; omega), h.1] at hz
    exact k.2 _ u z hu hz

/-- Rows of numbers whose cells lie below N. -/
def GridB (w : World) (N : Nat) (v : Value) (ls : List (List Int)) : Prop :=
  ∃ A c vs, v = .slice A ls.length c ∧ ls.length ≤ c ∧ c ≤ maxLen ∧ (ls = [] ∨ ∃ b off, A = some ⟨b, off, none⟩ ∧ b < w.heap.size ∧ ∀ (j : Nat) (u : Value), vs[j]? = some u → w.cell? ⟨b, off + j, none⟩ = some u) ∧ RowsOf w 0 (fun b => N ≤ b) vs ls
theorem Grid.bound {w : World} {v : Value} {ls : List (List Int)} (h : Grid w v ls) : GridB w w.heap.size v ls := by
  obtain ⟨A, c, vs, e, h1, h2, h3, h4⟩ := h
  exact ⟨A, c, vs, e, h1, h2, h3, h4.1, fun j u z hu hz => ⟨(h4.2 j u z hu hz).1, fun hne b hb hN => by have := ((h4.2 j u z hu hz).1.block hne b hb).2; omega⟩⟩
theorem GridB.below {w w' : World} {N : Nat} {v : Value} {ls : List (List Int)} (h : GridB w N v ls) (hb : Below w.heap.size w w') : GridB w' N v ls := by
  obtain ⟨A, c, vs, e, h1, h2, h3, h4⟩ := h
  exact ⟨A, c, vs, e, h1, h2, h3.imp id fun ⟨b, off, ha, hlt, hc⟩ => ⟨b, off, ha, Nat.lt_of_lt_of_le hlt hb.size, fun j u hu => (hb.cell (p := ⟨b, off + j, none⟩) hlt).trans (hc j u hu)⟩, h4.below hb⟩
theorem GridB.belows {w0 w w' : World} {N : Nat} {v : Value} {ls : List (List Int)} (h : GridB w N v ls) (hb : Below w0.heap.size w0 w') (hw : w = w0) : GridB w' N v ls := by
  subst hw; exact h.below hb
theorem GridB.grid {w : World} {N : Nat} {v : Value} {ls : List (List Int)} (h : GridB w N v ls) : Grid w v ls := by
  obtain ⟨A, c, vs, e, h1, h2, h3, h4⟩ := h
  exact ⟨A, c, vs, e, h1, h2, h3, h4.1, fun j u z hu hz => ⟨(h4.2 j u z hu hz).1, fun _ _ _ h => h⟩⟩

/-- An append of rows that lie in older memory. -/
theorem run_append_grid (w : World) (base N : Nat) (v x : Value) (us : List Value) (ps qs : List (List Int)) (hown : OwnG w base v us ps) (hr : GridB w N x qs) (hl : ps.length + qs.length ≤ 200000) (hbase : base ≤ w.heap.size) (hbb : ∀ b, v.ownBlock = some b → N ≤ b) :
    ∃ v' w' us', (Builtin.append_ #[29, 29] 29 #[v, x]).run Try.prog w = .ok v' w' ∧ OwnG w' base v' us' (ps ++ qs) ∧ w.grownBy w' v.ownBlock ∧ (v'.ownBlock = v.ownBlock ∨ v'.ownBlock = some w.heap.size) := by
  obtain ⟨i0, hi0, hz0, hz1, hz2⟩ := info_parts slice_info
  obtain ⟨A, c, vs, rfl, h1, h2, h3, h4⟩ := hr
  by_cases hz : qs = []
  · subst hz
    have hv : ∃ A n cp, v = .slice A n cp ∧ n ≤ cp := by
      rcases hown.own.2 with ⟨e, _⟩ | ⟨g, cap, cur, e, _, _, hle, _⟩
      · exact ⟨_, _, _, e, Nat.le_refl _⟩
      · exact ⟨_, _, _, e, hle⟩
    obtain ⟨A', n, cp, rfl, hle⟩ := hv
    have hs : Src Try.prog i0.size 29 (.slice A ([] : List (List Int)).length c) 0 [] w := by
      cases A with
      | none => exact Src.ofNil w Try.underlying29 c
      | some a => exact Src.ofSlice w Try.underlying29 a 0 c [] (by simp) (fun j u hu => by simp at hu) (by simp)
    exact ⟨_, w, us, run_append_nothing w 29 29 29 22 i0 Try.underlying29 hi0 A' n cp hle _ hs, by rw [List.append_nil]; exact hown, grown_refl w _, .inl rfl⟩
  · rcases h3 with e | ⟨b, off, rfl, hlt, hc⟩
    · exact absurd e hz
    have hvl : vs.length = qs.length := h4.1.symm
    have hone : ∀ u ∈ vs, u.oneCell' = true := fun u hu => by
      obtain ⟨j, hj, e⟩ := List.getElem_of_mem hu
      have hj' : j < qs.length := by omega
      obtain ⟨A1, L1, c1, e1, _⟩ := (h4.2 j u _ (by rw [← e]; exact List.getElem?_eq_getElem hj) (nthL_get hj')).1.open'
      rw [e1]; rfl
    have hul := hown.rows.1
    obtain ⟨v', w', hrun, r1, r2, _, r4⟩ := run_append_own_at (P := Try.prog) w base 29 29 22 i0 _ 1 24 Try.underlying29 hi0 hz0 hz1 hz2 rfl (by omega) v us.length us hown.own ⟨b, off, none⟩ qs.length c vs (by simp [hvl])
      (fun j u hu => by rw [Addr.add_mid]; exact hc j u hu) hone (by unfold maxLen; omega) (by omega) hbase
    have hvs : RowsOf w 0 (fun b => v.ownBlock = some b) vs qs := h4.weak fun b _ hb => hbb b hb
    have ht : Touch w w' (fun b => v.ownBlock = some b) := Touch.of_grown r2 (fun i e => e)
    have hall := (hown.rows.append hvs)
    have hall2 := hall.touch ht (fun _ h => h)
    refine ⟨v', w', us ++ vs, hrun, ⟨by rw [List.length_append, hvl]; exact r1, ⟨hall2.1, fun j u z hu hz' => ?_⟩⟩, r2, r4⟩
    obtain ⟨q1, q2⟩ := hall2.2 j u z hu hz'
    refine ⟨q1, fun hne b' hb' hG => ?_⟩
    rcases r4 with e | e
    · exact q2 hne b' hb' (e ▸ hG)
    · have := (hall.2 j u z hu hz').1.block hne b' hb'
      rw [e] at hG; injection hG with hG; omega

theorem wpList_append_grid {ops : Array Oper} {rest : List Oper} {o : Oper} {a : Act} {Q : Exit → Act → World → Prop} (hgd : o.guard = none) (s y : Operand)
    (ho : o.op = .call { callee := .builtin .append, args := #[s, y], argTypes := #[29, 29] }) (hty : o.type = 29)
    {w : World} {base N : Nat} {v x : Value} {us : List Value} {ps qs : List (List Int)} (hs : a.eval s = v) (hx : a.eval y = x) (hown : OwnG w base v us ps) (hr : GridB w N x qs) (hl : ps.length + qs.length ≤ 200000) (hbase : base ≤ w.heap.size) (hbb : ∀ b, v.ownBlock = some b → N ≤ b)
    (hK : ∀ A' L' c' us' w', OwnG w' base (.slice A' L' c') us' (ps ++ qs) → w.grownBy w' v.ownBlock → ((Value.slice A' L' c').ownBlock = v.ownBlock ∨ (Value.slice A' L' c').ownBlock = some w.heap.size) → wpList Try.prog ops Q rest (a.put o.dst (.slice A' L' c')) w') : wpList Try.prog ops Q (o :: rest) a w := by
  refine wpList_plain hgd fun K hK' => ?_
  obtain ⟨v', w', us', hrun, r1, r2, r3⟩ := run_append_grid w base N v x us ps qs hown hr hl hbase hbb
  have hv : ∃ A n cp, v' = .slice A n cp := by
    rcases r1.own.2 with ⟨e, _⟩ | ⟨g, cap, cur, e, _⟩
    · exact ⟨_, _, _, e⟩
    · exact ⟨_, _, _, e⟩
  obtain ⟨A', L', c', rfl⟩ := hv
  unfold Oper.wp
  simp [execOp, ho, hty, resolve, invoke, builtin, hs, hx, hrun, Result.andThen]
  exact hK' _ _ (hK A' L' c' us' w' r1 r2 r3)

end Go.Proofs.Ytiomocmceccmbaa.Cn
