/- An append of a whole row (nil, empty or any) onto a row of the call's own. -/
import Derived.Test.YtiomocmceccmbaaCnFixed
namespace Go.Proofs.Ytiomocmceccmbaa.Cn
open Go.RowKit

def intsV (l : List Int) : List Value := l.map (Value.int .i64)
theorem intsV_len (l : List Int) : (intsV l).length = l.length := by simp [intsV]
theorem intsV_get {l : List Int} {j : Nat} (h : j < l.length) : (intsV l)[j]? = some (.int .i64 (nthI l j)) := by
  unfold intsV; rw [List.getElem?_map, nthI_get h]; rfl

theorem int_info : (Try.prog.info? 3).map (fun i => (i.zero, i.size, i.bytes)) = some (some (.int .i64 0), 1, 8) := by kernel_rfl

/-- A row of the call's own, of numbers. -/
def Own (w : World) (base : Nat) (v : Value) (zs : List Int) : Prop := w.ownsRow base 3 1 v zs.length (intsV zs)

theorem run_append_row (w : World) (base ba : Nat) (v x : Value) (xs zs : List Int) (hown : Own w base v xs) (hr : Row w ba x zs) (hl : xs.length + zs.length ≤ 200000) (hbase : base ≤ w.heap.size) :
    ∃ v' w', (Builtin.append_ #[22, 22] 22 #[v, x]).run Try.prog w = .ok v' w' ∧ Own w' base v' (xs ++ zs) ∧ w.grownBy w' v.ownBlock ∧ (v'.ownBlock = v.ownBlock ∨ v'.ownBlock = some w.heap.size) := by
  obtain ⟨i0, hi0, hz0, hz1, hz2⟩ := info_parts int_info
  obtain ⟨A, c, rfl, h1, h2, h3, h4⟩ := hr
  by_cases hz : zs = []
  · subst hz
    have hv : ∃ A n cp, v = .slice A n cp ∧ n ≤ cp := by
      rcases hown.2 with ⟨e, _⟩ | ⟨g, cap, cur, e, _, _, hle, _⟩
      · exact ⟨_, _, _, e, Nat.le_refl _⟩
      · exact ⟨_, _, _, e, hle⟩
    obtain ⟨A', n, cp, rfl, hle⟩ := hv
    have hs : Src Try.prog i0.size 22 (.slice A ([] : List Int).length c) 0 [] w := by
      cases A with
      | none => exact Src.ofNil w Try.underlying22 c
      | some a => exact Src.ofSlice w Try.underlying22 a 0 c [] (by simp) (fun j u hu => by simp at hu) (by simp)
    exact ⟨_, w, run_append_nothing w 22 22 22 3 i0 Try.underlying22 hi0 A' n cp hle _ hs, by rw [List.append_nil]; exact hown, grown_refl w _, .inl rfl⟩
  · rcases h3 with e | ⟨b, off, rfl, hB, hlt, hc⟩
    · exact absurd e hz
    obtain ⟨v', w', hrun, r1, r2, _, r4⟩ := run_append_own_at (P := Try.prog) w base 22 22 3 i0 _ 1 8 Try.underlying22 hi0 hz0 hz1 hz2 rfl (by omega) v xs.length (intsV xs) hown ⟨b, off, none⟩ zs.length c (intsV zs) (by simp [intsV])
      (fun j u hu => by
        have hj : j < zs.length := by have := (List.getElem?_eq_some_iff.1 hu).1; simpa [intsV] using this
        rw [intsV_get hj] at hu
        injection hu with hu
        rw [Addr.add_mid, ← hu]; exact hc j hj) (fun u hu => by unfold intsV at hu; simp at hu; obtain ⟨x, _, rfl⟩ := hu; rfl) (by unfold maxLen; omega) (by omega) hbase
    refine ⟨v', w', hrun, ?_, r2, r4⟩
    unfold Own
    rw [List.length_append, show intsV (xs ++ zs) = intsV xs ++ intsV zs by simp [intsV]]
    exact r1

theorem wpList_append_row {ops : Array Oper} {rest : List Oper} {o : Oper} {a : Act} {Q : Exit → Act → World → Prop} (hgd : o.guard = none) (s y : Operand)
    (ho : o.op = .call { callee := .builtin .append, args := #[s, y], argTypes := #[22, 22] }) (hty : o.type = 22)
    {w : World} {base ba : Nat} {v x : Value} {xs zs : List Int} (hs : a.eval s = v) (hx : a.eval y = x) (hown : Own w base v xs) (hr : Row w ba x zs) (hl : xs.length + zs.length ≤ 200000) (hbase : base ≤ w.heap.size)
    (hK : ∀ A' L' c' w', Own w' base (.slice A' L' c') (xs ++ zs) → w.grownBy w' v.ownBlock → ((Value.slice A' L' c').ownBlock = v.ownBlock ∨ (Value.slice A' L' c').ownBlock = some w.heap.size) → wpList Try.prog ops Q rest (a.put o.dst (.slice A' L' c')) w') : wpList Try.prog ops Q (o :: rest) a w := by
  refine wpList_plain hgd fun K hK' => ?_
  obtain ⟨v', w', hrun, r1, r2, r3⟩ := run_append_row w base ba v x xs zs hown hr hl hbase
  have hv : ∃ A n cp, v' = .slice A n cp := by
    rcases r1.2 with ⟨e, _⟩ | ⟨g, cap, cur, e, _⟩
    · exact ⟨_, _, _, e⟩
    · exact ⟨_, _, _, e⟩
  obtain ⟨A', L', c', rfl⟩ := hv
  unfold Oper.wp
  simp [execOp, ho, hty, resolve, invoke, builtin, hs, hx, hrun, Result.andThen]
  exact hK' _ _ (hK A' L' c' w' r1 r2 r3)

theorem Own.row {w : World} {base : Nat} {v : Value} {zs : List Int} (h : Own w base v zs) (hb : ∀ x ∈ zs, -9223372036854775808 ≤ x ∧ x ≤ 9223372036854775807) : Row w base v zs := by
  rcases h.2 with ⟨rfl, h0⟩ | ⟨g, cap, cur, rfl, hg, hh, h1, h2, _, h4⟩
  · have hz : zs = [] := List.eq_nil_of_length_eq_zero h0
    subst hz
    exact ⟨none, 0, rfl, Nat.le_refl _, by simp [maxLen], .inl rfl, hb⟩
  · refine ⟨some ⟨g, 0, none⟩, cap, rfl, h1, h2, .inr ⟨g, 0, rfl, hg, lt_of_heap hh, fun j hj => ?_⟩, hb⟩
    rw [Nat.zero_add]
    refine cells_get hh j ?_
    have := intsV_get hj
    rw [← h4, List.getElem?_take] at this
    split at this
    · simpa using this
    · cases this

theorem Own.touch {w w' : World} {base : Nat} {v : Value} {zs : List Int} {S : Nat → Prop} (h : Own w base v zs) (ht : Touch w w' S) (hS : ∀ g, v.ownBlock = some g → ¬ S g) : Own w' base v zs := own_touch h ht hS
theorem Own.below {w w' : World} {base : Nat} {v : Value} {zs : List Int} (h : Own w base v zs) (hb : Below w.heap.size w w') : Own w' base v zs := own_touch h (Touch.of_below (S := fun _ => False) hb) (fun _ _ h => h)
theorem Own.one {w : World} {base X : Nat} {x : Int} (h : w.heap[X]? = some (.cells #[.int .i64 x] 3 (0, 0))) (hb : base ≤ X) : Own w base (.slice (some ⟨X, 0, none⟩) 1 1) [x] :=
  ⟨rfl, .inr ⟨X, 1, #[.int .i64 x], rfl, hb, h, Nat.le_refl _, by simp [maxLen], rfl, rfl⟩⟩
theorem Row.one {w : World} {X : Nat} {x : Int} (h : w.heap[X]? = some (.cells #[.int .i64 x] 3 (0, 0))) (hx : -9223372036854775808 ≤ x ∧ x ≤ 9223372036854775807) : Row w X (.slice (some ⟨X, 0, none⟩) 1 1) [x] :=
  (Own.one h (Nat.le_refl _)).row (fun y hy => by simp at hy; rw [hy]; exact hx)

end Go.Proofs.Ytiomocmceccmbaa.Cn
