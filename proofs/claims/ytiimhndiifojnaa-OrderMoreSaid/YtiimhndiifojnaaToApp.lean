/- Numbers are appended to a row of the call's own. -/
import Derived.Test.YtiimhndiifojnaaOrKit
import Derived.Maps.AppendAt
namespace Go.Proofs.Ytiimhndiifojnaa.To
open Go.RowKit

abbrev encI : Int → Value := Value.int .i64
/-- A row of numbers of the call's own. -/
def OwnL (w : World) (base : Nat) (v : Value) (l : List Int) : Prop := w.ownsRow base 3 1 v l.length (l.map encI)
theorem OwnL.nil (w : World) (base : Nat) : OwnL w base (.slice none 0 0) [] := ⟨rfl, .inl ⟨rfl, rfl⟩⟩
theorem OwnL.empty {w : World} {base X : Nat} (h : w.heap[X]? = some (.cells #[] 3 (0, 0))) (hb : base ≤ X) : OwnL w base (.slice (some ⟨X, 0, none⟩) 0 0) [] :=
  ⟨rfl, .inr ⟨X, 0, #[], rfl, hb, h, Nat.le_refl _, Nat.zero_le _, rfl, rfl⟩⟩
theorem OwnL.touch {w w' : World} {base : Nat} {v : Value} {l : List Int} {S : Nat → Prop} (h : OwnL w base v l) (ht : Touch w w' S) (hS : ∀ g, v.ownBlock = some g → ¬ S g) : OwnL w' base v l := own_touch h ht hS
theorem OwnL.below {w w' : World} {base : Nat} {v : Value} {l : List Int} (h : OwnL w base v l) (hb : Below w.heap.size w w') : OwnL w' base v l := h.touch (Touch.of_below (S := fun _ => False) hb) (fun _ _ h => h)
theorem OwnL.sl {w : World} {base : Nat} {v : Value} {l : List Int} (h : OwnL w base v l) : ∃ A L c, v = .slice A L c := by
  rcases own_len h with ⟨e, _⟩ | ⟨g, cap, e⟩
  · exact ⟨_, _, _, e⟩
  · exact ⟨_, _, _, e⟩
theorem OwnL.len {w : World} {base : Nat} {A : Option Addr} {L c : Nat} {l : List Int} (h : OwnL w base (.slice A L c) l) : L = l.length := by
  rcases own_len h with ⟨e, h0⟩ | ⟨g, cap, e⟩
  · injection e with e1 e2 e3; omega
  · injection e
theorem OwnL.lt {w : World} {base : Nat} {v : Value} {l : List Int} (h : OwnL w base v l) (g : Nat) (hg : v.ownBlock = some g) : base ≤ g ∧ g < w.heap.size := World.ownsRow.lt h g hg
theorem OwnL.open' {w : World} {base : Nat} {A : Option Addr} {L c : Nat} {l : List Int} (h : OwnL w base (.slice A L c) l) : L = l.length ∧ L ≤ c ∧ c ≤ maxLen ∧ (0 < L → ∃ g, A = some ⟨g, 0, none⟩ ∧ base ≤ g ∧ g < w.heap.size ∧ ∀ j, j < L → w.cell? ⟨g, j, none⟩ = some (encI (l[j]?.getD 0))) := by
  obtain ⟨hl, h⟩ := h
  rcases h with ⟨e, h0⟩ | ⟨g, cap, cur, e, hg, hh, h1, h2, _, h4⟩
  · injection e with e1 e2 e3
    subst e1 e2 e3
    exact ⟨h0.symm, Nat.le_refl _, Nat.zero_le _, fun h => absurd h (Nat.lt_irrefl _)⟩
  · injection e with e1 e2 e3
    subst e1 e2 e3
    refine ⟨rfl, h1, h2, fun _ => ⟨g, rfl, hg, lt_of_heap hh, fun j hj => ?_⟩⟩
    have e2 : (cur.toList.take (l.length * 1))[j]? = (l.map encI)[j]? := by rw [h4]
    rw [List.getElem?_take, if_pos (by omega), List.getElem?_map, List.getElem?_eq_getElem hj, Array.getElem?_toList] at e2
    rw [List.getElem?_eq_getElem hj]
    exact cells_get hh _ e2
theorem run_app_ints (w : World) (base : Nat) (v : Value) (l news : List Int) (ad : Addr) (m c : Nat) (hown : OwnL w base v l) (hm : news.length = m) (hsrc : ∀ j u, (news.map encI)[j]? = some u → w.cell? (ad.add j) = some u)
    (hl : l.length + m ≤ 200000) (hbase : base ≤ w.heap.size) :
    ∃ A n c' w', (Builtin.append_ #[23, 23] 23 #[v, .slice (some ad) m c]).run Try.prog w = .ok (.slice A n c') w' ∧ OwnL w' base (.slice A n c') (l ++ news) ∧ w.grownBy w' v.ownBlock ∧
      ((Value.slice A n c').ownBlock = v.ownBlock ∨ (Value.slice A n c').ownBlock = some w.heap.size) := by
  obtain ⟨i0, hi0, hz0, hz1, hz2⟩ := info_parts Or.i64_info
  obtain ⟨v', w', hrun, r1, r2, _, r4⟩ := run_append_own_at (P := Try.prog) w base 23 23 3 i0 _ 1 8 Try.underlying23 hi0 hz0 hz1 hz2 rfl (by omega) v l.length (l.map encI) hown ad m c (news.map encI) (by rw [List.length_map, hm, Nat.mul_one])
      hsrc (fun y hy => by obtain ⟨x, _, rfl⟩ := List.mem_map.1 hy; rfl) (by unfold maxLen; omega) (by omega) hbase
  obtain ⟨A, n, c', rfl⟩ : ∃ A n c, v' = .slice A n c := by
    rcases own_len r1 with ⟨e, _⟩ | ⟨g, cap, e⟩
    · exact ⟨_, _, _, e⟩
    · exact ⟨_, _, _, e⟩
  refine ⟨A, n, c', w', hrun, ?_, r2, r4⟩
  unfold OwnL
  rw [List.length_append, List.map_append, hm]
  exact r1
theorem wpList_app_ints {ops : Array Oper} {rest : List Oper} {o : Oper} {a : Act} {Q : Exit → Act → World → Prop} (hgd : o.guard = none) (s y : Operand)
    (ho : o.op = .call { callee := .builtin .append, args := #[s, y], argTypes := #[23, 23] }) (hty : o.type = 23)
    {w : World} {base : Nat} {v : Value} {l news : List Int} {ad : Addr} {m c : Nat} (hs : a.eval s = v) (hx : a.eval y = .slice (some ad) m c) (hown : OwnL w base v l) (hm : news.length = m)
    (hsrc : ∀ j u, (news.map encI)[j]? = some u → w.cell? (ad.add j) = some u) (hl : l.length + m ≤ 200000) (hbase : base ≤ w.heap.size)
    (hK : ∀ A' L' c' w', OwnL w' base (.slice A' L' c') (l ++ news) → w.grownBy w' v.ownBlock → ((Value.slice A' L' c').ownBlock = v.ownBlock ∨ (Value.slice A' L' c').ownBlock = some w.heap.size) →
      wpList Try.prog ops Q rest (a.put o.dst (.slice A' L' c')) w') : wpList Try.prog ops Q (o :: rest) a w := by
  refine wpList_plain hgd fun K hK' => ?_
  obtain ⟨A, n, c', w', hrun, r1, r2, r3⟩ := run_app_ints w base v l news ad m c hown hm hsrc hl hbase
  unfold Oper.wp
  simp [execOp, ho, hty, resolve, invoke, builtin, hs, hx, hrun, Result.andThen]
  exact hK' _ _ (hK A n c' w' r1 r2 r3)
/-- The same in a region that draws its order. -/
theorem step_app_ints {ops : Array Oper} {o : Oper} {a : Act} {J : Act → World → Prop} {Q : Exit → Act → World → Prop} {E : Prop} (hgd : o.guard = none) (s y : Operand)
    (ho : o.op = .call { callee := .builtin .append, args := #[s, y], argTypes := #[23, 23] }) (hty : o.type = 23)
    {w : World} {base : Nat} {v : Value} {l news : List Int} {ad : Addr} {m c : Nat} (hs : a.eval s = v) (hx : a.eval y = .slice (some ad) m c) (hown : OwnL w base v l) (hm : news.length = m)
    (hsrc : ∀ j u, (news.map encI)[j]? = some u → w.cell? (ad.add j) = some u) (hl : l.length + m ≤ 200000) (hbase : base ≤ w.heap.size)
    (hK : ∀ A' L' c' w', OwnL w' base (.slice A' L' c') (l ++ news) → w.grownBy w' v.ownBlock → ((Value.slice A' L' c').ownBlock = v.ownBlock ∨ (Value.slice A' L' c').ownBlock = some w.heap.size) →
      J (a.put o.dst (.slice A' L' c')) w') : if Region.wanted o (yielded ops a.tmps) = true then Oper.wp Try.prog o a w J Q else E := by
  have hw : Region.wanted o (yielded ops a.tmps) = true := by simp [Region.wanted, hgd]
  rw [if_pos hw]
  obtain ⟨A, n, c', w', hrun, r1, r2, r3⟩ := run_app_ints w base v l news ad m c hown hm hsrc hl hbase
  unfold Oper.wp
  simp [execOp, ho, hty, resolve, invoke, builtin, hs, hx, hrun, Result.andThen]
  exact hK A n c' w' r1 r2 r3
end Go.Proofs.Ytiimhndiifojnaa.To
