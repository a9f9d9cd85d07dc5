/- Words and lines in memory. -/
import Derived.Test.YtbgamneoghhfpaaDoorMem
import Derived.Test.YtbgamneoghhfpaaDoorRows
import Derived.Test.YtbgamneoghhfpaaDoorLxMath
import Derived.Laws.OwnMore
namespace Go.Proofs.YtbgamneoghhfpaaDoor.Lx
open Go.RowKit

def nthW (l : List Word) (i : Nat) : Word := l[i]?.getD (0, ⟨#[]⟩)
def nthL (l : List Line) (i : Nat) : Line := l[i]?.getD (0, [])
theorem nthW_lt {l : List Word} {i : Nat} (h : i < l.length) : nthW l i = l[i] := by unfold nthW; rw [List.getElem?_eq_getElem h]; rfl
theorem nthL_lt {l : List Line} {i : Nat} (h : i < l.length) : nthL l i = l[i] := by unfold nthL; rw [List.getElem?_eq_getElem h]; rfl

/-- Words that lie in memory. -/
def Words (w : World) (v : Value) (l : List Word) : Prop :=
  ∃ A c, v = .slice A l.length c ∧ l.length ≤ c ∧ c ≤ maxLen ∧ (0 < l.length → ∃ b, A = some ⟨b, 0, none⟩ ∧ b < w.heap.size ∧ ∀ j, j < l.length →
    w.cell? ⟨b, j * 2, none⟩ = some (.int .i64 ((nthW l j).1 : Nat)) ∧ w.cell? ⟨b, j * 2 + 1, none⟩ = some (.string (nthW l j).2))
/-- Lines that lie in memory. -/
def Lines (w : World) (v : Value) (l : List Line) : Prop :=
  ∃ A c, v = .slice A l.length c ∧ l.length ≤ c ∧ c ≤ maxLen ∧ (0 < l.length → ∃ b, A = some ⟨b, 0, none⟩ ∧ b < w.heap.size ∧ ∀ j, j < l.length →
    w.cell? ⟨b, j * 2, none⟩ = some (.int .i64 ((nthL l j).1 : Nat)) ∧ ∃ u, w.cell? ⟨b, j * 2 + 1, none⟩ = some u ∧ Words w u (nthL l j).2)

theorem Words.below {w w' : World} {B : Nat} {v : Value} {l : List Word} (h : Words w v l) (hb : Below B w w') (hB : w.heap.size ≤ B) : Words w' v l := by
  obtain ⟨A, c, e, h1, h2, h3⟩ := h
  refine ⟨A, c, e, h1, h2, fun hp => ?_⟩
  obtain ⟨b, ha, hlt, hc⟩ := h3 hp
  exact ⟨b, ha, Nat.lt_of_lt_of_le hlt hb.size, fun j hj => ⟨(hb.cell (p := ⟨b, j * 2, none⟩) (by simp; omega)).trans (hc j hj).1, (hb.cell (p := ⟨b, j * 2 + 1, none⟩) (by simp; omega)).trans (hc j hj).2⟩⟩
theorem Lines.below {w w' : World} {B : Nat} {v : Value} {l : List Line} (h : Lines w v l) (hb : Below B w w') (hB : w.heap.size ≤ B) : Lines w' v l := by
  obtain ⟨A, c, e, h1, h2, h3⟩ := h
  refine ⟨A, c, e, h1, h2, fun hp => ?_⟩
  obtain ⟨b, ha, hlt, hc⟩ := h3 hp
  refine ⟨b, ha, Nat.lt_of_lt_of_le hlt hb.size, fun j hj => ?_⟩
  obtain ⟨g1, u, g2, g3⟩ := hc j hj
  exact ⟨(hb.cell (p := ⟨b, j * 2, none⟩) (by simp; omega)).trans g1, u, (hb.cell (p := ⟨b, j * 2 + 1, none⟩) (by simp; omega)).trans g2, g3.below hb hB⟩
theorem Words.open' {w : World} {v : Value} {l : List Word} (h : Words w v l) : ∃ A L c, v = .slice A L c ∧ L = l.length ∧ L ≤ c ∧ c ≤ maxLen ∧ (0 < L → ∃ b, A = some ⟨b, 0, none⟩ ∧ b < w.heap.size ∧ ∀ j, j < L →
    w.cell? ⟨b, j * 2, none⟩ = some (.int .i64 ((nthW l j).1 : Nat)) ∧ w.cell? ⟨b, j * 2 + 1, none⟩ = some (.string (nthW l j).2)) := by
  obtain ⟨A, c, e, h1, h2, h3⟩ := h
  exact ⟨A, _, c, e, rfl, h1, h2, h3⟩
theorem Lines.open' {w : World} {v : Value} {l : List Line} (h : Lines w v l) : ∃ A L c, v = .slice A L c ∧ L = l.length ∧ L ≤ c ∧ c ≤ maxLen ∧ (0 < L → ∃ b, A = some ⟨b, 0, none⟩ ∧ b < w.heap.size ∧ ∀ j, j < L →
    w.cell? ⟨b, j * 2, none⟩ = some (.int .i64 ((nthL l j).1 : Nat)) ∧ ∃ u, w.cell? ⟨b, j * 2 + 1, none⟩ = some u ∧ Words w u (nthL l j).2) := by
  obtain ⟨A, c, e, h1, h2, h3⟩ := h
  exact ⟨A, _, c, e, rfl, h1, h2, h3⟩

/-! Rows of the call's own. -/
def cellsW (l : List Word) : List Value := l.flatMap fun x => [.int .i64 (x.1 : Nat), .string x.2]
theorem cellsW_len (l : List Word) : (cellsW l).length = l.length * 2 := by
  induction l with
  | nil => rfl
  | cons x r ih => simp [cellsW] at ih ⊢; omega
theorem cellsW_get : ∀ (l : List Word) (j : Nat), j < l.length → (cellsW l)[j * 2]? = some (.int .i64 ((nthW l j).1 : Nat)) ∧ (cellsW l)[j * 2 + 1]? = some (.string (nthW l j).2)
  | [], _, h => by simp at h
  | x :: l, 0, _ => by simp [cellsW, nthW]
  | x :: l, j + 1, h => by
    have := cellsW_get l j (by simpa using h)
    have e : ∀ i, (cellsW (x :: l))[(j + 1) * 2 + i]? = (cellsW l)[j * 2 + i]? := by
      intro i
      unfold cellsW
      rw [List.flatMap_cons, List.getElem?_append_right (by simp; omega)]
      congr 1
      simp; omega
    have en : nthW (x :: l) (j + 1) = nthW l j := by simp [nthW]
    rw [en]
    exact ⟨(e 0).trans this.1, (e 1).trans this.2⟩
theorem cellsW_app (a b : List Word) : cellsW (a ++ b) = cellsW a ++ cellsW b := by simp [cellsW]
theorem cellsW_one (l : List Word) : ∀ u ∈ cellsW l, u.oneCell' = true := by
  intro u hu; unfold cellsW at hu; simp at hu
  obtain ⟨x, y, _, h | h⟩ := hu <;> subst h <;> rfl

def OwnW (w : World) (base : Nat) (v : Value) (l : List Word) : Prop := w.ownsRow base 39 2 v l.length (cellsW l)
theorem OwnW.words {w : World} {base : Nat} {v : Value} {l : List Word} (h : OwnW w base v l) : Words w v l := by
  rcases h.2 with ⟨rfl, h0⟩ | ⟨g, cap, cur, rfl, hg, hh, h1, h2, _, h4⟩
  · exact ⟨none, 0, by rw [h0], by omega, by simp [maxLen], fun hp => by omega⟩
  · refine ⟨some ⟨g, 0, none⟩, cap, rfl, h1, h2, fun _ => ⟨g, rfl, lt_of_heap hh, fun j hj => ?_⟩⟩
    have hc : ∀ i u, (cellsW l)[i]? = some u → w.cell? ⟨g, i, none⟩ = some u := by
      intro i u hu
      refine cells_get hh i ?_
      rw [← h4, List.getElem?_take] at hu
      split at hu
      · simpa using hu
      · cases hu
    obtain ⟨q1, q2⟩ := cellsW_get l j hj
    exact ⟨hc _ _ q1, hc _ _ q2⟩
theorem OwnW.touch {w w' : World} {base : Nat} {v : Value} {l : List Word} {S : Nat → Prop} (h : OwnW w base v l) (ht : Touch w w' S) (hS : ∀ g, v.ownBlock = some g → ¬ S g) : OwnW w' base v l := own_touch h ht hS
theorem OwnW.below {w w' : World} {base : Nat} {v : Value} {l : List Word} (h : OwnW w base v l) (hb : Below w.heap.size w w') : OwnW w' base v l := own_touch h (Touch.of_below (S := fun _ => False) hb) (fun _ _ h => h)
theorem OwnW.base {w : World} {base base' : Nat} {v : Value} {l : List Word} (h : OwnW w base v l) (hb : base' ≤ base) : OwnW w base' v l := ownsRow_base h hb
theorem OwnW.slice {w : World} {base : Nat} {v : Value} {l : List Word} (h : OwnW w base v l) : ∃ A c, v = .slice A l.length c := by
  rcases own_len h with ⟨e, h0⟩ | ⟨g, cap, e⟩
  · exact ⟨none, 0, by rw [e, h0]⟩
  · exact ⟨_, _, e⟩
theorem OwnW.alloc {w : World} {base : Nat} {v : Value} {l : List Word} (h : OwnW w base v l) (o : Obj) : OwnW (w.alloc o) base v l := h.below ((Below.refl _ _).alloc (Nat.le_refl _) o)
theorem own_nilW (w : World) (base : Nat) : OwnW w base (.slice none 0 0) [] := ⟨rfl, .inl ⟨rfl, rfl⟩⟩
/-- Its last text is another one. -/
theorem OwnW.setLast {w : World} {base g n cap : Nat} {l : List Word} {c : Nat} {s t : ByteArray} (h : OwnW w base (.slice (some ⟨g, 0, none⟩) n cap) (l ++ [(c, s)])) :
    OwnW (w.setCell ⟨g, l.length * 2 + 1, none⟩ (.string t)) base (.slice (some ⟨g, 0, none⟩) n cap) (l ++ [(c, t)]) := by
  obtain ⟨A, c', e⟩ := h.slice
  injection e with _ en _
  have hn : n = l.length + 1 := by simpa using en
  subst hn
  have hh : w.ownsRow base 39 2 (.slice (some ⟨g, 0, none⟩) (l.length + 1) cap) (l.length + 1) (cellsW (l ++ [(c, s)])) := by
    have := h; unfold OwnW at this; simpa using this
  have := (World.ownsRow.stored hh (l.length * 2 + 1) (.string t)).1
  unfold OwnW
  have e2 : (cellsW (l ++ [(c, s)])).set (l.length * 2 + 1) (.string t) = cellsW (l ++ [(c, t)]) := by
    rw [cellsW_app, cellsW_app, List.set_append_right _ _ (by rw [cellsW_len]; omega), cellsW_len]
    rw [show l.length * 2 + 1 - l.length * 2 = 1 by omega]
    rfl
  rw [e2] at this
  simpa using this
/-- Where its last element lies. -/
theorem OwnW.last {w : World} {base n cap : Nat} {A : Option Addr} {l : List Word} {c : Nat} {s : ByteArray} (h : OwnW w base (.slice A n cap) (l ++ [(c, s)])) :
    ∃ g, A = some ⟨g, 0, none⟩ ∧ n = l.length + 1 ∧ base ≤ g ∧ g < w.heap.size ∧ w.cell? ⟨g, l.length * 2, none⟩ = some (.int .i64 (c : Nat)) ∧ w.cell? ⟨g, l.length * 2 + 1, none⟩ = some (.string s) ∧ (∀ j, w.frozen? ⟨g, j, none⟩ = false) := by
  rcases h.2 with ⟨_, h0⟩ | ⟨g, cap', cur, e, hg, hh, h1, h2, h3, h4⟩
  · simp at h0
  · injection e with e1 e2 e3
    subst e1
    have hc : ∀ i u, (cellsW (l ++ [(c, s)]))[i]? = some u → w.cell? ⟨g, i, none⟩ = some u := by
      intro i u hu
      refine cells_get hh i ?_
      rw [← h4, List.getElem?_take] at hu
      split at hu
      · simpa using hu
      · cases hu
    have hl : l.length < (l ++ [(c, s)]).length := by simp
    obtain ⟨q1, q2⟩ := cellsW_get (l ++ [(c, s)]) l.length hl
    have en : nthW (l ++ [(c, s)]) l.length = (c, s) := by simp [nthW]
    rw [en] at q1 q2
    exact ⟨g, rfl, by simpa using e2, hg, lt_of_heap hh, hc _ _ q1, hc _ _ q2, fun j => cells_free hh j⟩

/-- A row of lines of the call's own. -/
def cellsL : List Value → List Line → List Value
  | u :: us, x :: r => .int .i64 (x.1 : Nat) :: u :: cellsL us r
  | _, _ => []
theorem cellsL_len : ∀ (us : List Value) (l : List Line), us.length = l.length → (cellsL us l).length = l.length * 2
  | [], [], _ => rfl
  | u :: us, x :: r, h => by simp only [cellsL, List.length_cons]; rw [cellsL_len us r (by simpa using h)]; omega
  | [], x :: r, h => by simp at h
  | u :: us, [], h => by simp at h
theorem cellsL_app : ∀ (us : List Value) (l : List Line), us.length = l.length → ∀ (u : Value) (x : Line), cellsL (us ++ [u]) (l ++ [x]) = cellsL us l ++ [.int .i64 (x.1 : Nat), u]
  | [], [], _, u, x => rfl
  | u :: us, x :: r, h, v, y => by simp only [List.cons_append, cellsL]; rw [cellsL_app us r (by simpa using h)]
  | [], x :: r, h, _, _ => by simp at h
  | u :: us, [], h, _, _ => by simp at h
theorem cellsL_get : ∀ (us : List Value) (l : List Line) (j : Nat) (u : Value), us.length = l.length → us[j]? = some u → (cellsL us l)[j * 2]? = some (.int .i64 ((nthL l j).1 : Nat)) ∧ (cellsL us l)[j * 2 + 1]? = some u
  | [], _, _, _, _, h => by simp at h
  | u :: us, [], _, _, h, _ => by simp at h
  | u :: us, x :: r, 0, v, _, h => by simp at h; subst h; simp [cellsL, nthL]
  | u :: us, x :: r, j + 1, v, hl, h => by
    obtain ⟨h1, h2⟩ := cellsL_get us r j v (by simpa using hl) (by simpa using h)
    have e1 : (j + 1) * 2 = j * 2 + 1 + 1 := by omega
    rw [e1]
    simp only [cellsL, List.getElem?_cons_succ]
    exact ⟨by simpa [nthL] using h1, h2⟩
def OwnL (w : World) (base : Nat) (v : Value) (us : List Value) (ls : List Line) : Prop :=
  w.ownsRow base 37 2 v ls.length (cellsL us ls) ∧ us.length = ls.length ∧ ∀ (j : Nat) (u : Value) (z : Line), us[j]? = some u → ls[j]? = some z → OwnW w base u z.2
theorem OwnL.below {w w' : World} {base : Nat} {v : Value} {us : List Value} {ls : List Line} (h : OwnL w base v us ls) (hb : Below w.heap.size w w') : OwnL w' base v us ls :=
  ⟨own_touch h.1 (Touch.of_below (S := fun _ => False) hb) (fun _ _ h => h), h.2.1, fun j u z hu hz => (h.2.2 j u z hu hz).below hb⟩
theorem OwnL.belowB {w w' : World} {base B : Nat} {v : Value} {us : List Value} {ls : List Line} (h : OwnL w base v us ls) (hb : Below B w w') (hB : w.heap.size ≤ B) : OwnL w' base v us ls := h.below (hb.mono hB)
theorem OwnL.alloc {w : World} {base : Nat} {v : Value} {us : List Value} {ls : List Line} (h : OwnL w base v us ls) (o : Obj) : OwnL (w.alloc o) base v us ls := h.below ((Below.refl _ _).alloc (Nat.le_refl _) o)
theorem OwnL.slice {w : World} {base : Nat} {v : Value} {us : List Value} {ls : List Line} (h : OwnL w base v us ls) : ∃ A c, v = .slice A ls.length c := by
  rcases own_len h.1 with ⟨e, h0⟩ | ⟨g, cap, e⟩
  · exact ⟨none, 0, by rw [e, h0]⟩
  · exact ⟨_, _, e⟩
theorem OwnL.nil (w : World) (base : Nat) : OwnL w base (.slice none 0 0) [] [] := ⟨⟨rfl, .inl ⟨rfl, rfl⟩⟩, rfl, fun j u z h => by simp at h⟩
theorem OwnL.lines {w : World} {base : Nat} {v : Value} {us : List Value} {ls : List Line} (h : OwnL w base v us ls) : Lines w v ls := by
  rcases h.1.2 with ⟨rfl, h0⟩ | ⟨g, cap, cur, rfl, hg, hh, h1, h2, _, h4⟩
  · exact ⟨none, 0, by rw [h0], by omega, by simp [maxLen], fun hp => by omega⟩
  · refine ⟨some ⟨g, 0, none⟩, cap, rfl, h1, h2, fun _ => ⟨g, rfl, lt_of_heap hh, fun j hj => ?_⟩⟩
    have hc : ∀ i u, (cellsL us ls)[i]? = some u → w.cell? ⟨g, i, none⟩ = some u := by
      intro i u hu
      refine cells_get hh i ?_
      rw [← h4, List.getElem?_take] at hu
      split at hu
      · simpa using hu
      · cases hu
    obtain ⟨u, hu⟩ : ∃ u, us[j]? = some u := ⟨_, List.getElem?_eq_getElem (by rw [h.2.1]; exact hj)⟩
    obtain ⟨q1, q2⟩ := cellsL_get us ls j u h.2.1 hu
    exact ⟨hc _ _ q1, u, hc _ _ q2, (h.2.2 j u _ hu (by rw [nthL_lt hj]; exact List.getElem?_eq_getElem hj)).words⟩
theorem OwnL.app {W w' : World} {base : Nat} {v v' u : Value} {us : List Value} {ls : List Line} {z : Line} (h : OwnL W base v us ls) (hu : OwnW W base u z.2) (h1 : w'.ownsRow base 37 2 v' (ls.length + 1) (cellsL us ls ++ [.int .i64 (z.1 : Nat), u])) (hg : W.grownBy w' v.ownBlock) :
    OwnL w' base v' (us ++ [u]) (ls ++ [z]) := by
  have ht := Touch.of_grown (S := fun i => v.ownBlock = some i) hg (fun i e => e)
  have hap : ∀ x (zz : List Word), OwnW W base x zz → OwnW w' base x zz := fun x zz hx => hx.touch ht (fun g e e2 => by
    rcases h.1.2 with ⟨e3, _⟩ | ⟨g', cap, cur, e3, _, hh, _⟩
    · rw [e3] at e2; simp [Value.ownBlock] at e2
    · have e4 : v.ownBlock = some g' := by rw [e3]; rfl
      rw [e4] at e2
      injection e2 with e2
      subst e2
      exact own_apart hx hh (by decide) e)
  refine ⟨by rw [cellsL_app us ls h.2.1]; simpa using h1, by simp [h.2.1], fun j x zz hx hz => ?_⟩
  by_cases hj : j < ls.length
  · rw [List.getElem?_append_left (by rw [h.2.1]; exact hj)] at hx
    rw [List.getElem?_append_left hj] at hz
    exact hap _ _ (h.2.2 j x zz hx hz)
  · rw [List.getElem?_append_right (by omega)] at hz
    rw [List.getElem?_append_right (by have := h.2.1; omega)] at hx
    have hj0 : j - ls.length = 0 := by
      have := (List.getElem?_eq_some_iff.1 hz).1
      simp at this; omega
    rw [hj0] at hz
    rw [h.2.1, hj0] at hx
    simp at hx hz
    subst hx; subst hz
    exact hap _ _ hu

theorem word_info : (Tryd.prog.info? 39).map (fun i => (i.zero, i.size, i.bytes)) = some (some (.agg #[.int .i64 0, .string ⟨#[]⟩]), 2, 24) := by kernel_rfl
theorem line_info : (Tryd.prog.info? 37).map (fun i => (i.zero, i.size, i.bytes)) = some (some (.agg #[.int .i64 0, .slice none 0 0]), 2, 32) := by kernel_rfl

/-- A word is appended. -/
theorem appW_list {ops : Array Oper} {rest : List Oper} {o : Oper} {a : Act} {Q : Exit → Act → World → Prop} {W : World} {base n blk cp : Nat} {A : Option Addr} {l : List Word} (c : Nat) (t : ByteArray) (cv : Int) (s y : Operand)
    (hgd : o.guard = none) (ho : o.op = .call { callee := .builtin .append, args := #[s, y], argTypes := #[35, 35] })
    (hs : a.eval s = .slice A n cp) (hown : OwnW W base (.slice A n cp) l) (hx : a.eval y = .slice (some ⟨blk, 0, none⟩) 1 1)
    (hn : W.heap[blk]? = some (.cells #[.int .i64 cv, .string t] 39 (0, 0))) (hcv : cv = (c : Nat)) (hsz : l.length ≤ 65536) (hbase : base ≤ W.heap.size)
    (h : ∀ g m cp' w', OwnW w' base (.slice (some ⟨g, 0, none⟩) m cp') (l ++ [(c, t)]) → m = l.length + 1 → W.grownBy w' (Value.slice A n cp).ownBlock → g < w'.heap.size → wpList Tryd.prog ops Q rest (a.put o.dst (.slice (some ⟨g, 0, none⟩) m cp')) w') :
    wpList Tryd.prog ops Q (o :: rest) a W := by
  subst hcv
  obtain ⟨i0, hi0, hz0, hz1, hz2⟩ := info_parts word_info
  obtain ⟨A', c', e⟩ := hown.slice
  injection e with _ e2 _
  subst e2
  refine wpList_plain hgd fun K hK => ?_
  exact wp_append_lies W s y 35 ho base 39 i0 _ 2 24 Tryd.underlying35 hi0 hz0 hz1 hz2 rfl (by omega) _ l.length (cellsW l) hs hown ⟨blk, 0, none⟩ 1 1 (cellsW [(c, t)]) hx rfl
    (World.news_of_block (cs := #[.int .i64 (c : Nat), .string t]) hn) (cellsW_one _) (by omega) (by unfold maxLen; omega) (by omega) hbase _ rfl (fun g cap w' h1 h2 h3 h4 => hK _ _ (h g _ cap w' (by unfold OwnW; rw [cellsW_app, List.length_append]; exact h1) rfl h2 h4))

/-- A line is appended. -/
theorem appL_list {ops : Array Oper} {rest : List Oper} {o : Oper} {a : Act} {Q : Exit → Act → World → Prop} {W : World} {base n blk cp : Nat} {A : Option Addr} {us : List Value} {ls : List Line} {A1 : Option Addr} {L1 c1 : Nat} {z : List Word} (at_ : Nat) (cv : Int) (s y : Operand)
    (hgd : o.guard = none) (ho : o.op = .call { callee := .builtin .append, args := #[s, y], argTypes := #[23, 23] })
    (hs : a.eval s = .slice A n cp) (hown : OwnL W base (.slice A n cp) us ls) (hx : a.eval y = .slice (some ⟨blk, 0, none⟩) 1 1)
    (hn : W.heap[blk]? = some (.cells #[.int .i64 cv, .slice A1 L1 c1] 37 (0, 0))) (hcv : cv = (at_ : Nat)) (hu : OwnW W base (.slice A1 L1 c1) z) (hsz : ls.length ≤ 65536) (hbase : base ≤ W.heap.size)
    (h : ∀ T m c w', OwnL w' base (.slice T m c) (us ++ [.slice A1 L1 c1]) (ls ++ [(at_, z)]) → m = ls.length + 1 → W.grownBy w' (Value.slice A n cp).ownBlock → wpList Tryd.prog ops Q rest (a.put o.dst (.slice T m c)) w') :
    wpList Tryd.prog ops Q (o :: rest) a W := by
  subst hcv
  obtain ⟨i0, hi0, hz0, hz1, hz2⟩ := info_parts line_info
  obtain ⟨A', c', e⟩ := hown.slice
  injection e with _ e2 _
  subst e2
  refine wpList_plain hgd fun K hK => ?_
  exact wp_append_lies W s y 23 ho base 37 i0 _ 2 32 Tryd.underlying23 hi0 hz0 hz1 hz2 rfl (by omega) _ ls.length (cellsL us ls) hs hown.1 ⟨blk, 0, none⟩ 1 1 [.int .i64 (at_ : Nat), .slice A1 L1 c1] hx rfl
    (World.news_of_block (cs := #[.int .i64 (at_ : Nat), .slice A1 L1 c1]) hn) (by simp [Value.oneCell']) (by omega) (by unfold maxLen; omega) (by omega) hbase _ rfl (fun g cap w' h1 h2 h3 h4 => hK _ _ (h _ _ cap w' (hown.app (z := (at_, z)) hu h1 h2) rfl h2))

end Go.Proofs.YtbgamneoghhfpaaDoor.Lx
