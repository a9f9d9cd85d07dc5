/- Rows of the call's own of one-cell elements: one more, or a row more, behind them. -/
import Derived.Test.YtaahdhpljlkfjaaGreatZg02
import Derived.Test.YtaahdhpljlkfjaaGreatRows
import Derived.Deep.Upon
import Derived.Test.YtaahdhpljlkfjaaGreatZg04
import Derived.Test.YtaahdhpljlkfjaaGreatZg07
namespace Go.Proofs.YtaahdhpljlkfjaaGreat.Rc
open Go.RowKit Go.Deep

/-- What a slice type T of elements e of one cell is. -/
structure OneElem (T e : TypeId) : Prop where
  slice : Tryz.prog.underlying T = some (.slice e)
  info : ∃ (z : Value) (m : Nat), (Tryz.prog.info? e).map (fun i => (i.zero, i.size, i.bytes)) = some (some z, 1, m) ∧ z.cells.size = 1 ∧ z.oneCell' = true ∧ 0 < m ∧ m ≤ 100

theorem oneInt : OneElem 86 3 := ⟨Tryz.underlying86, .int .i64 0, 8, by kernel_rfl, by rfl, by rfl, by decide, by decide⟩
theorem oneStr : OneElem 47 9 := ⟨Tryz.underlying47, .string ⟨#[]⟩, 16, by kernel_rfl, by rfl, by rfl, by decide, by decide⟩

theorem run_app_one {T e : TypeId} (hT : OneElem T e) (w : World) (base : Nat) (v : Value) (xs : List Value) (u : Value) (X : Nat) (hown : w.ownsRow base e 1 v xs.length xs)
    (hX : w.heap[X]? = some (.cells #[u] e (0, 0))) (hu : u.oneCell' = true) (hl : xs.length ≤ 200000) (hbase : base ≤ w.heap.size) :
    ∃ A n c w', (Builtin.append_ #[T, T] T #[v, .slice (some ⟨X, 0, none⟩) 1 1]).run Tryz.prog w = .ok (.slice A n c) w' ∧ w'.ownsRow base e 1 (.slice A n c) (xs.length + 1) (xs ++ [u]) ∧ w.grownBy w' v.ownBlock := by
  obtain ⟨hs, z, m, hi, hzc, hzo, hm0, hm⟩ := hT
  obtain ⟨i0, hi0, hz0, hz1, hz2⟩ := info_parts hi
  obtain ⟨v', w', hrun, r1, r2, _, r4⟩ := run_append_own_at (P := Tryz.prog) w base T T e i0 _ 1 m hs hi0 hz0 hz1 hz2 (by rw [hzc]) (by omega) v xs.length xs hown ⟨X, 0, none⟩ 1 1 [u] rfl
      (fun j y hj => by
        have : j = 0 := by have := (List.getElem?_eq_some_iff.1 hj).1; simp at this; omega
        subst this
        simp at hj; subst hj
        rw [Addr.add_mid]; exact cells_get hX 0 rfl) (fun y hy => by simp at hy; subst hy; exact hu) (by unfold maxLen; omega) (by
        have := Nat.mul_le_mul_left (xs.length + 1) hm
        omega) hbase
  obtain ⟨A, n, c, rfl⟩ : ∃ A n c, v' = .slice A n c := by
    rcases own_len r1 with ⟨e, _⟩ | ⟨g, cap, e⟩
    · exact ⟨_, _, _, e⟩
    · exact ⟨_, _, _, e⟩
  exact ⟨A, n, c, w', hrun, r1, r2⟩

theorem wpList_app_one {T e : TypeId} (hT : OneElem T e) {ops : Array Oper} {rest : List Oper} {o : Oper} {a : Act} {Q : Exit → Act → World → Prop} (hgd : o.guard = none) (s y : Operand)
    (ho : o.op = .call { callee := .builtin .append, args := #[s, y], argTypes := #[T, T] }) (hty : o.type = T)
    {w : World} {base X : Nat} {v u : Value} {xs : List Value} (hs : a.eval s = v) (hx : a.eval y = .slice (some ⟨X, 0, none⟩) 1 1) (hown : w.ownsRow base e 1 v xs.length xs)
    (hX : w.heap[X]? = some (.cells #[u] e (0, 0))) (hu : u.oneCell' = true) (hl : xs.length ≤ 200000) (hbase : base ≤ w.heap.size)
    (hK : ∀ A' L' c' w', w'.ownsRow base e 1 (.slice A' L' c') (xs.length + 1) (xs ++ [u]) → w.grownBy w' v.ownBlock → wpList Tryz.prog ops Q rest (a.put o.dst (.slice A' L' c')) w') : wpList Tryz.prog ops Q (o :: rest) a w := by
  refine wpList_plain hgd fun K hK' => ?_
  obtain ⟨A, n, c, w', hrun, r1, r2⟩ := run_app_one hT w base v xs u X hown hX hu hl hbase
  unfold Oper.wp
  simp [execOp, ho, hty, resolve, invoke, builtin, hs, hx, hrun, Result.andThen]
  exact hK' _ _ (hK A n c w' r1 r2)

theorem heap_new_2 (w : World) (o p : Obj) : ((w.alloc o).alloc p).heap[w.heap.size + 1]? = some p := by
  have h := heap_alloc_new (w.alloc o) p
  rwa [World.size_alloc] at h
/-- A row of numbers, or of texts, of the call's own. -/
def OwnV {α : Type} (e : TypeId) (enc : α → Value) (w : World) (base : Nat) (v : Value) (l : List α) : Prop := w.ownsRow base e 1 v l.length (l.map enc)
abbrev encI : Int → Value := Value.int .i64
abbrev encS : ByteArray → Value := Value.string
abbrev OwnI := @OwnV Int 3 encI
abbrev OwnS := @OwnV ByteArray 9 encS
section
variable {α : Type} {e : TypeId} {enc : α → Value}
theorem OwnV.nil (w : World) (base : Nat) : OwnV e enc w base (.slice none 0 0) [] := ⟨rfl, .inl ⟨rfl, rfl⟩⟩
theorem OwnV.empty {w : World} {base X : Nat} (h : w.heap[X]? = some (.cells #[] e (0, 0))) (hb : base ≤ X) : OwnV e enc w base (.slice (some ⟨X, 0, none⟩) 0 0) [] :=
  ⟨rfl, .inr ⟨X, 0, #[], rfl, hb, h, by simp, by simp [maxLen], rfl, rfl⟩⟩
theorem OwnV.touch {w w' : World} {base : Nat} {v : Value} {l : List α} {S : Nat → Prop} (h : OwnV e enc w base v l) (ht : Touch w w' S) (hS : ∀ g, v.ownBlock = some g → ¬ S g) : OwnV e enc w' base v l := own_touch h ht hS
theorem OwnV.below {w w' : World} {base : Nat} {v : Value} {l : List α} (h : OwnV e enc w base v l) (hb : Below w.heap.size w w') : OwnV e enc w' base v l := own_touch h (Touch.of_below (S := fun _ => False) hb) (fun _ _ h => h)
theorem OwnV.base {w : World} {base base' : Nat} {v : Value} {l : List α} (h : OwnV e enc w base v l) (hb : base' ≤ base) : OwnV e enc w base' v l := ownsRow_base h hb
theorem OwnV.alloc {w : World} {base : Nat} {v : Value} {l : List α} (h : OwnV e enc w base v l) (o : Obj) : OwnV e enc (w.alloc o) base v l := h.below ((Below.refl _ _).alloc (Nat.le_refl _) o)
theorem OwnV.drew {w : World} {base : Nat} {v : Value} {l : List α} (h : OwnV e enc w base v l) : OwnV e enc w.drew base v l := World.ownsRow.drew h
theorem OwnV.drewN {w : World} {base : Nat} {v : Value} {l : List α} (h : OwnV e enc w base v l) (n : Nat) : OwnV e enc (w.drewN n) base v l := h.touch (S := fun _ => False) ((Touch.refl w _).drewN n) (fun _ _ h => h)
theorem OwnV.sl {w : World} {base : Nat} {v : Value} {l : List α} (h : OwnV e enc w base v l) : ∃ A L c, v = .slice A L c := by
  rcases own_len h with ⟨e, _⟩ | ⟨g, cap, e⟩
  · exact ⟨_, _, _, e⟩
  · exact ⟨_, _, _, e⟩
theorem OwnV.len {w : World} {base : Nat} {A : Option Addr} {L c : Nat} {l : List α} (h : OwnV e enc w base (.slice A L c) l) : L = l.length := by
  rcases own_len h with ⟨e, h0⟩ | ⟨g, cap, e⟩
  · injection e with e1 e2 e3; omega
  · injection e
theorem OwnV.lt {w : World} {base : Nat} {v : Value} {l : List α} (h : OwnV e enc w base v l) (g : Nat) (hg : v.ownBlock = some g) : base ≤ g ∧ g < w.heap.size := World.ownsRow.lt h g hg
theorem OwnV.raw {w : World} {base : Nat} {v : Value} {l : List α} (h : OwnV e enc w base v l) : w.ownsRow base e 1 v (l.map enc).length (l.map enc) := ownsRow_cast h (by simp) rfl
theorem OwnV.snoc {w : World} {base : Nat} {A : Option Addr} {L c : Nat} {l : List α} {x : α} (h : w.ownsRow base e 1 (.slice A L c) ((l.map enc).length + 1) (l.map enc ++ [enc x])) : OwnV e enc w base (.slice A L c) (l ++ [x]) := by
  unfold OwnV
  refine ownsRow_cast h (by simp) (by simp)
/-- As a row that is read. -/
theorem OwnV.row [Inhabited α] {K : Kd α} (hn : K.n = 1) {w : World} {base : Nat} {v : Value} {l : List α} (h : OwnV e enc w base v l) (hk : ∀ x ∈ l, K.is w [enc x] x) : RowD K w v l := by
  rcases h.2 with ⟨rfl, h0⟩ | ⟨g, cap, cur, rfl, hg, hh, h1, h2, _, h4⟩
  · have : l = [] := by cases l with | nil => rfl | cons => simp at h0
    subst this
    exact RowD.nil w
  · refine ⟨some ⟨g, 0, none⟩, cap, rfl, h1, h2, fun hp => ⟨g, 0, rfl, lt_of_heap hh, fun j hj => ⟨[enc (nth l j)], hk _ (nth_mem hj), fun i hi => ?_⟩⟩⟩
    have : i = 0 := by omega
    subst this
    rw [hn, Nat.mul_one, Nat.zero_add, Nat.add_zero]
    refine cells_get hh j ?_
    have e1 : (l.map enc)[j]? = some (enc (nth l j)) := by rw [List.getElem?_map, nth_get hj]; rfl
    rw [← h4, List.getElem?_take] at e1
    split at e1
    · simpa using e1
    · cases e1
end
end Go.Proofs.YtaahdhpljlkfjaaGreat.Rc

/- twice, versions, hasTooMany. -/
namespace Go.Proofs.YtaahdhpljlkfjaaGreat.Rc
open Go.RowKit

theorem range_any_snoc (k : Nat) (p : Nat → Bool) : (List.range (k + 1)).any p = ((List.range k).any p || p k) := by rw [List.range_succ, List.any_append]; simp
/-- A row of texts of the call's own. -/
def GivesS (l : List ByteArray) (w : World) (e : Ending) (w' : World) : Prop := ∃ A L c, e = .returned (.slice A L c) ∧ OwnS w' w.heap.size (.slice A L c) l ∧ Below w.heap.size w w'
theorem map_snoc {α β : Type} [Inhabited α] {l : List α} {k : Nat} (hk : k < l.length) (f : α → β) : (l.take (k + 1)).map f = (l.take k).map f ++ [f (nth l k)] := by
  rw [take_snoc hk, List.map_append]; rfl

end Go.Proofs.YtaahdhpljlkfjaaGreat.Rc
