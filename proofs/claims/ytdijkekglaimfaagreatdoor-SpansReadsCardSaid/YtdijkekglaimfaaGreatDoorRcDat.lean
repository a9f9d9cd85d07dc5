/- Plain data in memory, by kinds: how many cells an element has, and what they say. Rows of a kind; rows in rows. -/
import Derived.Test.YtdijkekglaimfaaGreatDoorMem
import Derived.Deep.Slices
import Derived.Deep.Strs
import Derived.ChangeSame
import Derived.SliceStrings
import Derived.Lib.SmallJoins
namespace Go.Proofs.YtdijkekglaimfaaGreatDoor.Rc
open Go.RowKit Go.ChangeShapes Go.WideShapes Go.Deep Go.Joins

def nth {α : Type} [Inhabited α] (l : List α) (i : Nat) : α := l[i]?.getD default
theorem nth_lt {α : Type} [Inhabited α] {l : List α} {i : Nat} (h : i < l.length) : nth l i = l[i] := by unfold nth; rw [List.getElem?_eq_getElem h]; rfl
theorem nth_mem {α : Type} [Inhabited α] {l : List α} {i : Nat} (h : i < l.length) : nth l i ∈ l := by rw [nth_lt h]; exact List.getElem_mem h
theorem nth_get {α : Type} [Inhabited α] {l : List α} {i : Nat} (h : i < l.length) : l[i]? = some (nth l i) := by rw [nth_lt h, List.getElem?_eq_getElem h]
theorem nth_take {α : Type} [Inhabited α] {l : List α} {k m : Nat} (h : m < k) : nth (l.take k) m = nth l m := by unfold nth; rw [List.getElem?_take, if_pos h]
theorem take_snoc {α : Type} [Inhabited α] {l : List α} {k : Nat} (h : k < l.length) : l.take (k + 1) = l.take k ++ [nth l k] := by
  rw [List.take_succ_eq_append_getElem h, nth_lt h]
theorem any_snoc {α : Type} [Inhabited α] {l : List α} {k : Nat} (h : k < l.length) (p : α → Bool) : (l.take (k + 1)).any p = ((l.take k).any p || p (nth l k)) := by
  rw [take_snoc h, List.any_append]; simp
theorem all_snoc {α : Type} [Inhabited α] {l : List α} {k : Nat} (h : k < l.length) (p : α → Bool) : (l.take (k + 1)).all p = ((l.take k).all p && p (nth l k)) := by
  rw [take_snoc h, List.all_append]; simp
theorem filter_snoc {α : Type} [Inhabited α] {l : List α} {k : Nat} (h : k < l.length) (p : α → Bool) : (l.take (k + 1)).filter p = (l.take k).filter p ++ (if p (nth l k) then [nth l k] else []) := by
  rw [take_snoc h, List.filter_append]
  congr 1
  cases hp : p (nth l k) <;> simp [hp]
theorem any_at {α : Type} [Inhabited α] {l : List α} {k : Nat} (h : k < l.length) {p : α → Bool} (hp : p (nth l k) = true) : l.any p = true := List.any_eq_true.2 ⟨_, nth_mem h, hp⟩
theorem all_at {α : Type} [Inhabited α] {l : List α} {k : Nat} (h : k < l.length) {p : α → Bool} (hp : p (nth l k) = false) : l.all p = false := List.all_eq_false.2 ⟨_, nth_mem h, by simp [hp]⟩

/-- A kind of data: its cells, and what they say; a world that only grows leaves it. -/
structure Kd (α : Type) where
  n : Nat
  is : World → List Value → α → Prop
  below : ∀ {w w' : World} {B : Nat} {cs : List Value} {x : α}, is w cs x → Below B w w' → w.heap.size ≤ B → is w' cs x
  len : ∀ {w : World} {cs : List Value} {x : α}, is w cs x → cs.length = n

/-- A row of a kind. -/
def RowD {α : Type} [Inhabited α] (K : Kd α) (w : World) (v : Value) (l : List α) : Prop :=
  ∃ A c, v = .slice A l.length c ∧ l.length ≤ c ∧ c ≤ maxLen ∧ (0 < l.length → ∃ b off, A = some ⟨b, off, none⟩ ∧ b < w.heap.size ∧ ∀ j, j < l.length → ∃ cs, K.is w cs (nth l j) ∧ ∀ i, i < K.n → w.cell? ⟨b, off + j * K.n + i, none⟩ = cs[i]?)
section
variable {α : Type} [Inhabited α] {K : Kd α}
theorem RowD.below {w w' : World} {B : Nat} {v : Value} {l : List α} (h : RowD K w v l) (hb : Below B w w') (hB : w.heap.size ≤ B) : RowD K w' v l := by
  obtain ⟨A, c, e, h1, h2, h3⟩ := h
  refine ⟨A, c, e, h1, h2, fun hp => ?_⟩
  obtain ⟨b, off, ha, hlt, hc⟩ := h3 hp
  refine ⟨b, off, ha, Nat.lt_of_lt_of_le hlt hb.size, fun j hj => ?_⟩
  obtain ⟨cs, g1, g2⟩ := hc j hj
  exact ⟨cs, K.below g1 hb hB, fun i hi => (hb.cell (p := ⟨b, off + j * K.n + i, none⟩) (by simp; omega)).trans (g2 i hi)⟩
theorem RowD.open' {w : World} {v : Value} {l : List α} (h : RowD K w v l) : ∃ A L c, v = .slice A L c ∧ L = l.length ∧ L ≤ c ∧ c ≤ maxLen := by
  obtain ⟨A, c, e, h1, h2, _⟩ := h
  exact ⟨A, _, c, e, rfl, h1, h2⟩
theorem RowD.sl {w : World} {v : Value} {l : List α} (h : RowD K w v l) : ∃ A L c, v = .slice A L c := by
  obtain ⟨A, c, e, _⟩ := h
  exact ⟨A, _, c, e⟩
theorem RowD.len {w : World} {A : Option Addr} {L c : Nat} {l : List α} (h : RowD K w (.slice A L c) l) : L = l.length := by
  obtain ⟨A', c', e, _⟩ := h
  injection e
theorem RowD.cap {w : World} {A : Option Addr} {L c : Nat} {l : List α} (h : RowD K w (.slice A L c) l) : L ≤ c ∧ c ≤ 9223372036854775807 := by
  obtain ⟨A', c', e, h1, h2, _⟩ := h
  injection e with e1 e2 e3
  unfold maxLen at h2
  omega
theorem RowD.at {w : World} {A : Option Addr} {L c : Nat} {l : List α} (h : RowD K w (.slice A L c) l) {j : Nat} (hj : j < L) :
    ∃ b off cs, A = some ⟨b, off, none⟩ ∧ b < w.heap.size ∧ K.is w cs (nth l j) ∧ ∀ i, i < K.n → w.cell? ⟨b, off + j * K.n + i, none⟩ = cs[i]? := by
  obtain ⟨A', c', e, h1, h2, h3⟩ := h
  injection e with e1 e2 e3
  subst e1; subst e3; subst e2
  obtain ⟨b, off, ha, hb, hc⟩ := h3 (by omega)
  obtain ⟨cs, g1, g2⟩ := hc j hj
  exact ⟨b, off, cs, ha, hb, g1, g2⟩
theorem RowD.nil (w : World) : RowD K w (.slice none 0 0) [] := ⟨none, 0, rfl, by simp, by simp [maxLen], fun h => by simp at h⟩
theorem RowD.take {w : World} {A : Option Addr} {L c k : Nat} {l : List α} (h : RowD K w (.slice A L c) l) (hk : k ≤ L) : RowD K w (.slice A k c) (l.take k) := by
  obtain ⟨A', c', e, h1, h2, h3⟩ := h
  injection e with e1 e2 e3
  subst e1; subst e3; subst e2
  have hl : (l.take k).length = k := by rw [List.length_take]; omega
  refine ⟨A, c, by rw [hl], by omega, h2, fun hp => ?_⟩
  obtain ⟨b, off, ha, hlt, hc⟩ := h3 (by omega)
  refine ⟨b, off, ha, hlt, fun j hj => ?_⟩
  rw [hl] at hj
  rw [nth_take hj]; exact hc j (by omega)
end
def Kd.row {α : Type} [Inhabited α] (K : Kd α) : Kd (List α) where
  n := 1
  is w cs l := ∃ v, cs = [v] ∧ RowD K w v l
  below := by
    rintro w w' B cs x ⟨v, e, h⟩ hb hB
    exact ⟨v, e, h.below hb hB⟩
  len := by rintro w cs x ⟨v, rfl, _⟩; rfl
def strK : Kd ByteArray where
  n := 1
  is _ cs x := cs = [.string x] ∧ x.size ≤ maxLen
  below := by rintro w w' B cs x h _ _; exact h
  len := by rintro w cs x ⟨rfl, _⟩; rfl
def intK : Kd Int where
  n := 1
  is _ cs x := cs = [.int .i64 x] ∧ (Lit.int .i64 x).wf = true
  below := by rintro w w' B cs x h _ _; exact h
  len := by rintro w cs x ⟨rfl, _⟩; rfl
def boolK : Kd Bool where
  n := 1
  is _ cs x := cs = [.bool x]
  below := by rintro w w' B cs x h _ _; exact h
  len := by rintro w cs x rfl; rfl
/-- Two texts: a setting, or a span. -/
def setK : Kd (ByteArray × ByteArray) where
  n := 2
  is _ cs x := cs = [.string x.1, .string x.2] ∧ x.1.size ≤ maxLen ∧ x.2.size ≤ maxLen
  below := by rintro w w' B cs x h _ _; exact h
  len := by rintro w cs x ⟨rfl, _⟩; rfl
/-- A text and a bool: a release. -/
def relK : Kd (ByteArray × Bool) where
  n := 2
  is _ cs x := cs = [.string x.1, .bool x.2] ∧ x.1.size ≤ maxLen
  below := by rintro w w' B cs x h _ _; exact h
  len := by rintro w cs x ⟨rfl, _⟩; rfl
/-- A text and texts: a variant. -/
def varK : Kd (ByteArray × List ByteArray) where
  n := 2
  is w cs x := ∃ u, cs = [.string x.1, u] ∧ x.1.size ≤ maxLen ∧ RowD strK w u x.2
  below := by rintro w w' B cs x ⟨u, e, h1, h2⟩ hb hB; exact ⟨u, e, h1, h2.below hb hB⟩
  len := by rintro w cs x ⟨u, rfl, _⟩; rfl

section
variable {H : Type} {P : Program} {enc : TypeId × Value → H} {W : World} {base : Nat} {spare : Nat → Bool} {held : Bool}
theorem add_spot {a : Addr} (h : a.spot = none) (j : Nat) : a.add j = ⟨a.block, a.off + j, none⟩ := by
  obtain ⟨b, off, s⟩ := a
  simp at h; subst h
  unfold Addr.add; split <;> simp_all
/-- What an element's reading gives, a row's does. -/
theorem open_row {α : Type} [Inhabited α] {K : Kd α} {t e : TypeId} (ht : P.underlying t = some (.slice e)) (hn : P.cellsOf e = K.n) (hn0 : 0 < K.n)
    (hopen : ∀ {n : Nat} {cs : List Value} {y : DataW H × List MemPlace}, DataW.trod enc P W base spare held n e cs = some y → ∃ x, K.is W cs x)
    {fuel : Nat} {cs : List Value} {x : DataW H × List MemPlace} (h : DataW.trod enc P W base spare held fuel t cs = some x) :
    ∃ A len cap l, cs = [.slice A len cap] ∧ RowD K W (.slice A len cap) l := by
  rcases open_slice ht h with ⟨h0, _⟩ | ⟨a, len, cap, m, n, D, Pl, hcs, _, hl, hm, hmm, _, hi⟩
  · exact ⟨none, 0, 0, [], h0, RowD.nil W⟩
  · have hlm : len ≤ m := by rw [hmm]; split <;> omega
    rw [hn] at hi
    have hs0 : 0 < len → a.spot = none := fun h0 => by
      obtain ⟨cs', hc, ht⟩ := hi 0 (by omega)
      obtain ⟨_, hcl, hat⟩ := World.cells?_some hc
      have c0 := hat 0 hn0
      rw [List.getElem?_eq_getElem (by omega)] at c0
      simpa [Addr.add] using World.cell?_spot c0
    have hx : ∀ i, ∃ x : α, i < len → a.spot = none ∧ a.block < W.heap.size ∧ ∃ cs, K.is W cs x ∧ ∀ j, j < K.n → W.cell? ⟨a.block, a.off + i * K.n + j, none⟩ = cs[j]? := by
      intro i
      by_cases hil : i < len
      · obtain ⟨cs', hc, ht⟩ := hi i (by omega)
        obtain ⟨_, hcl, hat⟩ := World.cells?_some hc
        obtain ⟨x, hx⟩ := hopen ht
        have hs : a.spot = none := hs0 (by omega)
        have hat' : ∀ j, j < K.n → W.cell? ⟨a.block, a.off + i * K.n + j, none⟩ = cs'[j]? := by
          intro j hj
          have := hat j hj
          rw [add_spot hs, add_spot rfl] at this
          exact this
        have hb : a.block < W.heap.size := by
          have c0 := hat' 0 hn0
          rw [List.getElem?_eq_getElem (by omega)] at c0
          have := World.block_lt_of_cell? W _ c0
          simpa using this
        exact ⟨x, fun _ => ⟨hs, hb, cs', hx, hat'⟩⟩
      · exact ⟨default, fun h => absurd h hil⟩
    obtain ⟨f, hf⟩ := Classical.axiomOfChoice hx
    have hll : ((List.range len).map f).length = len := by simp
    refine ⟨some a, len, cap, (List.range len).map f, hcs, some a, cap, by rw [hll], by rw [hll]; exact hl, hm, fun hp => ?_⟩
    rw [hll] at hp
    have hs := (hf 0 hp).1
    refine ⟨a.block, a.off, ?_, (hf 0 hp).2.1, fun j hj => ?_⟩
    · obtain ⟨b, off, s⟩ := a
      simp at hs; rw [hs]
    · rw [hll] at hj
      have e : nth ((List.range len).map f) j = f j := by unfold nth; simp [hj]
      rw [e]
      exact (hf j hj).2.2
theorem open_str {t : TypeId} (ht : P.underlying t = some .string) {n : Nat} {cs : List Value} {y : DataW H × List MemPlace} (h : DataW.trod enc P W base spare held n t cs = some y) : ∃ x, strK.is W cs x := by
  obtain ⟨z, q, _, w0⟩ := DataW.trod_string ht h
  exact ⟨z, q, w0⟩
theorem open_intK {t : TypeId} (ht : P.underlying t = some (.int .i64)) {n : Nat} {cs : List Value} {y : DataW H × List MemPlace} (h : DataW.trod enc P W base spare held n t cs = some y) : ∃ x, intK.is W cs x := by
  obtain ⟨z, q, _, w0⟩ := DataW.trod_int ht h
  exact ⟨z, q, w0⟩
end
end Go.Proofs.YtdijkekglaimfaaGreatDoor.Rc
