/- Plain data in memory, by kinds: how many cells an element has, and what they say. Rows of a kind; rows in rows. -/
import Derived.Test.YtaahdhpljlkfjaaGreatZg01
import Derived.Deep.Slices
import Derived.Deep.Strs
import Derived.ChangeSame
import Derived.SliceStrings
import Derived.Lib.SmallJoins
import Derived.Lib.Bytealg
import Derived.Lib.Small
import Derived.Test.YtaahdhpljlkfjaaGreatRows
import Derived.Deep.MidRow
namespace Go.Proofs.YtaahdhpljlkfjaaGreat.Rc
open Go.RowKit Go.ChangeShapes Go.WideShapes Go.Deep Go.Joins

def nth {α : Type} [Inhabited α] (l : List α) (i : Nat) : α := l[i]?.getD default
theorem nth_lt {α : Type} [Inhabited α] {l : List α} {i : Nat} (h : i < l.length) : nth l i = l[i] := by unfold nth; rw [List.getElem?_eq_getElem h]; rfl
theorem nth_mem {α : Type} [Inhabited α] {l : List α} {i : Nat} (h : i < l.length) : nth l i ∈ l := by rw [nth_lt h]; exact List.getElem_mem h
theorem nth_get {α : Type} [Inhabited α] {l : List α} {i : Nat} (h : i < l.length) : l[i]? = some (nth l i) := by rw [nth_lt h, List.getElem?_eq_getElem h]
theorem nth_take {α : Type} [Inhabited α] {l : List α} {k m : Nat} (h : m < k) : nth (l.take k) m = nth l m := by unfold nth; rw [List.getElem?_take, if_pos h]
theorem take_snoc {α : Type} [Inhabited α] {l : List α} {k : Nat} (h : k < l.length) : l.take (k + 1) = l.take k ++ [nth l k] := by
  rw [List.take_succ_eq_append_getElem h, nth_lt h]
theorem any_snoc {α : Type} [Inhabited α] {l : List α} {k : Nat} (h : k < l.length) (p : α → Bool) : (l.take (k + 1)).any p = ((l.take k).any p || p (nth l k)) := by
  rw [take_snoc h, List.any_append]; simp
theorem all_snoc {α : Type} [Inhabited α] {l : List α} {k : Nat} (h : k < l.length) (p : α → Bool) : (l.take (k + 1)).all p = ((l.take k).all p && p (nth l k)) := by
  rw [take_snoc h, List.all_append]; simp
theorem filter_snoc {α : Type} [Inhabited α] {l : List α} {k : Nat} (h : k < l.length) (p : α → Bool) : (l.take (k + 1)).filter p = (l.take k).filter p ++ (if p (nth l k) then [nth l k] else []) := by
  rw [take_snoc h, List.filter_append]
  congr 1
  cases hp : p (nth l k) <;> simp [hp]
theorem any_at {α : Type} [Inhabited α] {l : List α} {k : Nat} (h : k < l.length) {p : α → Bool} (hp : p (nth l k) = true) : l.any p = true := List.any_eq_true.2 ⟨_, nth_mem h, hp⟩
theorem all_at {α : Type} [Inhabited α] {l : List α} {k : Nat} (h : k < l.length) {p : α → Bool} (hp : p (nth l k) = false) : l.all p = false := List.all_eq_false.2 ⟨_, nth_mem h, by simp [hp]⟩

/-- A kind of data: its cells, and what they say; a world that only grows leaves it. -/
structure Kd (α : Type) where
  n : Nat
  is : World → List Value → α → Prop
  below : ∀ {w w' : World} {B : Nat} {cs : List Value} {x : α}, is w cs x → Below B w w' → w.heap.size ≤ B → is w' cs x
  len : ∀ {w : World} {cs : List Value} {x : α}, is w cs x → cs.length = n

/-- A row of a kind. -/
def RowD {α : Type} [Inhabited α] (K : Kd α) (w : World) (v : Value) (l : List α) : Prop :=
  ∃ A c, v = .slice A l.length c ∧ l.length ≤ c ∧ c ≤ maxLen ∧ (0 < l.length → ∃ b off, A = some ⟨b, off, none⟩ ∧ b < w.heap.size ∧ ∀ j, j < l.length → ∃ cs, K.is w cs (nth l j) ∧ ∀ i, i < K.n → w.cell? ⟨b, off + j * K.n + i, none⟩ = cs[i]?)
section
variable {α : Type} [Inhabited α] {K : Kd α}
theorem RowD.below {w w' : World} {B : Nat} {v : Value} {l : List α} (h : RowD K w v l) (hb : Below B w w') (hB : w.heap.size ≤ B) : RowD K w' v l := by
  obtain ⟨A, c, e, h1, h2, h3⟩ := h
  refine ⟨A, c, e, h1, h2, fun hp => ?_⟩
  obtain ⟨b, off, ha, hlt, hc⟩ := h3 hp
  refine ⟨b, off, ha, Nat.lt_of_lt_of_le hlt hb.size, fun j hj => ?_⟩
  obtain ⟨cs, g1, g2⟩ := hc j hj
  exact ⟨cs, K.below g1 hb hB, fun i hi => (hb.cell (p := ⟨b, off + j * K.n + i, none⟩) (by simp; omega)).trans (g2 i hi)⟩
theorem RowD.open' {w : World} {v : Value} {l : List α} (h : RowD K w v l) : ∃ A L c, v = .slice A L c ∧ L = l.length ∧ L ≤ c ∧ c ≤ maxLen := by
  obtain ⟨A, c, e, h1, h2, _⟩ := h
  exact ⟨A, _, c, e, rfl, h1, h2⟩
theorem RowD.sl {w : World} {v : Value} {l : List α} (h : RowD K w v l) : ∃ A L c, v = .slice A L c := by
  obtain ⟨A, c, e, _⟩ := h
  exact ⟨A, _, c, e⟩
theorem RowD.len {w : World} {A : Option Addr} {L c : Nat} {l : List α} (h : RowD K w (.slice A L c) l) : L = l.length := by
  obtain ⟨A', c', e, _⟩ := h
  injection e
theorem RowD.cap {w : World} {A : Option Addr} {L c : Nat} {l : List α} (h : RowD K w (.slice A L c) l) : L ≤ c ∧ c ≤ 9223372036854775807 := by
  obtain ⟨A', c', e, h1, h2, _⟩ := h
  injection e with e1 e2 e3
  unfold maxLen at h2
  omega
theorem RowD.at {w : World} {A : Option Addr} {L c : Nat} {l : List α} (h : RowD K w (.slice A L c) l) {j : Nat} (hj : j < L) :
    ∃ b off cs, A = some ⟨b, off, none⟩ ∧ b < w.heap.size ∧ K.is w cs (nth l j) ∧ ∀ i, i < K.n → w.cell? ⟨b, off + j * K.n + i, none⟩ = cs[i]? := by
  obtain ⟨A', c', e, h1, h2, h3⟩ := h
  injection e with e1 e2 e3
  subst e1; subst e3; subst e2
  obtain ⟨b, off, ha, hb, hc⟩ := h3 (by omega)
  obtain ⟨cs, g1, g2⟩ := hc j hj
  exact ⟨b, off, cs, ha, hb, g1, g2⟩
theorem RowD.nil (w : World) : RowD K w (.slice none 0 0) [] := ⟨none, 0, rfl, by simp, by simp [maxLen], fun h => by simp at h⟩
theorem RowD.take {w : World} {A : Option Addr} {L c k : Nat} {l : List α} (h : RowD K w (.slice A L c) l) (hk : k ≤ L) : RowD K w (.slice A k c) (l.take k) := by
  obtain ⟨A', c', e, h1, h2, h3⟩ := h
  injection e with e1 e2 e3
  subst e1; subst e3; subst e2
  have hl : (l.take k).length = k := by rw [List.length_take]; omega
  refine ⟨A, c, by rw [hl], by omega, h2, fun hp => ?_⟩
  obtain ⟨b, off, ha, hlt, hc⟩ := h3 (by omega)
  refine ⟨b, off, ha, hlt, fun j hj => ?_⟩
  rw [hl] at hj
  rw [nth_take hj]; exact hc j (by omega)
end
def Kd.row {α : Type} [Inhabited α] (K : Kd α) : Kd (List α) where
  n := 1
  is w cs l := ∃ v, cs = [v] ∧ RowD K w v l
  below := by
    rintro w w' B cs x ⟨v, e, h⟩ hb hB
    exact ⟨v, e, h.below hb hB⟩
  len := by rintro w cs x ⟨v, rfl, _⟩; rfl
def strK : Kd ByteArray where
  n := 1
  is _ cs x := cs = [.string x] ∧ x.size ≤ maxLen
  below := by rintro w w' B cs x h _ _; exact h
  len := by rintro w cs x ⟨rfl, _⟩; rfl
def intK : Kd Int where
  n := 1
  is _ cs x := cs = [.int .i64 x] ∧ (Lit.int .i64 x).wf = true
  below := by rintro w w' B cs x h _ _; exact h
  len := by rintro w cs x ⟨rfl, _⟩; rfl
def boolK : Kd Bool where
  n := 1
  is _ cs x := cs = [.bool x]
  below := by rintro w w' B cs x h _ _; exact h
  len := by rintro w cs x rfl; rfl
/-- Two texts: a setting, or a span. -/
def setK : Kd (ByteArray × ByteArray) where
  n := 2
  is _ cs x := cs = [.string x.1, .string x.2] ∧ x.1.size ≤ maxLen ∧ x.2.size ≤ maxLen
  below := by rintro w w' B cs x h _ _; exact h
  len := by rintro w cs x ⟨rfl, _⟩; rfl
/-- A text and a bool: a release. -/
def relK : Kd (ByteArray × Bool) where
  n := 2
  is _ cs x := cs = [.string x.1, .bool x.2] ∧ x.1.size ≤ maxLen
  below := by rintro w w' B cs x h _ _; exact h
  len := by rintro w cs x ⟨rfl, _⟩; rfl
/-- A text and texts: a variant. -/
def varK : Kd (ByteArray × List ByteArray) where
  n := 2
  is w cs x := ∃ u, cs = [.string x.1, u] ∧ x.1.size ≤ maxLen ∧ RowD strK w u x.2
  below := by rintro w w' B cs x ⟨u, e, h1, h2⟩ hb hB; exact ⟨u, e, h1, h2.below hb hB⟩
  len := by rintro w cs x ⟨u, rfl, _⟩; rfl

section
variable {H : Type} {P : Program} {enc : TypeId × Value → H} {W : World} {base : Nat} {spare : Nat → Bool} {held : Bool}
theorem add_spot {a : Addr} (h : a.spot = none) (j : Nat) : a.add j = ⟨a.block, a.off + j, none⟩ := by
  obtain ⟨b, off, s⟩ := a
  simp at h; subst h
  unfold Addr.add; split <;> simp_all
/-- What an element's reading gives, a row's does. -/
theorem open_row {α : Type} [Inhabited α] {K : Kd α} {t e : TypeId} (ht : P.underlying t = some (.slice e)) (hn : P.cellsOf e = K.n) (hn0 : 0 < K.n)
    (hopen : ∀ {n : Nat} {cs : List Value} {y : DataW H × List MemPlace}, DataW.trod enc P W base spare held n e cs = some y → ∃ x, K.is W cs x)
    {fuel : Nat} {cs : List Value} {x : DataW H × List MemPlace} (h : DataW.trod enc P W base spare held fuel t cs = some x) :
    ∃ A len cap l, cs = [.slice A len cap] ∧ RowD K W (.slice A len cap) l := by
  rcases open_slice ht h with ⟨h0, _⟩ | ⟨a, len, cap, m, n, D, Pl, hcs, _, hl, hm, hmm, _, hi⟩
  · exact ⟨none, 0, 0, [], h0, RowD.nil W⟩
  · have hlm : len ≤ m := by rw [hmm]; split <;> omega
    rw [hn] at hi
    have hs0 : 0 < len → a.spot = none := fun h0 => by
      obtain ⟨cs', hc, ht⟩ := hi 0 (by omega)
      obtain ⟨_, hcl, hat⟩ := World.cells?_some hc
      have c0 := hat 0 hn0
      rw [List.getElem?_eq_getElem (by omega)] at c0
      simpa [Addr.add] using World.cell?_spot c0
    have hx : ∀ i, ∃ x : α, i < len → a.spot = none ∧ a.block < W.heap.size ∧ ∃ cs, K.is W cs x ∧ ∀ j, j < K.n → W.cell? ⟨a.block, a.off + i * K.n + j, none⟩ = cs[j]? := by
      intro i
      by_cases hil : i < len
      · obtain ⟨cs', hc, ht⟩ := hi i (by omega)
        obtain ⟨_, hcl, hat⟩ := World.cells?_some hc
        obtain ⟨x, hx⟩ := hopen ht
        have hs : a.spot = none := hs0 (by omega)
        have hat' : ∀ j, j < K.n → W.cell? ⟨a.block, a.off + i * K.n + j, none⟩ = cs'[j]? := by
          intro j hj
          have := hat j hj
          rw [add_spot hs, add_spot rfl] at this
          exact this
        have hb : a.block < W.heap.size := by
          have c0 := hat' 0 hn0
          rw [List.getElem?_eq_getElem (by omega)] at c0
          have := World.block_lt_of_cell? W _ c0
          simpa using this
        exact ⟨x, fun _ => ⟨hs, hb, cs', hx, hat'⟩⟩
      · exact ⟨default, fun h => absurd h hil⟩
    obtain ⟨f, hf⟩ := Classical.axiomOfChoice hx
    have hll : ((List.range len).map f).length = len := by simp
    refine ⟨some a, len, cap, (List.range len).map f, hcs, some a, cap, by rw [hll], by rw [hll]; exact hl, hm, fun hp => ?_⟩
    rw [hll] at hp
    have hs := (hf 0 hp).1
    refine ⟨a.block, a.off, ?_, (hf 0 hp).2.1, fun j hj => ?_⟩
    · obtain ⟨b, off, s⟩ := a
      simp at hs; rw [hs]
    · rw [hll] at hj
      have e : nth ((List.range len).map f) j = f j := by unfold nth; simp [hj]
      rw [e]
      exact (hf j hj).2.2
theorem open_str {t : TypeId} (ht : P.underlying t = some .string) {n : Nat} {cs : List Value} {y : DataW H × List MemPlace} (h : DataW.trod enc P W base spare held n t cs = some y) : ∃ x, strK.is W cs x := by
  obtain ⟨z, q, _, w0⟩ := DataW.trod_string ht h
  exact ⟨z, q, w0⟩
theorem open_intK {t : TypeId} (ht : P.underlying t = some (.int .i64)) {n : Nat} {cs : List Value} {y : DataW H × List MemPlace} (h : DataW.trod enc P W base spare held n t cs = some y) : ∃ x, intK.is W cs x := by
  obtain ⟨z, q, _, w0⟩ := DataW.trod_int ht h
  exact ⟨z, q, w0⟩
end
end Go.Proofs.YtaahdhpljlkfjaaGreat.Rc

/- Plain mathematics of variants: names, values, what may be. No Go in sight. -/
namespace Go.Proofs.YtaahdhpljlkfjaaGreat.Va

abbrev Bs := List UInt8
def letB (c : UInt8) : Bool := decide (97 ≤ (c.toNat : Int)) && decide ((c.toNat : Int) ≤ 122)
def digB (c : UInt8) : Bool := decide (48 ≤ (c.toNat : Int)) && decide ((c.toNat : Int) ≤ 57)
def okB (c : UInt8) : Bool := letB c || digB c || decide ((c.toNat : Int) = 45)
def headB (l : Bs) : Bool := match l with | [] => false | c :: _ => letB c
def nameB (l : Bs) : Bool := !l.isEmpty && decide (l.length ≤ 24) && headB l && l.all okB
def digits (l : Bs) : Bool := l.all digB && !l.isEmpty
def numB (l : Bs) : Bool := digits l && decide (l.length ≤ 3)
def valB (l : Bs) : Bool := nameB l || numB l

theorem all_false {p : UInt8 → Bool} {s : ByteArray} {k : Nat} (hk : k < s.size) (h : p s[k] = false) : s.data.toList.all p = false := by
  refine List.all_eq_false.2 ⟨s[k], ?_, by simp [h]⟩
  have : s[k] = s.data.toList[k]'(by simpa using hk) := by simp; rfl
  rw [this]; exact List.getElem_mem _

theorem take_snoc (s : ByteArray) (k : Nat) (h : k < s.size) : s.data.toList.take (k + 1) = s.data.toList.take k ++ [s[k]] := by
  rw [List.take_succ_eq_append_getElem (by simpa using h)]; rfl

theorem head_list : ∀ (l : Bs) (h : 0 < l.length), headB l = letB l[0]
  | [], h => by simp at h
  | c :: r, _ => rfl
theorem head_get {s : ByteArray} (h : 0 < s.size) : headB s.data.toList = letB s[0] := by
  have e : s[0] = s.data.toList[0]'(by simpa using h) := by simp; rfl
  rw [e]
  exact head_list _ _
end Go.Proofs.YtaahdhpljlkfjaaGreat.Va

/- Texts, settings and variants in memory. -/
namespace Go.Proofs.YtaahdhpljlkfjaaGreat.Va
open Go.RowKit

abbrev Set1 := ByteArray × ByteArray
abbrev Var := ByteArray × List ByteArray

def nthS (l : List ByteArray) (i : Nat) : ByteArray := l[i]?.getD ⟨#[]⟩
def nthT (l : List Set1) (i : Nat) : Set1 := l[i]?.getD (⟨#[]⟩, ⟨#[]⟩)
def nthV (l : List Var) (i : Nat) : Var := l[i]?.getD (⟨#[]⟩, [])
theorem nthS_lt {l : List ByteArray} {i : Nat} (h : i < l.length) : nthS l i = l[i] := by unfold nthS; rw [List.getElem?_eq_getElem h]; rfl
theorem nthT_lt {l : List Set1} {i : Nat} (h : i < l.length) : nthT l i = l[i] := by unfold nthT; rw [List.getElem?_eq_getElem h]; rfl
theorem nthV_lt {l : List Var} {i : Nat} (h : i < l.length) : nthV l i = l[i] := by unfold nthV; rw [List.getElem?_eq_getElem h]; rfl
theorem nthS_mem {l : List ByteArray} {i : Nat} (h : i < l.length) : nthS l i ∈ l := by rw [nthS_lt h]; exact List.getElem_mem h
theorem nthT_mem {l : List Set1} {i : Nat} (h : i < l.length) : nthT l i ∈ l := by rw [nthT_lt h]; exact List.getElem_mem h
theorem nthV_mem {l : List Var} {i : Nat} (h : i < l.length) : nthV l i ∈ l := by rw [nthV_lt h]; exact List.getElem_mem h

/-- Texts that lie in memory. -/
def Strs (w : World) (v : Value) (l : List ByteArray) : Prop :=
  ∃ A c, v = .slice A l.length c ∧ l.length ≤ c ∧ c ≤ maxLen ∧ (0 < l.length → ∃ b off, A = some ⟨b, off, none⟩ ∧ b < w.heap.size ∧ ∀ j, j < l.length → w.cell? ⟨b, off + j, none⟩ = some (.string (nthS l j)) ∧ (nthS l j).size ≤ maxLen)
/-- Settings that lie in memory. -/
def Sets (w : World) (v : Value) (l : List Set1) : Prop :=
  ∃ A c, v = .slice A l.length c ∧ l.length ≤ c ∧ c ≤ maxLen ∧ (0 < l.length → ∃ b off, A = some ⟨b, off, none⟩ ∧ b < w.heap.size ∧ ∀ j, j < l.length →
    w.cell? ⟨b, off + j * 2, none⟩ = some (.string (nthT l j).1) ∧ w.cell? ⟨b, off + j * 2 + 1, none⟩ = some (.string (nthT l j).2) ∧ (nthT l j).1.size ≤ maxLen ∧ (nthT l j).2.size ≤ maxLen)
/-- Variants that lie in memory. -/
def Vars (w : World) (v : Value) (l : List Var) : Prop :=
  ∃ A c, v = .slice A l.length c ∧ l.length ≤ c ∧ c ≤ maxLen ∧ (0 < l.length → ∃ b off, A = some ⟨b, off, none⟩ ∧ b < w.heap.size ∧ ∀ j, j < l.length →
    w.cell? ⟨b, off + j * 2, none⟩ = some (.string (nthV l j).1) ∧ (∃ u, w.cell? ⟨b, off + j * 2 + 1, none⟩ = some u ∧ Strs w u (nthV l j).2) ∧ (nthV l j).1.size ≤ maxLen)

theorem Strs.below {w w' : World} {B : Nat} {v : Value} {l : List ByteArray} (h : Strs w v l) (hb : Below B w w') (hB : w.heap.size ≤ B) : Strs w' v l := by
  obtain ⟨A, c, e, h1, h2, h3⟩ := h
  refine ⟨A, c, e, h1, h2, fun hp => ?_⟩
  obtain ⟨b, off, ha, hlt, hc⟩ := h3 hp
  exact ⟨b, off, ha, Nat.lt_of_lt_of_le hlt hb.size, fun j hj => ⟨(hb.cell (p := ⟨b, off + j, none⟩) (by simp; omega)).trans (hc j hj).1, (hc j hj).2⟩⟩
theorem Sets.below {w w' : World} {B : Nat} {v : Value} {l : List Set1} (h : Sets w v l) (hb : Below B w w') (hB : w.heap.size ≤ B) : Sets w' v l := by
  obtain ⟨A, c, e, h1, h2, h3⟩ := h
  refine ⟨A, c, e, h1, h2, fun hp => ?_⟩
  obtain ⟨b, off, ha, hlt, hc⟩ := h3 hp
  exact ⟨b, off, ha, Nat.lt_of_lt_of_le hlt hb.size, fun j hj => ⟨(hb.cell (p := ⟨b, off + j * 2, none⟩) (by simp; omega)).trans (hc j hj).1, (hb.cell (p := ⟨b, off + j * 2 + 1, none⟩) (by simp; omega)).trans (hc j hj).2.1, (hc j hj).2.2⟩⟩
theorem Vars.below {w w' : World} {B : Nat} {v : Value} {l : List Var} (h : Vars w v l) (hb : Below B w w') (hB : w.heap.size ≤ B) : Vars w' v l := by
  obtain ⟨A, c, e, h1, h2, h3⟩ := h
  refine ⟨A, c, e, h1, h2, fun hp => ?_⟩
  obtain ⟨b, off, ha, hlt, hc⟩ := h3 hp
  refine ⟨b, off, ha, Nat.lt_of_lt_of_le hlt hb.size, fun j hj => ?_⟩
  obtain ⟨g1, ⟨u, g2, g3⟩, g4⟩ := hc j hj
  exact ⟨(hb.cell (p := ⟨b, off + j * 2, none⟩) (by simp; omega)).trans g1, ⟨u, (hb.cell (p := ⟨b, off + j * 2 + 1, none⟩) (by simp; omega)).trans g2, g3.below hb hB⟩, g4⟩

theorem Strs.open' {w : World} {v : Value} {l : List ByteArray} (h : Strs w v l) : ∃ A L c, v = .slice A L c ∧ L = l.length ∧ L ≤ c ∧ c ≤ maxLen ∧
    (0 < L → ∃ b off, A = some ⟨b, off, none⟩ ∧ b < w.heap.size ∧ ∀ j, j < L → w.cell? ⟨b, off + j, none⟩ = some (.string (nthS l j)) ∧ (nthS l j).size ≤ maxLen) := by
  obtain ⟨A, c, e, h1, h2, h3⟩ := h
  exact ⟨A, _, c, e, rfl, h1, h2, h3⟩
theorem Sets.open' {w : World} {v : Value} {l : List Set1} (h : Sets w v l) : ∃ A L c, v = .slice A L c ∧ L = l.length ∧ L ≤ c ∧ c ≤ maxLen ∧
    (0 < L → ∃ b off, A = some ⟨b, off, none⟩ ∧ b < w.heap.size ∧ ∀ j, j < L →
    w.cell? ⟨b, off + j * 2, none⟩ = some (.string (nthT l j).1) ∧ w.cell? ⟨b, off + j * 2 + 1, none⟩ = some (.string (nthT l j).2) ∧ (nthT l j).1.size ≤ maxLen ∧ (nthT l j).2.size ≤ maxLen) := by
  obtain ⟨A, c, e, h1, h2, h3⟩ := h
  exact ⟨A, _, c, e, rfl, h1, h2, h3⟩
theorem Vars.open' {w : World} {v : Value} {l : List Var} (h : Vars w v l) : ∃ A L c, v = .slice A L c ∧ L = l.length ∧ L ≤ c ∧ c ≤ maxLen ∧
    (0 < L → ∃ b off, A = some ⟨b, off, none⟩ ∧ b < w.heap.size ∧ ∀ j, j < L →
    w.cell? ⟨b, off + j * 2, none⟩ = some (.string (nthV l j).1) ∧ (∃ u, w.cell? ⟨b, off + j * 2 + 1, none⟩ = some u ∧ Strs w u (nthV l j).2) ∧ (nthV l j).1.size ≤ maxLen) := by
  obtain ⟨A, c, e, h1, h2, h3⟩ := h
  exact ⟨A, _, c, e, rfl, h1, h2, h3⟩

/-- The first ones alone. -/
theorem Strs.take {w : World} {A : Option Addr} {L c k : Nat} {l : List ByteArray} (h : Strs w (.slice A L c) l) (hk : k ≤ L) : Strs w (.slice A k c) (l.take k) := by
  obtain ⟨A', c', e, h1, h2, h3⟩ := h
  injection e with e1 e2 e3
  subst e1; subst e3; subst e2
  have hl : (l.take k).length = k := by rw [List.length_take]; omega
  refine ⟨A, c, by rw [hl], by omega, h2, fun hp => ?_⟩
  obtain ⟨b, off, ha, hlt, hc⟩ := h3 (by omega)
  refine ⟨b, off, ha, hlt, fun j hj => ?_⟩
  rw [hl] at hj
  have e : nthS (l.take k) j = nthS l j := by unfold nthS; rw [List.getElem?_take, if_pos hj]
  rw [e]; exact hc j (by omega)
theorem Vars.take {w : World} {A : Option Addr} {L c k : Nat} {l : List Var} (h : Vars w (.slice A L c) l) (hk : k ≤ L) : Vars w (.slice A k c) (l.take k) := by
  obtain ⟨A', c', e, h1, h2, h3⟩ := h
  injection e with e1 e2 e3
  subst e1; subst e3; subst e2
  have hl : (l.take k).length = k := by rw [List.length_take]; omega
  refine ⟨A, c, by rw [hl], by omega, h2, fun hp => ?_⟩
  obtain ⟨b, off, ha, hlt, hc⟩ := h3 (by omega)
  refine ⟨b, off, ha, hlt, fun j hj => ?_⟩
  rw [hl] at hj
  have e : nthV (l.take k) j = nthV l j := by unfold nthV; rw [List.getElem?_take, if_pos hj]
  rw [e]; exact hc j (by omega)

/-- A row of settings of the call's own. -/
def cellsT (l : List Set1) : List Value := l.flatMap fun x => [.string x.1, .string x.2]
theorem cellsT_len (l : List Set1) : (cellsT l).length = l.length * 2 := by
  induction l with
  | nil => rfl
  | cons x r ih => simp [cellsT] at ih ⊢; omega
theorem cellsT_get : ∀ (l : List Set1) (j : Nat), j < l.length → (cellsT l)[j * 2]? = some (.string (nthT l j).1) ∧ (cellsT l)[j * 2 + 1]? = some (.string (nthT l j).2)
  | [], _, h => by simp at h
  | x :: l, 0, _ => by simp [cellsT, nthT]
  | x :: l, j + 1, h => by
    have := cellsT_get l j (by simpa using h)
    have e : ∀ i, (cellsT (x :: l))[(j + 1) * 2 + i]? = (cellsT l)[j * 2 + i]? := by
      intro i
      unfold cellsT
      rw [List.flatMap_cons, List.getElem?_append_right (by simp; omega)]
      congr 1
      simp; omega
    have en : nthT (x :: l) (j + 1) = nthT l j := by simp [nthT]
    rw [en]
    exact ⟨(e 0).trans this.1, (e 1).trans this.2⟩
theorem cellsT_app (a b : List Set1) : cellsT (a ++ b) = cellsT a ++ cellsT b := by simp [cellsT]
theorem cellsT_one (l : List Set1) : ∀ u ∈ cellsT l, u.oneCell' = true := by
  intro u hu; unfold cellsT at hu; simp at hu
  obtain ⟨x, y, _, h | h⟩ := hu <;> subst h <;> rfl

def OwnT (w : World) (base : Nat) (v : Value) (l : List Set1) : Prop := w.ownsRow base 94 2 v l.length (cellsT l)

theorem OwnT.sets {w : World} {base : Nat} {v : Value} {l : List Set1} (h : OwnT w base v l) (hs : ∀ x ∈ l, x.1.size ≤ maxLen ∧ x.2.size ≤ maxLen) : Sets w v l := by
  rcases h.2 with ⟨rfl, h0⟩ | ⟨g, cap, cur, rfl, hg, hh, h1, h2, _, h4⟩
  · exact ⟨none, 0, by rw [h0], by omega, by simp [maxLen], fun hp => by omega⟩
  · refine ⟨some ⟨g, 0, none⟩, cap, rfl, h1, h2, fun _ => ⟨g, 0, rfl, lt_of_heap hh, fun j hj => ?_⟩⟩
    have hc : ∀ i u, (cellsT l)[i]? = some u → w.cell? ⟨g, i, none⟩ = some u := by
      intro i u hu
      refine cells_get hh i ?_
      rw [← h4, List.getElem?_take] at hu
      split at hu
      · simpa using hu
      · cases hu
    obtain ⟨q1, q2⟩ := cellsT_get l j hj
    have := hs _ (nthT_mem hj)
    exact ⟨by rw [Nat.zero_add]; exact hc _ _ q1, by rw [Nat.zero_add]; exact hc _ _ q2, this⟩

theorem OwnT.touch {w w' : World} {base : Nat} {v : Value} {l : List Set1} {S : Nat → Prop} (h : OwnT w base v l) (ht : Touch w w' S) (hS : ∀ g, v.ownBlock = some g → ¬ S g) : OwnT w' base v l := own_touch h ht hS
theorem OwnT.below {w w' : World} {base : Nat} {v : Value} {l : List Set1} (h : OwnT w base v l) (hb : Below w.heap.size w w') : OwnT w' base v l := own_touch h (Touch.of_below (S := fun _ => False) hb) (fun _ _ h => h)
theorem OwnT.base {w : World} {base base' : Nat} {v : Value} {l : List Set1} (h : OwnT w base v l) (hb : base' ≤ base) : OwnT w base' v l := ownsRow_base h hb
theorem OwnT.slice {w : World} {base : Nat} {v : Value} {l : List Set1} (h : OwnT w base v l) : ∃ A c, v = .slice A l.length c := by
  rcases own_len h with ⟨e, h0⟩ | ⟨g, cap, e⟩
  · exact ⟨none, 0, by rw [e, h0]⟩
  · exact ⟨_, _, e⟩
theorem own_nilT (w : World) (base : Nat) : OwnT w base (.slice none 0 0) [] := ⟨rfl, .inl ⟨rfl, rfl⟩⟩

theorem set_info : (Tryz.prog.info? 94).map (fun i => (i.zero, i.size, i.bytes)) = some (some (.agg #[.string ⟨#[]⟩, .string ⟨#[]⟩]), 2, 32) := by kernel_rfl
theorem sets_info : (Tryz.prog.info? 57).map (fun i => (i.zero, i.size, i.bytes)) = some (some (.slice none 0 0), 1, 24) := by kernel_rfl

end Go.Proofs.YtaahdhpljlkfjaaGreat.Va

/- Recipes and requests in memory. -/
namespace Go.Proofs.YtaahdhpljlkfjaaGreat.Rc
open Go.RowKit Go.ChangeShapes Go.WideShapes Go.Deep Go.Joins

abbrev Set1 := ByteArray × ByteArray
abbrev Var := ByteArray × List ByteArray
abbrev Rel := ByteArray × Bool
structure Spec where
  name : ByteArray
  spans : List Set1
  sets : List Set1
deriving Inhabited
/-- A depend (on, when), or a conflict (when, with): of a line. -/
structure Two where
  a : Spec
  b : Spec
  line : Int
deriving Inhabited
structure Pkg where
  name : ByteArray
  line : Int
  rels : List Rel
  vars : List Var
  prov : List ByteArray
  deps : List Two
  cons : List Two
  files : List ByteArray
deriving Inhabited
structure Pref where
  virt : ByteArray
  names : List ByteArray
  line : Int
deriving Inhabited
structure Rec where
  pkgs : List Pkg
  prefs : List Pref
deriving Inhabited
structure Root where
  spec : Spec
  line : Int
deriving Inhabited

/-- A spec's three cells. -/
structure IsSpec (w : World) (v1 v2 : Value) (x : Spec) : Prop where
  name : x.name.size ≤ maxLen
  spans : RowD setK w v1 x.spans
  sets : RowD setK w v2 x.sets
theorem IsSpec.below {w w' : World} {B : Nat} {v1 v2 : Value} {x : Spec} (h : IsSpec w v1 v2 x) (hb : Below B w w') (hB : w.heap.size ≤ B) : IsSpec w' v1 v2 x :=
  ⟨h.name, h.spans.below hb hB, h.sets.below hb hB⟩
def specK : Kd Spec where
  n := 3
  is w cs x := ∃ v1 v2, cs = [.string x.name, v1, v2] ∧ IsSpec w v1 v2 x
  below := by rintro w w' B cs x ⟨v1, v2, e, h⟩ hb hB; exact ⟨v1, v2, e, h.below hb hB⟩
  len := by rintro w cs x ⟨v1, v2, rfl, _⟩; rfl
def twoK : Kd Two where
  n := 7
  is w cs x := ∃ v1 v2 v3 v4, cs = [.string x.a.name, v1, v2, .string x.b.name, v3, v4, .int .i64 x.line] ∧ IsSpec w v1 v2 x.a ∧ IsSpec w v3 v4 x.b ∧ (Lit.int .i64 x.line).wf = true
  below := by rintro w w' B cs x ⟨v1, v2, v3, v4, e, h1, h2, h3⟩ hb hB; exact ⟨v1, v2, v3, v4, e, h1.below hb hB, h2.below hb hB, h3⟩
  len := by rintro w cs x ⟨v1, v2, v3, v4, rfl, _⟩; rfl
/-- A package's six rows. -/
structure IsPkg (w : World) (v1 v2 v3 v4 v5 v6 : Value) (x : Pkg) : Prop where
  name : x.name.size ≤ maxLen
  line : (Lit.int .i64 x.line).wf = true
  rels : RowD relK w v1 x.rels
  vars : RowD varK w v2 x.vars
  prov : RowD strK w v3 x.prov
  deps : RowD twoK w v4 x.deps
  cons : RowD twoK w v5 x.cons
  files : RowD strK w v6 x.files
theorem IsPkg.below {w w' : World} {B : Nat} {v1 v2 v3 v4 v5 v6 : Value} {x : Pkg} (h : IsPkg w v1 v2 v3 v4 v5 v6 x) (hb : Below B w w') (hB : w.heap.size ≤ B) : IsPkg w' v1 v2 v3 v4 v5 v6 x :=
  ⟨h.name, h.line, h.rels.below hb hB, h.vars.below hb hB, h.prov.below hb hB, h.deps.below hb hB, h.cons.below hb hB, h.files.below hb hB⟩
theorem IsPkg.sls {w : World} {v1 v2 v3 v4 v5 v6 : Value} {x : Pkg} (h : IsPkg w v1 v2 v3 v4 v5 v6 x) : (∃ A L c, v1 = .slice A L c) ∧ (∃ A L c, v2 = .slice A L c) ∧ (∃ A L c, v3 = .slice A L c) ∧ (∃ A L c, v4 = .slice A L c) ∧ (∃ A L c, v5 = .slice A L c) ∧ (∃ A L c, v6 = .slice A L c) :=
  ⟨h.rels.sl, h.vars.sl, h.prov.sl, h.deps.sl, h.cons.sl, h.files.sl⟩
def pkgK : Kd Pkg where
  n := 8
  is w cs x := ∃ v1 v2 v3 v4 v5 v6, cs = [.string x.name, .int .i64 x.line, v1, v2, v3, v4, v5, v6] ∧ IsPkg w v1 v2 v3 v4 v5 v6 x
  below := by rintro w w' B cs x ⟨v1, v2, v3, v4, v5, v6, e, h⟩ hb hB; exact ⟨v1, v2, v3, v4, v5, v6, e, h.below hb hB⟩
  len := by rintro w cs x ⟨v1, v2, v3, v4, v5, v6, rfl, _⟩; rfl
def prefK : Kd Pref where
  n := 3
  is w cs x := ∃ v1, cs = [.string x.virt, v1, .int .i64 x.line] ∧ x.virt.size ≤ maxLen ∧ RowD strK w v1 x.names ∧ (Lit.int .i64 x.line).wf = true
  below := by rintro w w' B cs x ⟨v1, e, h1, h2, h3⟩ hb hB; exact ⟨v1, e, h1, h2.below hb hB, h3⟩
  len := by rintro w cs x ⟨v1, rfl, _⟩; rfl
def rootK : Kd Root where
  n := 4
  is w cs x := ∃ v1 v2, cs = [.string x.spec.name, v1, v2, .int .i64 x.line] ∧ IsSpec w v1 v2 x.spec ∧ (Lit.int .i64 x.line).wf = true
  below := by rintro w w' B cs x ⟨v1, v2, e, h1, h2⟩ hb hB; exact ⟨v1, v2, e, h1.below hb hB, h2⟩
  len := by rintro w cs x ⟨v1, v2, rfl, _⟩; rfl
structure IsRec (w : World) (v1 v2 : Value) (x : Rec) : Prop where
  pkgs : RowD pkgK w v1 x.pkgs
  prefs : RowD prefK w v2 x.prefs
theorem IsRec.below {w w' : World} {B : Nat} {v1 v2 : Value} {x : Rec} (h : IsRec w v1 v2 x) (hb : Below B w w') (hB : w.heap.size ≤ B) : IsRec w' v1 v2 x := ⟨h.pkgs.below hb hB, h.prefs.below hb hB⟩

def recK : Kd Rec where
  n := 2
  is w cs x := ∃ v1 v2, cs = [v1, v2] ∧ IsRec w v1 v2 x
  below := by rintro w w' B cs x ⟨v1, v2, e, h⟩ hb hB; exact ⟨v1, v2, e, h.below hb hB⟩
  len := by rintro w cs x ⟨v1, v2, rfl, _⟩; rfl
/-- A request: its roots. -/
def reqK : Kd (List Root) where
  n := 1
  is w cs x := ∃ v1, cs = [v1] ∧ RowD rootK w v1 x
  below := by rintro w w' B cs x ⟨v1, e, h⟩ hb hB; exact ⟨v1, e, h.below hb hB⟩
  len := by rintro w cs x ⟨v1, rfl, _⟩; rfl

/-! An element: its cells. -/
theorem pkg_at {w : World} {A : Option Addr} {L c : Nat} {l : List Pkg} (h : RowD pkgK w (.slice A L c) l) {j : Nat} (hj : j < L) :
    ∃ b off v1 v2 v3 v4 v5 v6, A = some ⟨b, off, none⟩ ∧ b < w.heap.size ∧ IsPkg w v1 v2 v3 v4 v5 v6 (nth l j) ∧
      w.cell? ⟨b, off + j * 8, none⟩ = some (.string (nth l j).name) ∧ w.cell? ⟨b, off + j * 8 + 1, none⟩ = some (.int .i64 (nth l j).line) ∧ w.cell? ⟨b, off + j * 8 + 2, none⟩ = some v1 ∧ w.cell? ⟨b, off + j * 8 + 3, none⟩ = some v2 ∧
      w.cell? ⟨b, off + j * 8 + 4, none⟩ = some v3 ∧ w.cell? ⟨b, off + j * 8 + 5, none⟩ = some v4 ∧ w.cell? ⟨b, off + j * 8 + 6, none⟩ = some v5 ∧ w.cell? ⟨b, off + j * 8 + 7, none⟩ = some v6 := by
  obtain ⟨b, off, cs, ha, hb, ⟨v1, v2, v3, v4, v5, v6, rfl, hp⟩, hc⟩ := h.at hj
  exact ⟨b, off, v1, v2, v3, v4, v5, v6, ha, hb, hp, hc 0 (by decide), hc 1 (by decide), hc 2 (by decide), hc 3 (by decide), hc 4 (by decide), hc 5 (by decide), hc 6 (by decide), hc 7 (by decide)⟩
theorem pref_at {w : World} {A : Option Addr} {L c : Nat} {l : List Pref} (h : RowD prefK w (.slice A L c) l) {j : Nat} (hj : j < L) :
    ∃ b off v1, A = some ⟨b, off, none⟩ ∧ b < w.heap.size ∧ (nth l j).virt.size ≤ maxLen ∧ RowD strK w v1 (nth l j).names ∧ (Lit.int .i64 (nth l j).line).wf = true ∧
      w.cell? ⟨b, off + j * 3, none⟩ = some (.string (nth l j).virt) ∧ w.cell? ⟨b, off + j * 3 + 1, none⟩ = some v1 ∧ w.cell? ⟨b, off + j * 3 + 2, none⟩ = some (.int .i64 (nth l j).line) := by
  obtain ⟨b, off, cs, ha, hb, ⟨v1, rfl, h1, h2, h3⟩, hc⟩ := h.at hj
  exact ⟨b, off, v1, ha, hb, h1, h2, h3, hc 0 (by decide), hc 1 (by decide), hc 2 (by decide)⟩
theorem two_at {w : World} {A : Option Addr} {L c : Nat} {l : List Two} (h : RowD twoK w (.slice A L c) l) {j : Nat} (hj : j < L) :
    ∃ b off v1 v2 v3 v4, A = some ⟨b, off, none⟩ ∧ b < w.heap.size ∧ IsSpec w v1 v2 (nth l j).a ∧ IsSpec w v3 v4 (nth l j).b ∧ (Lit.int .i64 (nth l j).line).wf = true ∧
      w.cell? ⟨b, off + j * 7, none⟩ = some (.string (nth l j).a.name) ∧ w.cell? ⟨b, off + j * 7 + 1, none⟩ = some v1 ∧ w.cell? ⟨b, off + j * 7 + 2, none⟩ = some v2 ∧
      w.cell? ⟨b, off + j * 7 + 3, none⟩ = some (.string (nth l j).b.name) ∧ w.cell? ⟨b, off + j * 7 + 4, none⟩ = some v3 ∧ w.cell? ⟨b, off + j * 7 + 5, none⟩ = some v4 ∧ w.cell? ⟨b, off + j * 7 + 6, none⟩ = some (.int .i64 (nth l j).line) := by
  obtain ⟨b, off, cs, ha, hb, ⟨v1, v2, v3, v4, rfl, h1, h2, h3⟩, hc⟩ := h.at hj
  exact ⟨b, off, v1, v2, v3, v4, ha, hb, h1, h2, h3, hc 0 (by decide), hc 1 (by decide), hc 2 (by decide), hc 3 (by decide), hc 4 (by decide), hc 5 (by decide), hc 6 (by decide)⟩
theorem root_at {w : World} {A : Option Addr} {L c : Nat} {l : List Root} (h : RowD rootK w (.slice A L c) l) {j : Nat} (hj : j < L) :
    ∃ b off v1 v2, A = some ⟨b, off, none⟩ ∧ b < w.heap.size ∧ IsSpec w v1 v2 (nth l j).spec ∧ (Lit.int .i64 (nth l j).line).wf = true ∧
      w.cell? ⟨b, off + j * 4, none⟩ = some (.string (nth l j).spec.name) ∧ w.cell? ⟨b, off + j * 4 + 1, none⟩ = some v1 ∧ w.cell? ⟨b, off + j * 4 + 2, none⟩ = some v2 ∧ w.cell? ⟨b, off + j * 4 + 3, none⟩ = some (.int .i64 (nth l j).line) := by
  obtain ⟨b, off, cs, ha, hb, ⟨v1, v2, rfl, h1, h2⟩, hc⟩ := h.at hj
  exact ⟨b, off, v1, v2, ha, hb, h1, h2, hc 0 (by decide), hc 1 (by decide), hc 2 (by decide), hc 3 (by decide)⟩
theorem rel_at {w : World} {A : Option Addr} {L c : Nat} {l : List Rel} (h : RowD relK w (.slice A L c) l) {j : Nat} (hj : j < L) :
    ∃ b off, A = some ⟨b, off, none⟩ ∧ b < w.heap.size ∧ (nth l j).1.size ≤ maxLen ∧ w.cell? ⟨b, off + j * 2, none⟩ = some (.string (nth l j).1) ∧ w.cell? ⟨b, off + j * 2 + 1, none⟩ = some (.bool (nth l j).2) := by
  obtain ⟨b, off, cs, ha, hb, ⟨rfl, h1⟩, hc⟩ := h.at hj
  exact ⟨b, off, ha, hb, h1, hc 0 (by decide), hc 1 (by decide)⟩
theorem set_at {w : World} {A : Option Addr} {L c : Nat} {l : List Set1} (h : RowD setK w (.slice A L c) l) {j : Nat} (hj : j < L) :
    ∃ b off, A = some ⟨b, off, none⟩ ∧ b < w.heap.size ∧ (nth l j).1.size ≤ maxLen ∧ (nth l j).2.size ≤ maxLen ∧ w.cell? ⟨b, off + j * 2, none⟩ = some (.string (nth l j).1) ∧ w.cell? ⟨b, off + j * 2 + 1, none⟩ = some (.string (nth l j).2) := by
  obtain ⟨b, off, cs, ha, hb, ⟨rfl, h1, h2⟩, hc⟩ := h.at hj
  exact ⟨b, off, ha, hb, h1, h2, hc 0 (by decide), hc 1 (by decide)⟩
theorem var_at {w : World} {A : Option Addr} {L c : Nat} {l : List Var} (h : RowD varK w (.slice A L c) l) {j : Nat} (hj : j < L) :
    ∃ b off v1, A = some ⟨b, off, none⟩ ∧ b < w.heap.size ∧ (nth l j).1.size ≤ maxLen ∧ RowD strK w v1 (nth l j).2 ∧ w.cell? ⟨b, off + j * 2, none⟩ = some (.string (nth l j).1) ∧ w.cell? ⟨b, off + j * 2 + 1, none⟩ = some v1 := by
  obtain ⟨b, off, cs, ha, hb, ⟨v1, rfl, h1, h2⟩, hc⟩ := h.at hj
  exact ⟨b, off, v1, ha, hb, h1, h2, hc 0 (by decide), hc 1 (by decide)⟩
theorem str_at {w : World} {A : Option Addr} {L c : Nat} {l : List ByteArray} (h : RowD strK w (.slice A L c) l) {j : Nat} (hj : j < L) :
    ∃ b off, A = some ⟨b, off, none⟩ ∧ b < w.heap.size ∧ (nth l j).size ≤ maxLen ∧ w.cell? ⟨b, off + j, none⟩ = some (.string (nth l j)) := by
  obtain ⟨b, off, cs, ha, hb, ⟨rfl, h1⟩, hc⟩ := h.at hj
  exact ⟨b, off, ha, hb, h1, by have := hc 0 (by decide); rw [show strK.n = 1 from rfl, Nat.mul_one] at this; exact this⟩

/-! In the words of layer 4. -/
theorem to_strs {w : World} {v : Value} {l : List ByteArray} (h : RowD strK w v l) : Va.Strs w v l := by
  obtain ⟨A, c, rfl, h1, h2, h3⟩ := h
  refine ⟨A, c, rfl, h1, h2, fun hp => ?_⟩
  obtain ⟨b, off, ha, hb, hc⟩ := h3 hp
  refine ⟨b, off, ha, hb, fun j hj => ?_⟩
  obtain ⟨cs, ⟨rfl, g2⟩, g3⟩ := hc j hj
  have := g3 0 (by decide)
  rw [show strK.n = 1 from rfl, Nat.mul_one] at this
  exact ⟨this, g2⟩
theorem to_sets {w : World} {v : Value} {l : List Set1} (h : RowD setK w v l) : Va.Sets w v l := by
  obtain ⟨A, c, rfl, h1, h2, h3⟩ := h
  refine ⟨A, c, rfl, h1, h2, fun hp => ?_⟩
  obtain ⟨b, off, ha, hb, hc⟩ := h3 hp
  refine ⟨b, off, ha, hb, fun j hj => ?_⟩
  obtain ⟨cs, ⟨rfl, g2, g4⟩, g3⟩ := hc j hj
  exact ⟨g3 0 (by decide), g3 1 (by decide), g2, g4⟩
theorem to_vars {w : World} {v : Value} {l : List Var} (h : RowD varK w v l) : Va.Vars w v l := by
  obtain ⟨A, c, rfl, h1, h2, h3⟩ := h
  refine ⟨A, c, rfl, h1, h2, fun hp => ?_⟩
  obtain ⟨b, off, ha, hb, hc⟩ := h3 hp
  refine ⟨b, off, ha, hb, fun j hj => ?_⟩
  obtain ⟨cs, ⟨u, rfl, g2, g4⟩, g3⟩ := hc j hj
  exact ⟨g3 0 (by decide), ⟨u, g3 1 (by decide), to_strs g4⟩, g2⟩
end Go.Proofs.YtaahdhpljlkfjaaGreat.Rc
