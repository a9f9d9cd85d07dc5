/- Graphs in memory. -/
import Derived.Test.YtaahdhpljlkfjaaGreatZg03
import Derived.Test.YtaahdhpljlkfjaaGreatZg11
import Derived.Test.YtaahdhpljlkfjaaGreatZg12
import Derived.Test.YtaahdhpljlkfjaaGreatZg24
import Derived.Test.YtaahdhpljlkfjaaGreatZg26
import Derived.Test.YtaahdhpljlkfjaaGreatZg25
namespace Go.Proofs.YtaahdhpljlkfjaaGreat.Rc
open Go.RowKit Go.ChangeShapes Go.WideShapes Go.Deep Go.Joins

theorem int_at {w : World} {A : Option Addr} {L c : Nat} {l : List Int} (h : RowD intK w (.slice A L c) l) {j : Nat} (hj : j < L) :
    ∃ b off, A = some ⟨b, off, none⟩ ∧ b < w.heap.size ∧ (Lit.int .i64 (nth l j)).wf = true ∧ w.cell? ⟨b, off + j, none⟩ = some (.int .i64 (nth l j)) := by
  obtain ⟨b, off, cs, ha, hb, ⟨rfl, h1⟩, hc⟩ := h.at hj
  exact ⟨b, off, ha, hb, h1, by have := hc 0 (by decide); rw [show intK.n = 1 from rfl, Nat.mul_one] at this; exact this⟩
theorem wf_small {t : Int} (h : 0 ≤ t) (h2 : t < 100000) : (Lit.int .i64 t).wf = true := WalkArith.wf_i64 (by omega)
/-- A node of a graph. -/
structure Node where
  name : ByteArray
  ver : ByteArray
  sets : List Set1
  needs : List ByteArray
deriving Inhabited
structure IsNode (w : World) (v1 v2 : Value) (x : Node) : Prop where
  name : x.name.size ≤ maxLen
  ver : x.ver.size ≤ maxLen
  sets : RowD setK w v1 x.sets
  needs : RowD strK w v2 x.needs
theorem IsNode.below {w w' : World} {B : Nat} {v1 v2 : Value} {x : Node} (h : IsNode w v1 v2 x) (hb : Below B w w') (hB : w.heap.size ≤ B) : IsNode w' v1 v2 x :=
  ⟨h.name, h.ver, h.sets.below hb hB, h.needs.below hb hB⟩
def nodeK : Kd Node where
  n := 4
  is w cs x := ∃ v1 v2, cs = [.string x.name, .string x.ver, v1, v2] ∧ IsNode w v1 v2 x
  below := by rintro w w' B cs x ⟨v1, v2, e, h⟩ hb hB; exact ⟨v1, v2, e, h.below hb hB⟩
  len := by rintro w cs x ⟨v1, v2, rfl, _⟩; rfl
theorem node_at {w : World} {A : Option Addr} {L c : Nat} {l : List Node} (h : RowD nodeK w (.slice A L c) l) {j : Nat} (hj : j < L) :
    ∃ b off v1 v2, A = some ⟨b, off, none⟩ ∧ b < w.heap.size ∧ IsNode w v1 v2 (nth l j) ∧
      w.cell? ⟨b, off + j * 4, none⟩ = some (.string (nth l j).name) ∧ w.cell? ⟨b, off + j * 4 + 1, none⟩ = some (.string (nth l j).ver) ∧ w.cell? ⟨b, off + j * 4 + 2, none⟩ = some v1 ∧ w.cell? ⟨b, off + j * 4 + 3, none⟩ = some v2 := by
  obtain ⟨b, off, cs, ha, hb, ⟨v1, v2, rfl, h1⟩, hc⟩ := h.at hj
  exact ⟨b, off, v1, v2, ha, hb, h1, hc 0 (by decide), hc 1 (by decide), hc 2 (by decide), hc 3 (by decide)⟩
def graphK : Kd (List Node) where
  n := 1
  is w cs x := ∃ v1, cs = [v1] ∧ RowD nodeK w v1 x
  below := by rintro w w' B cs x ⟨v1, e, h⟩ hb hB; exact ⟨v1, e, h.below hb hB⟩
  len := by rintro w cs x ⟨v1, rfl, _⟩; rfl
section
variable {H : Type} {enc : TypeId × Value → H} {W : World} {base : Nat} {spare : Nat → Bool} {held : Bool}
theorem open_node {fuel : Nat} {cs : List Value} {x : DataW H × List MemPlace} (h : DataW.trod enc Tryz.prog W base spare held fuel 63 cs = some x) : ∃ x, nodeK.is W cs x := by
  obtain ⟨xs, n', _, _, hl, hlen, hf⟩ := DataW.trod_struct Tryz.underlying63 h
  rw [show Tryz.prog.cellsOf 63 = 4 by kernel_rfl] at hl
  have hlen' : xs.length = 4 := hlen.trans (by rfl)
  clear hlen
  obtain ⟨y0, y1, y2, y3, rfl⟩ := len4 hlen'
  obtain ⟨c0, c1, c2, c3, rfl⟩ := len4 hl
  have f0 : DataW.trod enc Tryz.prog W base spare held n' 9 [c0] = some y0 := by
    have := hf 0 _ rfl
    simpa [show Tryz.prog.cellsOf 9 = 1 by kernel_rfl] using this
  obtain ⟨s0, e0, w0⟩ := open_str Tryz.underlying9 f0
  injection e0 with e0 _; subst e0
  have f1 : DataW.trod enc Tryz.prog W base spare held n' 9 [c1] = some y1 := by
    have := hf 1 _ rfl
    simpa [show Tryz.prog.cellsOf 9 = 1 by kernel_rfl] using this
  obtain ⟨s1, e1, w1⟩ := open_str Tryz.underlying9 f1
  injection e1 with e1 _; subst e1
  have f2 : DataW.trod enc Tryz.prog W base spare held n' 57 [c2] = some y2 := by
    have := hf 2 _ rfl
    simpa [show Tryz.prog.cellsOf 57 = 1 by kernel_rfl] using this
  obtain ⟨A2, n2, p2, l2, e2, r2⟩ := open_sets f2
  injection e2 with e2 _; subst e2
  have f3 : DataW.trod enc Tryz.prog W base spare held n' 47 [c3] = some y3 := by
    have := hf 3 _ rfl
    simpa [show Tryz.prog.cellsOf 47 = 1 by kernel_rfl] using this
  obtain ⟨A3, n3, p3, l3, e3, r3⟩ := open_strs f3
  injection e3 with e3 _; subst e3
  exact ⟨⟨s0, s1, l2, l3⟩, _, _, rfl, ⟨w0, w1, r2, r3⟩⟩
theorem open_nodes {fuel : Nat} {cs : List Value} {x : DataW H × List MemPlace} (h : DataW.trod enc Tryz.prog W base spare held fuel 29 cs = some x) : ∃ A len cap l, cs = [.slice A len cap] ∧ RowD nodeK W (.slice A len cap) l :=
  open_row Tryz.underlying29 (by kernel_rfl) (by decide) (fun h => open_node h) h
theorem open_graph {fuel : Nat} {cs : List Value} {x : DataW H × List MemPlace} (h : DataW.trod enc Tryz.prog W base spare held fuel 31 cs = some x) : ∃ x, graphK.is W cs x := by
  obtain ⟨xs, n', _, _, hl, hlen, hf⟩ := DataW.trod_struct Tryz.underlying31 h
  rw [show Tryz.prog.cellsOf 31 = 1 by kernel_rfl] at hl
  have hlen' : xs.length = 1 := hlen.trans (by rfl)
  clear hlen
  obtain ⟨y0, rfl⟩ := len1 hlen'
  obtain ⟨c0, rfl⟩ := len1 hl
  have f0 : DataW.trod enc Tryz.prog W base spare held n' 29 [c0] = some y0 := by
    have := hf 0 _ rfl
    simpa [show Tryz.prog.cellsOf 29 = 1 by kernel_rfl] using this
  obtain ⟨A0, n0, p0, l0, e0, r0⟩ := open_nodes f0
  injection e0 with e0 _; subst e0
  exact ⟨l0, _, rfl, r0⟩
end
theorem Bxs.set {w0 w1 : World} {l : List (Array Value × TypeId)} (h : Bxs w0 w1 l) (j i : Nat) {cs : Array Value} {T : TypeId} (hj : l[j]? = some (cs, T)) (v : Value) : Bxs w0 (w1.setCell ⟨w0.heap.size + j, i, none⟩ v) (l.set j (cs.setIfInBounds i v, T)) :=
  ⟨h.bel.setCell (p := ⟨w0.heap.size + j, i, none⟩) (Nat.le_add_right _ _) _, fun j' cs' T' hj' => by
    have hjl := (List.getElem?_eq_some_iff.1 hj).1
    by_cases e : j' = j
    · subst e
      rw [List.getElem?_set_self hjl] at hj'
      cases hj'
      exact cells_set (h.blk _ _ _ hj) i v
    · rw [List.getElem?_set_ne (fun h => e h.symm)] at hj'
      exact heap_set_far (h.blk j' cs' T' hj') (by omega)⟩
theorem Bxs.drew {w0 w1 : World} {l : List (Array Value × TypeId)} (h : Bxs w0 w1 l) : Bxs w0 w1.drew l := h.step ⟨rfl, rfl, rfl, Nat.le_refl _, fun _ _ => rfl⟩
/-- Numbers of packages, as a row. -/
theorem targs_wf {x : Rec} {s : ByteArray} (hl : x.pkgs.length ≤ 1000) : ∀ y ∈ targs x s, intK.is default [encI y] y := by
  intro y hy
  have := targs_range hy
  exact ⟨rfl, wf_small this.1 (by omega)⟩
theorem targs_row {w : World} {base : Nat} {v : Value} {x : Rec} {s : ByteArray} (h : OwnI w base v (targs x s)) (hl : x.pkgs.length ≤ 1000) : RowD intK w v (targs x s) := h.row rfl fun y hy => targs_wf hl y hy
end Go.Proofs.YtaahdhpljlkfjaaGreat.Rc
