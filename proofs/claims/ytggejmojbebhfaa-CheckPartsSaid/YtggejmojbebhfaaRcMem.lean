/- Recipes and requests in memory. -/
import Derived.Test.YtggejmojbebhfaaRcDat
import Derived.Test.YtggejmojbebhfaaVaMem
namespace Go.Proofs.Ytggejmojbebhfaa.Rc
open Go.RowKit Go.ChangeShapes Go.WideShapes Go.Deep Go.Joins

abbrev Set1 := ByteArray × ByteArray
abbrev Var := ByteArray × List ByteArray
abbrev Rel := ByteArray × Bool
structure Spec where
  name : ByteArray
  spans : List Set1
  sets : List Set1
deriving Inhabited
/-- A depend (on, when), or a conflict (when, with): of a line. -/
structure Two where
  a : Spec
  b : Spec
  line : Int
deriving Inhabited
structure Pkg where
  name : ByteArray
  line : Int
  rels : List Rel
  vars : List Var
  prov : List ByteArray
  deps : List Two
  cons : List Two
  files : List ByteArray
deriving Inhabited
structure Pref where
  virt : ByteArray
  names : List ByteArray
  line : Int
deriving Inhabited
structure Rec where
  pkgs : List Pkg
  prefs : List Pref
deriving Inhabited
structure Root where
  spec : Spec
  line : Int
deriving Inhabited

/-- A spec's three cells. -/
structure IsSpec (w : World) (v1 v2 : Value) (x : Spec) : Prop where
  name : x.name.size ≤ maxLen
  spans : RowD setK w v1 x.spans
  sets : RowD setK w v2 x.sets
theorem IsSpec.below {w w' : World} {B : Nat} {v1 v2 : Value} {x : Spec} (h : IsSpec w v1 v2 x) (hb : Below B w w') (hB : w.heap.size ≤ B) : IsSpec w' v1 v2 x :=
  ⟨h.name, h.spans.below hb hB, h.sets.below hb hB⟩
def specK : Kd Spec where
  n := 3
  is w cs x := ∃ v1 v2, cs = [.string x.name, v1, v2] ∧ IsSpec w v1 v2 x
  below := by rintro w w' B cs x ⟨v1, v2, e, h⟩ hb hB; exact ⟨v1, v2, e, h.below hb hB⟩
  len := by rintro w cs x ⟨v1, v2, rfl, _⟩; rfl
def twoK : Kd Two where
  n := 7
  is w cs x := ∃ v1 v2 v3 v4, cs = [.string x.a.name, v1, v2, .string x.b.name, v3, v4, .int .i64 x.line] ∧ IsSpec w v1 v2 x.a ∧ IsSpec w v3 v4 x.b ∧ (Lit.int .i64 x.line).wf = true
  below := by rintro w w' B cs x ⟨v1, v2, v3, v4, e, h1, h2, h3⟩ hb hB; exact ⟨v1, v2, v3, v4, e, h1.below hb hB, h2.below hb hB, h3⟩
  len := by rintro w cs x ⟨v1, v2, v3, v4, rfl, _⟩; rfl
/-- A package's six rows. -/
structure IsPkg (w : World) (v1 v2 v3 v4 v5 v6 : Value) (x : Pkg) : Prop where
  name : x.name.size ≤ maxLen
  line : (Lit.int .i64 x.line).wf = true
  rels : RowD relK w v1 x.rels
  vars : RowD varK w v2 x.vars
  prov : RowD strK w v3 x.prov
  deps : RowD twoK w v4 x.deps
  cons : RowD twoK w v5 x.cons
  files : RowD strK w v6 x.files
theorem IsPkg.below {w w' : World} {B : Nat} {v1 v2 v3 v4 v5 v6 : Value} {x : Pkg} (h : IsPkg w v1 v2 v3 v4 v5 v6 x) (hb : Below B w w') (hB : w.heap.size ≤ B) : IsPkg w' v1 v2 v3 v4 v5 v6 x :=
  ⟨h.name, h.line, h.rels.below hb hB, h.vars.below hb hB, h.prov.below hb hB, h.deps.below hb hB, h.cons.below hb hB, h.files.below hb hB⟩
theorem IsPkg.sls {w : World} {v1 v2 v3 v4 v5 v6 : Value} {x : Pkg} (h : IsPkg w v1 v2 v3 v4 v5 v6 x) : (∃ A L c, v1 = .slice A L c) ∧ (∃ A L c, v2 = .slice A L c) ∧ (∃ A L c, v3 = .slice A L c) ∧ (∃ A L c, v4 = .slice A L c) ∧ (∃ A L c, v5 = .slice A L c) ∧ (∃ A L c, v6 = .slice A L c) :=
  ⟨h.rels.sl, h.vars.sl, h.prov.sl, h.deps.sl, h.cons.sl, h.files.sl⟩
def pkgK : Kd Pkg where
  n := 8
  is w cs x := ∃ v1 v2 v3 v4 v5 v6, cs = [.string x.name, .int .i64 x.line, v1, v2, v3, v4, v5, v6] ∧ IsPkg w v1 v2 v3 v4 v5 v6 x
  below := by rintro w w' B cs x ⟨v1, v2, v3, v4, v5, v6, e, h⟩ hb hB; exact ⟨v1, v2, v3, v4, v5, v6, e, h.below hb hB⟩
  len := by rintro w cs x ⟨v1, v2, v3, v4, v5, v6, rfl, _⟩; rfl
def prefK : Kd Pref where
  n := 3
  is w cs x := ∃ v1, cs = [.string x.virt, v1, .int .i64 x.line] ∧ x.virt.size ≤ maxLen ∧ RowD strK w v1 x.names ∧ (Lit.int .i64 x.line).wf = true
  below := by rintro w w' B cs x ⟨v1, e, h1, h2, h3⟩ hb hB; exact ⟨v1, e, h1, h2.below hb hB, h3⟩
  len := by rintro w cs x ⟨v1, rfl, _⟩; rfl
def rootK : Kd Root where
  n := 4
  is w cs x := ∃ v1 v2, cs = [.string x.spec.name, v1, v2, .int .i64 x.line] ∧ IsSpec w v1 v2 x.spec ∧ (Lit.int .i64 x.line).wf = true
  below := by rintro w w' B cs x ⟨v1, v2, e, h1, h2⟩ hb hB; exact ⟨v1, v2, e, h1.below hb hB, h2⟩
  len := by rintro w cs x ⟨v1, v2, rfl, _⟩; rfl
structure IsRec (w : World) (v1 v2 : Value) (x : Rec) : Prop where
  pkgs : RowD pkgK w v1 x.pkgs
  prefs : RowD prefK w v2 x.prefs
theorem IsRec.below {w w' : World} {B : Nat} {v1 v2 : Value} {x : Rec} (h : IsRec w v1 v2 x) (hb : Below B w w') (hB : w.heap.size ≤ B) : IsRec w' v1 v2 x := ⟨h.pkgs.below hb hB, h.prefs.below hb hB⟩

def recK : Kd Rec where
  n := 2
  is w cs x := ∃ v1 v2, cs = [v1, v2] ∧ IsRec w v1 v2 x
  below := by rintro w w' B cs x ⟨v1, v2, e, h⟩ hb hB; exact ⟨v1, v2, e, h.below hb hB⟩
  len := by rintro w cs x ⟨v1, v2, rfl, _⟩; rfl
/-- A request: its roots. -/
def reqK : Kd (List Root) where
  n := 1
  is w cs x := ∃ v1, cs = [v1] ∧ RowD rootK w v1 x
  below := by rintro w w' B cs x ⟨v1, e, h⟩ hb hB; exact ⟨v1, e, h.below hb hB⟩
  len := by rintro w cs x ⟨v1, rfl, _⟩; rfl

/-! An element: its cells. -/
theorem pkg_at {w : World} {A : Option Addr} {L c : Nat} {l : List Pkg} (h : RowD pkgK w (.slice A L c) l) {j : Nat} (hj : j < L) :
    ∃ b off v1 v2 v3 v4 v5 v6, A = some ⟨b, off, none⟩ ∧ b < w.heap.size ∧ IsPkg w v1 v2 v3 v4 v5 v6 (nth l j) ∧
      w.cell? ⟨b, off + j * 8, none⟩ = some (.string (nth l j).name) ∧ w.cell? ⟨b, off + j * 8 + 1, none⟩ = some (.int .i64 (nth l j).line) ∧ w.cell? ⟨b, off + j * 8 + 2, none⟩ = some v1 ∧ w.cell? ⟨b, off + j * 8 + 3, none⟩ = some v2 ∧
      w.cell? ⟨b, off + j * 8 + 4, none⟩ = some v3 ∧ w.cell? ⟨b, off + j * 8 + 5, none⟩ = some v4 ∧ w.cell? ⟨b, off + j * 8 + 6, none⟩ = some v5 ∧ w.cell? ⟨b, off + j * 8 + 7, none⟩ = some v6 := by
  obtain ⟨b, off, cs, ha, hb, ⟨v1, v2, v3, v4, v5, v6, rfl, hp⟩, hc⟩ := h.at hj
  exact ⟨b, off, v1, v2, v3, v4, v5, v6, ha, hb, hp, hc 0 (by decide), hc 1 (by decide), hc 2 (by decide), hc 3 (by decide), hc 4 (by decide), hc 5 (by decide), hc 6 (by decide), hc 7 (by decide)⟩
theorem pref_at {w : World} {A : Option Addr} {L c : Nat} {l : List Pref} (h : RowD prefK w (.slice A L c) l) {j : Nat} (hj : j < L) :
    ∃ b off v1, A = some ⟨b, off, none⟩ ∧ b < w.heap.size ∧ (nth l j).virt.size ≤ maxLen ∧ RowD strK w v1 (nth l j).names ∧ (Lit.int .i64 (nth l j).line).wf = true ∧
      w.cell? ⟨b, off + j * 3, none⟩ = some (.string (nth l j).virt) ∧ w.cell? ⟨b, off + j * 3 + 1, none⟩ = some v1 ∧ w.cell? ⟨b, off + j * 3 + 2, none⟩ = some (.int .i64 (nth l j).line) := by
  obtain ⟨b, off, cs, ha, hb, ⟨v1, rfl, h1, h2, h3⟩, hc⟩ := h.at hj
  exact ⟨b, off, v1, ha, hb, h1, h2, h3, hc 0 (by decide), hc 1 (by decide), hc 2 (by decide)⟩
theorem two_at {w : World} {A : Option Addr} {L c : Nat} {l : List Two} (h : RowD twoK w (.slice A L c) l) {j : Nat} (hj : j < L) :
    ∃ b off v1 v2 v3 v4, A = some ⟨b, off, none⟩ ∧ b < w.heap.size ∧ IsSpec w v1 v2 (nth l j).a ∧ IsSpec w v3 v4 (nth l j).b ∧ (Lit.int .i64 (nth l j).line).wf = true ∧
      w.cell? ⟨b, off + j * 7, none⟩ = some (.string (nth l j).a.name) ∧ w.cell? ⟨b, off + j * 7 + 1, none⟩ = some v1 ∧ w.cell? ⟨b, off + j * 7 + 2, none⟩ = some v2 ∧
      w.cell? ⟨b, off + j * 7 + 3, none⟩ = some (.string (nth l j).b.name) ∧ w.cell? ⟨b, off + j * 7 + 4, none⟩ = some v3 ∧ w.cell? ⟨b, off + j * 7 + 5, none⟩ = some v4 ∧ w.cell? ⟨b, off + j * 7 + 6, none⟩ = some (.int .i64 (nth l j).line) := by
  obtain ⟨b, off, cs, ha, hb, ⟨v1, v2, v3, v4, rfl, h1, h2, h3⟩, hc⟩ := h.at hj
  exact ⟨b, off, v1, v2, v3, v4, ha, hb, h1, h2, h3, hc 0 (by decide), hc 1 (by decide), hc 2 (by decide), hc 3 (by decide), hc 4 (by decide), hc 5 (by decide), hc 6 (by decide)⟩
theorem root_at {w : World} {A : Option Addr} {L c : Nat} {l : List Root} (h : RowD rootK w (.slice A L c) l) {j : Nat} (hj : j < L) :
    ∃ b off v1 v2, A = some ⟨b, off, none⟩ ∧ b < w.heap.size ∧ IsSpec w v1 v2 (nth l j).spec ∧ (Lit.int .i64 (nth l j).line).wf = true ∧
      w.cell? ⟨b, off + j * 4, none⟩ = some (.string (nth l j).spec.name) ∧ w.cell? ⟨b, off + j * 4 + 1, none⟩ = some v1 ∧ w.cell? ⟨b, off + j * 4 + 2, none⟩ = some v2 ∧ w.cell? ⟨b, off + j * 4 + 3, none⟩ = some (.int .i64 (nth l j).line) := by
  obtain ⟨b, off, cs, ha, hb, ⟨v1, v2, rfl, h1, h2⟩, hc⟩ := h.at hj
  exact ⟨b, off, v1, v2, ha, hb, h1, h2, hc 0 (by decide), hc 1 (by decide), hc 2 (by decide), hc 3 (by decide)⟩
theorem rel_at {w : World} {A : Option Addr} {L c : Nat} {l : List Rel} (h : RowD relK w (.slice A L c) l) {j : Nat} (hj : j < L) :
    ∃ b off, A = some ⟨b, off, none⟩ ∧ b < w.heap.size ∧ (nth l j).1.size ≤ maxLen ∧ w.cell? ⟨b, off + j * 2, none⟩ = some (.string (nth l j).1) ∧ w.cell? ⟨b, off + j * 2 + 1, none⟩ = some (.bool (nth l j).2) := by
  obtain ⟨b, off, cs, ha, hb, ⟨rfl, h1⟩, hc⟩ := h.at hj
  exact ⟨b, off, ha, hb, h1, hc 0 (by decide), hc 1 (by decide)⟩
theorem set_at {w : World} {A : Option Addr} {L c : Nat} {l : List Set1} (h : RowD setK w (.slice A L c) l) {j : Nat} (hj : j < L) :
    ∃ b off, A = some ⟨b, off, none⟩ ∧ b < w.heap.size ∧ (nth l j).1.size ≤ maxLen ∧ (nth l j).2.size ≤ maxLen ∧ w.cell? ⟨b, off + j * 2, none⟩ = some (.string (nth l j).1) ∧ w.cell? ⟨b, off + j * 2 + 1, none⟩ = some (.string (nth l j).2) := by
  obtain ⟨b, off, cs, ha, hb, ⟨rfl, h1, h2⟩, hc⟩ := h.at hj
  exact ⟨b, off, ha, hb, h1, h2, hc 0 (by decide), hc 1 (by decide)⟩
theorem var_at {w : World} {A : Option Addr} {L c : Nat} {l : List Var} (h : RowD varK w (.slice A L c) l) {j : Nat} (hj : j < L) :
    ∃ b off v1, A = some ⟨b, off, none⟩ ∧ b < w.heap.size ∧ (nth l j).1.size ≤ maxLen ∧ RowD strK w v1 (nth l j).2 ∧ w.cell? ⟨b, off + j * 2, none⟩ = some (.string (nth l j).1) ∧ w.cell? ⟨b, off + j * 2 + 1, none⟩ = some v1 := by
  obtain ⟨b, off, cs, ha, hb, ⟨v1, rfl, h1, h2⟩, hc⟩ := h.at hj
  exact ⟨b, off, v1, ha, hb, h1, h2, hc 0 (by decide), hc 1 (by decide)⟩
theorem str_at {w : World} {A : Option Addr} {L c : Nat} {l : List ByteArray} (h : RowD strK w (.slice A L c) l) {j : Nat} (hj : j < L) :
    ∃ b off, A = some ⟨b, off, none⟩ ∧ b < w.heap.size ∧ (nth l j).size ≤ maxLen ∧ w.cell? ⟨b, off + j, none⟩ = some (.string (nth l j)) := by
  obtain ⟨b, off, cs, ha, hb, ⟨rfl, h1⟩, hc⟩ := h.at hj
  exact ⟨b, off, ha, hb, h1, by have := hc 0 (by decide); rw [show strK.n = 1 from rfl, Nat.mul_one] at this; exact this⟩

/-! In the words of layer 4. -/
theorem to_strs {w : World} {v : Value} {l : List ByteArray} (h : RowD strK w v l) : Va.Strs w v l := by
  obtain ⟨A, c, rfl, h1, h2, h3⟩ := h
  refine ⟨A, c, rfl, h1, h2, fun hp => ?_⟩
  obtain ⟨b, off, ha, hb, hc⟩ := h3 hp
  refine ⟨b, off, ha, hb, fun j hj => ?_⟩
  obtain ⟨cs, ⟨rfl, g2⟩, g3⟩ := hc j hj
  have := g3 0 (by decide)
  rw [show strK.n = 1 from rfl, Nat.mul_one] at this
  exact ⟨this, g2⟩
theorem to_sets {w : World} {v : Value} {l : List Set1} (h : RowD setK w v l) : Va.Sets w v l := by
  obtain ⟨A, c, rfl, h1, h2, h3⟩ := h
  refine ⟨A, c, rfl, h1, h2, fun hp => ?_⟩
  obtain ⟨b, off, ha, hb, hc⟩ := h3 hp
  refine ⟨b, off, ha, hb, fun j hj => ?_⟩
  obtain ⟨cs, ⟨rfl, g2, g4⟩, g3⟩ := hc j hj
  exact ⟨g3 0 (by decide), g3 1 (by decide), g2, g4⟩
theorem to_vars {w : World} {v : Value} {l : List Var} (h : RowD varK w v l) : Va.Vars w v l := by
  obtain ⟨A, c, rfl, h1, h2, h3⟩ := h
  refine ⟨A, c, rfl, h1, h2, fun hp => ?_⟩
  obtain ⟨b, off, ha, hb, hc⟩ := h3 hp
  refine ⟨b, off, ha, hb, fun j hj => ?_⟩
  obtain ⟨cs, ⟨u, rfl, g2, g4⟩, g3⟩ := hc j hj
  exact ⟨g3 0 (by decide), ⟨u, g3 1 (by decide), to_strs g4⟩, g2⟩
end Go.Proofs.Ytggejmojbebhfaa.Rc
