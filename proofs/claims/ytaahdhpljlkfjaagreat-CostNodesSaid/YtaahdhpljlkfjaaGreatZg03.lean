/- Arguments that are recipes, requests, or parts of them, opened. -/
import Derived.Test.YtaahdhpljlkfjaaGreatZg02
namespace Go.Proofs.YtaahdhpljlkfjaaGreat.Rc
open Go.RowKit Go.ChangeShapes Go.WideShapes Go.Deep Go.Joins

theorem len1 {α : Type} {l : List α} (h : l.length = 1) : ∃ a0, l = [a0] := by
  match l, h with
  | [a0], _ => exact ⟨a0, rfl⟩
theorem len2 {α : Type} {l : List α} (h : l.length = 2) : ∃ a0 a1, l = [a0, a1] := by
  match l, h with
  | [a0, a1], _ => exact ⟨a0, a1, rfl⟩
theorem len3 {α : Type} {l : List α} (h : l.length = 3) : ∃ a0 a1 a2, l = [a0, a1, a2] := by
  match l, h with
  | [a0, a1, a2], _ => exact ⟨a0, a1, a2, rfl⟩
theorem len4 {α : Type} {l : List α} (h : l.length = 4) : ∃ a0 a1 a2 a3, l = [a0, a1, a2, a3] := by
  match l, h with
  | [a0, a1, a2, a3], _ => exact ⟨a0, a1, a2, a3, rfl⟩
theorem len7 {α : Type} {l : List α} (h : l.length = 7) : ∃ a0 a1 a2 a3 a4 a5 a6, l = [a0, a1, a2, a3, a4, a5, a6] := by
  match l, h with
  | [a0, a1, a2, a3, a4, a5, a6], _ => exact ⟨a0, a1, a2, a3, a4, a5, a6, rfl⟩
theorem len8 {α : Type} {l : List α} (h : l.length = 8) : ∃ a0 a1 a2 a3 a4 a5 a6 a7, l = [a0, a1, a2, a3, a4, a5, a6, a7] := by
  match l, h with
  | [a0, a1, a2, a3, a4, a5, a6, a7], _ => exact ⟨a0, a1, a2, a3, a4, a5, a6, a7, rfl⟩
section
variable {H : Type} {enc : TypeId × Value → H} {W : World} {base : Nat} {spare : Nat → Bool} {held : Bool}
theorem open_strs {fuel : Nat} {cs : List Value} {x : DataW H × List MemPlace} (h : DataW.trod enc Tryz.prog W base spare held fuel 47 cs = some x) : ∃ A len cap l, cs = [.slice A len cap] ∧ RowD strK W (.slice A len cap) l :=
  open_row Tryz.underlying47 (by kernel_rfl) (by decide) (fun h => open_str Tryz.underlying9 h) h

theorem open_set {fuel : Nat} {cs : List Value} {x : DataW H × List MemPlace} (h : DataW.trod enc Tryz.prog W base spare held fuel 94 cs = some x) : ∃ x, setK.is W cs x := by
  obtain ⟨xs, n', _, _, hl, hlen, hf⟩ := DataW.trod_struct Tryz.underlying94 h
  rw [show Tryz.prog.cellsOf 94 = 2 by kernel_rfl] at hl
  have hlen' : xs.length = 2 := hlen.trans (by rfl)
  clear hlen
  obtain ⟨y0, y1, rfl⟩ := len2 hlen'
  obtain ⟨c0, c1, rfl⟩ := len2 hl
  have f0 : DataW.trod enc Tryz.prog W base spare held n' 9 [c0] = some y0 := by
    have := hf 0 _ rfl
    simpa [show Tryz.prog.cellsOf 9 = 1 by kernel_rfl] using this
  obtain ⟨s0, e0, w0⟩ := open_str Tryz.underlying9 f0
  injection e0 with e0 _; subst e0
  have f1 : DataW.trod enc Tryz.prog W base spare held n' 9 [c1] = some y1 := by
    have := hf 1 _ rfl
    simpa [show Tryz.prog.cellsOf 9 = 1 by kernel_rfl] using this
  obtain ⟨s1, e1, w1⟩ := open_str Tryz.underlying9 f1
  injection e1 with e1 _; subst e1
  exact ⟨(s0, s1), rfl, w0, w1⟩

theorem open_span {fuel : Nat} {cs : List Value} {x : DataW H × List MemPlace} (h : DataW.trod enc Tryz.prog W base spare held fuel 72 cs = some x) : ∃ x, setK.is W cs x := by
  obtain ⟨xs, n', _, _, hl, hlen, hf⟩ := DataW.trod_struct Tryz.underlying72 h
  rw [show Tryz.prog.cellsOf 72 = 2 by kernel_rfl] at hl
  have hlen' : xs.length = 2 := hlen.trans (by rfl)
  clear hlen
  obtain ⟨y0, y1, rfl⟩ := len2 hlen'
  obtain ⟨c0, c1, rfl⟩ := len2 hl
  have f0 : DataW.trod enc Tryz.prog W base spare held n' 9 [c0] = some y0 := by
    have := hf 0 _ rfl
    simpa [show Tryz.prog.cellsOf 9 = 1 by kernel_rfl] using this
  obtain ⟨s0, e0, w0⟩ := open_str Tryz.underlying9 f0
  injection e0 with e0 _; subst e0
  have f1 : DataW.trod enc Tryz.prog W base spare held n' 9 [c1] = some y1 := by
    have := hf 1 _ rfl
    simpa [show Tryz.prog.cellsOf 9 = 1 by kernel_rfl] using this
  obtain ⟨s1, e1, w1⟩ := open_str Tryz.underlying9 f1
  injection e1 with e1 _; subst e1
  exact ⟨(s0, s1), rfl, w0, w1⟩

theorem open_rel {fuel : Nat} {cs : List Value} {x : DataW H × List MemPlace} (h : DataW.trod enc Tryz.prog W base spare held fuel 70 cs = some x) : ∃ x, relK.is W cs x := by
  obtain ⟨xs, n', _, _, hl, hlen, hf⟩ := DataW.trod_struct Tryz.underlying70 h
  rw [show Tryz.prog.cellsOf 70 = 2 by kernel_rfl] at hl
  have hlen' : xs.length = 2 := hlen.trans (by rfl)
  clear hlen
  obtain ⟨y0, y1, rfl⟩ := len2 hlen'
  obtain ⟨c0, c1, rfl⟩ := len2 hl
  have f0 : DataW.trod enc Tryz.prog W base spare held n' 9 [c0] = some y0 := by
    have := hf 0 _ rfl
    simpa [show Tryz.prog.cellsOf 9 = 1 by kernel_rfl] using this
  obtain ⟨s0, e0, w0⟩ := open_str Tryz.underlying9 f0
  injection e0 with e0 _; subst e0
  have f1 : DataW.trod enc Tryz.prog W base spare held n' 4 [c1] = some y1 := by
    have := hf 1 _ rfl
    simpa [show Tryz.prog.cellsOf 4 = 1 by kernel_rfl] using this
  obtain ⟨b1, e1, _⟩ := DataW.trod_bool Tryz.underlying4 f1
  injection e1 with e1 _; subst e1
  exact ⟨(s0, b1), rfl, w0⟩

theorem open_var {fuel : Nat} {cs : List Value} {x : DataW H × List MemPlace} (h : DataW.trod enc Tryz.prog W base spare held fuel 88 cs = some x) : ∃ x, varK.is W cs x := by
  obtain ⟨xs, n', _, _, hl, hlen, hf⟩ := DataW.trod_struct Tryz.underlying88 h
  rw [show Tryz.prog.cellsOf 88 = 2 by kernel_rfl] at hl
  have hlen' : xs.length = 2 := hlen.trans (by rfl)
  clear hlen
  obtain ⟨y0, y1, rfl⟩ := len2 hlen'
  obtain ⟨c0, c1, rfl⟩ := len2 hl
  have f0 : DataW.trod enc Tryz.prog W base spare held n' 9 [c0] = some y0 := by
    have := hf 0 _ rfl
    simpa [show Tryz.prog.cellsOf 9 = 1 by kernel_rfl] using this
  obtain ⟨s0, e0, w0⟩ := open_str Tryz.underlying9 f0
  injection e0 with e0 _; subst e0
  have f1 : DataW.trod enc Tryz.prog W base spare held n' 47 [c1] = some y1 := by
    have := hf 1 _ rfl
    simpa [show Tryz.prog.cellsOf 47 = 1 by kernel_rfl] using this
  obtain ⟨A1, n1, p1, l1, e1, r1⟩ := open_strs f1
  injection e1 with e1 _; subst e1
  exact ⟨(s0, l1), _, rfl, w0, r1⟩

theorem open_sets {fuel : Nat} {cs : List Value} {x : DataW H × List MemPlace} (h : DataW.trod enc Tryz.prog W base spare held fuel 57 cs = some x) : ∃ A len cap l, cs = [.slice A len cap] ∧ RowD setK W (.slice A len cap) l :=
  open_row Tryz.underlying57 (by kernel_rfl) (by decide) (fun h => open_set h) h
theorem open_spans {fuel : Nat} {cs : List Value} {x : DataW H × List MemPlace} (h : DataW.trod enc Tryz.prog W base spare held fuel 56 cs = some x) : ∃ A len cap l, cs = [.slice A len cap] ∧ RowD setK W (.slice A len cap) l :=
  open_row Tryz.underlying56 (by kernel_rfl) (by decide) (fun h => open_span h) h
theorem open_rels {fuel : Nat} {cs : List Value} {x : DataW H × List MemPlace} (h : DataW.trod enc Tryz.prog W base spare held fuel 45 cs = some x) : ∃ A len cap l, cs = [.slice A len cap] ∧ RowD relK W (.slice A len cap) l :=
  open_row Tryz.underlying45 (by kernel_rfl) (by decide) (fun h => open_rel h) h
theorem open_vars {fuel : Nat} {cs : List Value} {x : DataW H × List MemPlace} (h : DataW.trod enc Tryz.prog W base spare held fuel 46 cs = some x) : ∃ A len cap l, cs = [.slice A len cap] ∧ RowD varK W (.slice A len cap) l :=
  open_row Tryz.underlying46 (by kernel_rfl) (by decide) (fun h => open_var h) h
theorem open_spec {fuel : Nat} {cs : List Value} {x : DataW H × List MemPlace} (h : DataW.trod enc Tryz.prog W base spare held fuel 59 cs = some x) : ∃ x, specK.is W cs x := by
  obtain ⟨xs, n', _, _, hl, hlen, hf⟩ := DataW.trod_struct Tryz.underlying59 h
  rw [show Tryz.prog.cellsOf 59 = 3 by kernel_rfl] at hl
  have hlen' : xs.length = 3 := hlen.trans (by rfl)
  clear hlen
  obtain ⟨y0, y1, y2, rfl⟩ := len3 hlen'
  obtain ⟨c0, c1, c2, rfl⟩ := len3 hl
  have f0 : DataW.trod enc Tryz.prog W base spare held n' 9 [c0] = some y0 := by
    have := hf 0 _ rfl
    simpa [show Tryz.prog.cellsOf 9 = 1 by kernel_rfl] using this
  obtain ⟨s0, e0, w0⟩ := open_str Tryz.underlying9 f0
  injection e0 with e0 _; subst e0
  have f1 : DataW.trod enc Tryz.prog W base spare held n' 56 [c1] = some y1 := by
    have := hf 1 _ rfl
    simpa [show Tryz.prog.cellsOf 56 = 1 by kernel_rfl] using this
  obtain ⟨A1, n1, p1, l1, e1, r1⟩ := open_spans f1
  injection e1 with e1 _; subst e1
  have f2 : DataW.trod enc Tryz.prog W base spare held n' 57 [c2] = some y2 := by
    have := hf 2 _ rfl
    simpa [show Tryz.prog.cellsOf 57 = 1 by kernel_rfl] using this
  obtain ⟨A2, n2, p2, l2, e2, r2⟩ := open_sets f2
  injection e2 with e2 _; subst e2
  exact ⟨⟨s0, l1, l2⟩, _, _, rfl, ⟨w0, r1, r2⟩⟩

theorem open_dep {fuel : Nat} {cs : List Value} {x : DataW H × List MemPlace} (h : DataW.trod enc Tryz.prog W base spare held fuel 90 cs = some x) : ∃ x, twoK.is W cs x := by
  obtain ⟨xs, n', _, _, hl, hlen, hf⟩ := DataW.trod_struct Tryz.underlying90 h
  rw [show Tryz.prog.cellsOf 90 = 7 by kernel_rfl] at hl
  have hlen' : xs.length = 3 := hlen.trans (by rfl)
  clear hlen
  obtain ⟨y0, y1, y2, rfl⟩ := len3 hlen'
  obtain ⟨c0, c1, c2, c3, c4, c5, c6, rfl⟩ := len7 hl
  have f0 : DataW.trod enc Tryz.prog W base spare held n' 59 [c0, c1, c2] = some y0 := by
    have := hf 0 _ rfl
    simpa [show Tryz.prog.cellsOf 59 = 3 by kernel_rfl] using this
  obtain ⟨x0, u0, t0, e0, r0⟩ := open_spec f0
  injection e0 with e0 e01; injection e01 with e01 e02; injection e02 with e02 _; subst e0; subst e01; subst e02
  have f1 : DataW.trod enc Tryz.prog W base spare held n' 59 [c3, c4, c5] = some y1 := by
    have := hf 1 _ rfl
    simpa [show Tryz.prog.cellsOf 59 = 3 by kernel_rfl] using this
  obtain ⟨x1, u1, t1, e1, r1⟩ := open_spec f1
  injection e1 with e1 e11; injection e11 with e11 e12; injection e12 with e12 _; subst e1; subst e11; subst e12
  have f2 : DataW.trod enc Tryz.prog W base spare held n' 3 [c6] = some y2 := by
    have := hf 2 _ rfl
    simpa [show Tryz.prog.cellsOf 3 = 1 by kernel_rfl] using this
  obtain ⟨i2, e2, w2⟩ := open_intK Tryz.underlying3 f2
  injection e2 with e2 _; subst e2
  exact ⟨⟨x0, x1, i2⟩, _, _, _, _, rfl, r0, r1, w2⟩

theorem open_con {fuel : Nat} {cs : List Value} {x : DataW H × List MemPlace} (h : DataW.trod enc Tryz.prog W base spare held fuel 92 cs = some x) : ∃ x, twoK.is W cs x := by
  obtain ⟨xs, n', _, _, hl, hlen, hf⟩ := DataW.trod_struct Tryz.underlying92 h
  rw [show Tryz.prog.cellsOf 92 = 7 by kernel_rfl] at hl
  have hlen' : xs.length = 3 := hlen.trans (by rfl)
  clear hlen
  obtain ⟨y0, y1, y2, rfl⟩ := len3 hlen'
  obtain ⟨c0, c1, c2, c3, c4, c5, c6, rfl⟩ := len7 hl
  have f0 : DataW.trod enc Tryz.prog W base spare held n' 59 [c0, c1, c2] = some y0 := by
    have := hf 0 _ rfl
    simpa [show Tryz.prog.cellsOf 59 = 3 by kernel_rfl] using this
  obtain ⟨x0, u0, t0, e0, r0⟩ := open_spec f0
  injection e0 with e0 e01; injection e01 with e01 e02; injection e02 with e02 _; subst e0; subst e01; subst e02
  have f1 : DataW.trod enc Tryz.prog W base spare held n' 59 [c3, c4, c5] = some y1 := by
    have := hf 1 _ rfl
    simpa [show Tryz.prog.cellsOf 59 = 3 by kernel_rfl] using this
  obtain ⟨x1, u1, t1, e1, r1⟩ := open_spec f1
  injection e1 with e1 e11; injection e11 with e11 e12; injection e12 with e12 _; subst e1; subst e11; subst e12
  have f2 : DataW.trod enc Tryz.prog W base spare held n' 3 [c6] = some y2 := by
    have := hf 2 _ rfl
    simpa [show Tryz.prog.cellsOf 3 = 1 by kernel_rfl] using this
  obtain ⟨i2, e2, w2⟩ := open_intK Tryz.underlying3 f2
  injection e2 with e2 _; subst e2
  exact ⟨⟨x0, x1, i2⟩, _, _, _, _, rfl, r0, r1, w2⟩

theorem open_deps {fuel : Nat} {cs : List Value} {x : DataW H × List MemPlace} (h : DataW.trod enc Tryz.prog W base spare held fuel 48 cs = some x) : ∃ A len cap l, cs = [.slice A len cap] ∧ RowD twoK W (.slice A len cap) l :=
  open_row Tryz.underlying48 (by kernel_rfl) (by decide) (fun h => open_dep h) h
theorem open_cons {fuel : Nat} {cs : List Value} {x : DataW H × List MemPlace} (h : DataW.trod enc Tryz.prog W base spare held fuel 49 cs = some x) : ∃ A len cap l, cs = [.slice A len cap] ∧ RowD twoK W (.slice A len cap) l :=
  open_row Tryz.underlying49 (by kernel_rfl) (by decide) (fun h => open_con h) h
theorem open_pkg {fuel : Nat} {cs : List Value} {x : DataW H × List MemPlace} (h : DataW.trod enc Tryz.prog W base spare held fuel 51 cs = some x) : ∃ x, pkgK.is W cs x := by
  obtain ⟨xs, n', _, _, hl, hlen, hf⟩ := DataW.trod_struct Tryz.underlying51 h
  rw [show Tryz.prog.cellsOf 51 = 8 by kernel_rfl] at hl
  have hlen' : xs.length = 8 := hlen.trans (by rfl)
  clear hlen
  obtain ⟨y0, y1, y2, y3, y4, y5, y6, y7, rfl⟩ := len8 hlen'
  obtain ⟨c0, c1, c2, c3, c4, c5, c6, c7, rfl⟩ := len8 hl
  have f0 : DataW.trod enc Tryz.prog W base spare held n' 9 [c0] = some y0 := by
    have := hf 0 _ rfl
    simpa [show Tryz.prog.cellsOf 9 = 1 by kernel_rfl] using this
  obtain ⟨s0, e0, w0⟩ := open_str Tryz.underlying9 f0
  injection e0 with e0 _; subst e0
  have f1 : DataW.trod enc Tryz.prog W base spare held n' 3 [c1] = some y1 := by
    have := hf 1 _ rfl
    simpa [show Tryz.prog.cellsOf 3 = 1 by kernel_rfl] using this
  obtain ⟨i1, e1, w1⟩ := open_intK Tryz.underlying3 f1
  injection e1 with e1 _; subst e1
  have f2 : DataW.trod enc Tryz.prog W base spare held n' 45 [c2] = some y2 := by
    have := hf 2 _ rfl
    simpa [show Tryz.prog.cellsOf 45 = 1 by kernel_rfl] using this
  obtain ⟨A2, n2, p2, l2, e2, r2⟩ := open_rels f2
  injection e2 with e2 _; subst e2
  have f3 : DataW.trod enc Tryz.prog W base spare held n' 46 [c3] = some y3 := by
    have := hf 3 _ rfl
    simpa [show Tryz.prog.cellsOf 46 = 1 by kernel_rfl] using this
  obtain ⟨A3, n3, p3, l3, e3, r3⟩ := open_vars f3
  injection e3 with e3 _; subst e3
  have f4 : DataW.trod enc Tryz.prog W base spare held n' 47 [c4] = some y4 := by
    have := hf 4 _ rfl
    simpa [show Tryz.prog.cellsOf 47 = 1 by kernel_rfl] using this
  obtain ⟨A4, n4, p4, l4, e4, r4⟩ := open_strs f4
  injection e4 with e4 _; subst e4
  have f5 : DataW.trod enc Tryz.prog W base spare held n' 48 [c5] = some y5 := by
    have := hf 5 _ rfl
    simpa [show Tryz.prog.cellsOf 48 = 1 by kernel_rfl] using this
  obtain ⟨A5, n5, p5, l5, e5, r5⟩ := open_deps f5
  injection e5 with e5 _; subst e5
  have f6 : DataW.trod enc Tryz.prog W base spare held n' 49 [c6] = some y6 := by
    have := hf 6 _ rfl
    simpa [show Tryz.prog.cellsOf 49 = 1 by kernel_rfl] using this
  obtain ⟨A6, n6, p6, l6, e6, r6⟩ := open_cons f6
  injection e6 with e6 _; subst e6
  have f7 : DataW.trod enc Tryz.prog W base spare held n' 47 [c7] = some y7 := by
    have := hf 7 _ rfl
    simpa [show Tryz.prog.cellsOf 47 = 1 by kernel_rfl] using this
  obtain ⟨A7, n7, p7, l7, e7, r7⟩ := open_strs f7
  injection e7 with e7 _; subst e7
  exact ⟨⟨s0, i1, l2, l3, l4, l5, l6, l7⟩, _, _, _, _, _, _, rfl, ⟨w0, w1, r2, r3, r4, r5, r6, r7⟩⟩

theorem open_pref {fuel : Nat} {cs : List Value} {x : DataW H × List MemPlace} (h : DataW.trod enc Tryz.prog W base spare held fuel 53 cs = some x) : ∃ x, prefK.is W cs x := by
  obtain ⟨xs, n', _, _, hl, hlen, hf⟩ := DataW.trod_struct Tryz.underlying53 h
  rw [show Tryz.prog.cellsOf 53 = 3 by kernel_rfl] at hl
  have hlen' : xs.length = 3 := hlen.trans (by rfl)
  clear hlen
  obtain ⟨y0, y1, y2, rfl⟩ := len3 hlen'
  obtain ⟨c0, c1, c2, rfl⟩ := len3 hl
  have f0 : DataW.trod enc Tryz.prog W base spare held n' 9 [c0] = some y0 := by
    have := hf 0 _ rfl
    simpa [show Tryz.prog.cellsOf 9 = 1 by kernel_rfl] using this
  obtain ⟨s0, e0, w0⟩ := open_str Tryz.underlying9 f0
  injection e0 with e0 _; subst e0
  have f1 : DataW.trod enc Tryz.prog W base spare held n' 47 [c1] = some y1 := by
    have := hf 1 _ rfl
    simpa [show Tryz.prog.cellsOf 47 = 1 by kernel_rfl] using this
  obtain ⟨A1, n1, p1, l1, e1, r1⟩ := open_strs f1
  injection e1 with e1 _; subst e1
  have f2 : DataW.trod enc Tryz.prog W base spare held n' 3 [c2] = some y2 := by
    have := hf 2 _ rfl
    simpa [show Tryz.prog.cellsOf 3 = 1 by kernel_rfl] using this
  obtain ⟨i2, e2, w2⟩ := open_intK Tryz.underlying3 f2
  injection e2 with e2 _; subst e2
  exact ⟨⟨s0, l1, i2⟩, _, rfl, w0, r1, w2⟩

theorem open_root {fuel : Nat} {cs : List Value} {x : DataW H × List MemPlace} (h : DataW.trod enc Tryz.prog W base spare held fuel 61 cs = some x) : ∃ x, rootK.is W cs x := by
  obtain ⟨xs, n', _, _, hl, hlen, hf⟩ := DataW.trod_struct Tryz.underlying61 h
  rw [show Tryz.prog.cellsOf 61 = 4 by kernel_rfl] at hl
  have hlen' : xs.length = 2 := hlen.trans (by rfl)
  clear hlen
  obtain ⟨y0, y1, rfl⟩ := len2 hlen'
  obtain ⟨c0, c1, c2, c3, rfl⟩ := len4 hl
  have f0 : DataW.trod enc Tryz.prog W base spare held n' 59 [c0, c1, c2] = some y0 := by
    have := hf 0 _ rfl
    simpa [show Tryz.prog.cellsOf 59 = 3 by kernel_rfl] using this
  obtain ⟨x0, u0, t0, e0, r0⟩ := open_spec f0
  injection e0 with e0 e01; injection e01 with e01 e02; injection e02 with e02 _; subst e0; subst e01; subst e02
  have f1 : DataW.trod enc Tryz.prog W base spare held n' 3 [c3] = some y1 := by
    have := hf 1 _ rfl
    simpa [show Tryz.prog.cellsOf 3 = 1 by kernel_rfl] using this
  obtain ⟨i1, e1, w1⟩ := open_intK Tryz.underlying3 f1
  injection e1 with e1 _; subst e1
  exact ⟨⟨x0, i1⟩, _, _, rfl, r0, w1⟩

theorem open_pkgs {fuel : Nat} {cs : List Value} {x : DataW H × List MemPlace} (h : DataW.trod enc Tryz.prog W base spare held fuel 22 cs = some x) : ∃ A len cap l, cs = [.slice A len cap] ∧ RowD pkgK W (.slice A len cap) l :=
  open_row Tryz.underlying22 (by kernel_rfl) (by decide) (fun h => open_pkg h) h
theorem open_prefs {fuel : Nat} {cs : List Value} {x : DataW H × List MemPlace} (h : DataW.trod enc Tryz.prog W base spare held fuel 23 cs = some x) : ∃ A len cap l, cs = [.slice A len cap] ∧ RowD prefK W (.slice A len cap) l :=
  open_row Tryz.underlying23 (by kernel_rfl) (by decide) (fun h => open_pref h) h
theorem open_roots {fuel : Nat} {cs : List Value} {x : DataW H × List MemPlace} (h : DataW.trod enc Tryz.prog W base spare held fuel 26 cs = some x) : ∃ A len cap l, cs = [.slice A len cap] ∧ RowD rootK W (.slice A len cap) l :=
  open_row Tryz.underlying26 (by kernel_rfl) (by decide) (fun h => open_root h) h
theorem open_rec {fuel : Nat} {cs : List Value} {x : DataW H × List MemPlace} (h : DataW.trod enc Tryz.prog W base spare held fuel 25 cs = some x) : ∃ x, recK.is W cs x := by
  obtain ⟨xs, n', _, _, hl, hlen, hf⟩ := DataW.trod_struct Tryz.underlying25 h
  rw [show Tryz.prog.cellsOf 25 = 2 by kernel_rfl] at hl
  have hlen' : xs.length = 2 := hlen.trans (by rfl)
  clear hlen
  obtain ⟨y0, y1, rfl⟩ := len2 hlen'
  obtain ⟨c0, c1, rfl⟩ := len2 hl
  have f0 : DataW.trod enc Tryz.prog W base spare held n' 22 [c0] = some y0 := by
    have := hf 0 _ rfl
    simpa [show Tryz.prog.cellsOf 22 = 1 by kernel_rfl] using this
  obtain ⟨A0, n0, p0, l0, e0, r0⟩ := open_pkgs f0
  injection e0 with e0 _; subst e0
  have f1 : DataW.trod enc Tryz.prog W base spare held n' 23 [c1] = some y1 := by
    have := hf 1 _ rfl
    simpa [show Tryz.prog.cellsOf 23 = 1 by kernel_rfl] using this
  obtain ⟨A1, n1, p1, l1, e1, r1⟩ := open_prefs f1
  injection e1 with e1 _; subst e1
  exact ⟨⟨l0, l1⟩, _, _, rfl, ⟨r0, r1⟩⟩

/-- A request, where the program has one. -/
theorem open_req {fuel : Nat} {cs : List Value} {x : DataW H × List MemPlace} (h : DataW.trod enc Tryz.prog W base spare held fuel 28 cs = some x) : ∃ x, reqK.is W cs x := by
  obtain ⟨xs, n', _, _, hl, hlen, hf⟩ := DataW.trod_struct Tryz.underlying28 h
  rw [show Tryz.prog.cellsOf 28 = 1 by kernel_rfl] at hl
  have hlen' : xs.length = 1 := hlen.trans (by rfl)
  clear hlen
  obtain ⟨y0, rfl⟩ := len1 hlen'
  obtain ⟨c0, rfl⟩ := len1 hl
  have f0 : DataW.trod enc Tryz.prog W base spare held n' 26 [c0] = some y0 := by
    have := hf 0 _ rfl
    simpa [show Tryz.prog.cellsOf 26 = 1 by kernel_rfl] using this
  obtain ⟨A0, n0, p0, l0, e0, r0⟩ := open_roots f0
  injection e0 with e0 _; subst e0
  exact ⟨l0, _, rfl, r0⟩
set_option maxRecDepth 100000 in
/-- A value of many cells, by value. -/
theorem open_val {α : Type} {K : Kd α} {t : TypeId} {fs : Array Field} {r : Reach} {b0 : Nat} {v : Value} {d : DataW H} {q : List MemPlace} (hs : Tryz.prog.underlying t = some (.struct fs))
    (hopen : ∀ {n : Nat} {cs : List Value} {y : DataW H × List MemPlace}, DataW.trod enc Tryz.prog W base spare held n t cs = some y → ∃ x, K.is W cs x)
    (hv : Value.okWide Tryz.prog W r b0 t v) (h : DataW.Trod enc Tryz.prog W base spare held t v d q) : ∃ cs x, v = .agg cs.toArray ∧ K.is W cs x := by
  obtain ⟨cs, rfl, _⟩ := okWide_struct hs hv
  obtain ⟨fuel, hf⟩ := h
  obtain ⟨x, hx⟩ := hopen hf
  exact ⟨cs.toList, x, by rw [Array.toArray_toList], hx⟩
end
end Go.Proofs.YtaahdhpljlkfjaaGreat.Rc
