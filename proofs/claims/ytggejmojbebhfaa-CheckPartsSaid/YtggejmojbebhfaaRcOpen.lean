/- Arguments that are recipes, requests, or parts of them, opened. -/
import Derived.Test.YtggejmojbebhfaaRcMem
namespace Go.Proofs.Ytggejmojbebhfaa.Rc
open Go.RowKit Go.ChangeShapes Go.WideShapes Go.Deep Go.Joins

theorem len1 {α : Type} {l : List α} (h : l.length = 1) : ∃ a0, l = [a0] := by
  match l, h with
  | [a0], _ => exact ⟨a0, rfl⟩
theorem len2 {α : Type} {l : List α} (h : l.length = 2) : ∃ a0 a1, l = [a0, a1] := by
  match l, h with
  | [a0, a1], _ => exact ⟨a0, a1, rfl⟩
theorem len3 {α : Type} {l : List α} (h : l.length = 3) : ∃ a0 a1 a2, l = [a0, a1, a2] := by
  match l, h with
  | [a0, a1, a2], _ => exact ⟨a0, a1, a2, rfl⟩
theorem len4 {α : Type} {l : List α} (h : l.length = 4) : ∃ a0 a1 a2 a3, l = [a0, a1, a2, a3] := by
  match l, h with
  | [a0, a1, a2, a3], _ => exact ⟨a0, a1, a2, a3, rfl⟩
theorem len7 {α : Type} {l : List α} (h : l.length = 7) : ∃ a0 a1 a2 a3 a4 a5 a6, l = [a0, a1, a2, a3, a4, a5, a6] := by
  match l, h with
  | [a0, a1, a2, a3, a4, a5, a6], _ => exact ⟨a0, a1, a2, a3, a4, a5, a6, rfl⟩
theorem len8 {α : Type} {l : List α} (h : l.length = 8) : ∃ a0 a1 a2 a3 a4 a5 a6 a7, l = [a0, a1, a2, a3, a4, a5, a6, a7] := by
  match l, h with
  | [a0, a1, a2, a3, a4, a5, a6, a7], _ => exact ⟨a0, a1, a2, a3, a4, a5, a6, a7, rfl⟩
section
variable {H : Type} {enc : TypeId × Value → H} {W : World} {base : Nat} {spare : Nat → Bool} {held : Bool}
theorem open_strs {fuel : Nat} {cs : List Value} {x : DataW H × List MemPlace} (h : DataW.trod enc Try.prog W base spare held fuel 41 cs = some x) : ∃ A len cap l, cs = [.slice A len cap] ∧ RowD strK W (.slice A len cap) l :=
  open_row Try.underlying41 (by kernel_rfl) (by decide) (fun h => open_str Try.underlying9 h) h

theorem open_set {fuel : Nat} {cs : List Value} {x : DataW H × List MemPlace} (h : DataW.trod enc Try.prog W base spare held fuel 78 cs = some x) : ∃ x, setK.is W cs x := by
  obtain ⟨xs, n', _, _, hl, hlen, hf⟩ := DataW.trod_struct Try.underlying78 h
  rw [show Try.prog.cellsOf 78 = 2 by kernel_rfl] at hl
  have hlen' : xs.length = 2 := hlen.trans (by rfl)
  clear hlen
  obtain ⟨y0, y1, rfl⟩ := len2 hlen'
  obtain ⟨c0, c1, rfl⟩ := len2 hl
  have f0 : DataW.trod enc Try.prog W base spare held n' 9 [c0] = some y0 := by
    have := hf 0 _ rfl
    simpa [show Try.prog.cellsOf 9 = 1 by kernel_rfl] using this
  obtain ⟨s0, e0, w0⟩ := open_str Try.underlying9 f0
  injection e0 with e0 _; subst e0
  have f1 : DataW.trod enc Try.prog W base spare held n' 9 [c1] = some y1 := by
    have := hf 1 _ rfl
    simpa [show Try.prog.cellsOf 9 = 1 by kernel_rfl] using this
  obtain ⟨s1, e1, w1⟩ := open_str Try.underlying9 f1
  injection e1 with e1 _; subst e1
  exact ⟨(s0, s1), rfl, w0, w1⟩

theorem open_span {fuel : Nat} {cs : List Value} {x : DataW H × List MemPlace} (h : DataW.trod enc Try.prog W base spare held fuel 108 cs = some x) : ∃ x, setK.is W cs x := by
  obtain ⟨xs, n', _, _, hl, hlen, hf⟩ := DataW.trod_struct Try.underlying108 h
  rw [show Try.prog.cellsOf 108 = 2 by kernel_rfl] at hl
  have hlen' : xs.length = 2 := hlen.trans (by rfl)
  clear hlen
  obtain ⟨y0, y1, rfl⟩ := len2 hlen'
  obtain ⟨c0, c1, rfl⟩ := len2 hl
  have f0 : DataW.trod enc Try.prog W base spare held n' 9 [c0] = some y0 := by
    have := hf 0 _ rfl
    simpa [show Try.prog.cellsOf 9 = 1 by kernel_rfl] using this
  obtain ⟨s0, e0, w0⟩ := open_str Try.underlying9 f0
  injection e0 with e0 _; subst e0
  have f1 : DataW.trod enc Try.prog W base spare held n' 9 [c1] = some y1 := by
    have := hf 1 _ rfl
    simpa [show Try.prog.cellsOf 9 = 1 by kernel_rfl] using this
  obtain ⟨s1, e1, w1⟩ := open_str Try.underlying9 f1
  injection e1 with e1 _; subst e1
  exact ⟨(s0, s1), rfl, w0, w1⟩

theorem open_rel {fuel : Nat} {cs : List Value} {x : DataW H × List MemPlace} (h : DataW.trod enc Try.prog W base spare held fuel 58 cs = some x) : ∃ x, relK.is W cs x := by
  obtain ⟨xs, n', _, _, hl, hlen, hf⟩ := DataW.trod_struct Try.underlying58 h
  rw [show Try.prog.cellsOf 58 = 2 by kernel_rfl] at hl
  have hlen' : xs.length = 2 := hlen.trans (by rfl)
  clear hlen
  obtain ⟨y0, y1, rfl⟩ := len2 hlen'
  obtain ⟨c0, c1, rfl⟩ := len2 hl
  have f0 : DataW.trod enc Try.prog W base spare held n' 9 [c0] = some y0 := by
    have := hf 0 _ rfl
    simpa [show Try.prog.cellsOf 9 = 1 by kernel_rfl] using this
  obtain ⟨s0, e0, w0⟩ := open_str Try.underlying9 f0
  injection e0 with e0 _; subst e0
  have f1 : DataW.trod enc Try.prog W base spare held n' 4 [c1] = some y1 := by
    have := hf 1 _ rfl
    simpa [show Try.prog.cellsOf 4 = 1 by kernel_rfl] using this
  obtain ⟨b1, e1, _⟩ := DataW.trod_bool Try.underlying4 f1
  injection e1 with e1 _; subst e1
  exact ⟨(s0, b1), rfl, w0⟩

theorem open_var {fuel : Nat} {cs : List Value} {x : DataW H × List MemPlace} (h : DataW.trod enc Try.prog W base spare held fuel 98 cs = some x) : ∃ x, varK.is W cs x := by
  obtain ⟨xs, n', _, _, hl, hlen, hf⟩ := DataW.trod_struct Try.underlying98 h
  rw [show Try.prog.cellsOf 98 = 2 by kernel_rfl] at hl
  have hlen' : xs.length = 2 := hlen.trans (by rfl)
  clear hlen
  obtain ⟨y0, y1, rfl⟩ := len2 hlen'
  obtain ⟨c0, c1, rfl⟩ := len2 hl
  have f0 : DataW.trod enc Try.prog W base spare held n' 9 [c0] = some y0 := by
    have := hf 0 _ rfl
    simpa [show Try.prog.cellsOf 9 = 1 by kernel_rfl] using this
  obtain ⟨s0, e0, w0⟩ := open_str Try.underlying9 f0
  injection e0 with e0 _; subst e0
  have f1 : DataW.trod enc Try.prog W base spare held n' 41 [c1] = some y1 := by
    have := hf 1 _ rfl
    simpa [show Try.prog.cellsOf 41 = 1 by kernel_rfl] using this
  obtain ⟨A1, n1, p1, l1, e1, r1⟩ := open_strs f1
  injection e1 with e1 _; subst e1
  exact ⟨(s0, l1), _, rfl, w0, r1⟩

theorem open_sets {fuel : Nat} {cs : List Value} {x : DataW H × List MemPlace} (h : DataW.trod enc Try.prog W base spare held fuel 71 cs = some x) : ∃ A len cap l, cs = [.slice A len cap] ∧ RowD setK W (.slice A len cap) l :=
  open_row Try.underlying71 (by kernel_rfl) (by decide) (fun h => open_set h) h
theorem open_spans {fuel : Nat} {cs : List Value} {x : DataW H × List MemPlace} (h : DataW.trod enc Try.prog W base spare held fuel 70 cs = some x) : ∃ A len cap l, cs = [.slice A len cap] ∧ RowD setK W (.slice A len cap) l :=
  open_row Try.underlying70 (by kernel_rfl) (by decide) (fun h => open_span h) h
theorem open_rels {fuel : Nat} {cs : List Value} {x : DataW H × List MemPlace} (h : DataW.trod enc Try.prog W base spare held fuel 39 cs = some x) : ∃ A len cap l, cs = [.slice A len cap] ∧ RowD relK W (.slice A len cap) l :=
  open_row Try.underlying39 (by kernel_rfl) (by decide) (fun h => open_rel h) h
theorem open_vars {fuel : Nat} {cs : List Value} {x : DataW H × List MemPlace} (h : DataW.trod enc Try.prog W base spare held fuel 40 cs = some x) : ∃ A len cap l, cs = [.slice A len cap] ∧ RowD varK W (.slice A len cap) l :=
  open_row Try.underlying40 (by kernel_rfl) (by decide) (fun h => open_var h) h
theorem open_spec {fuel : Nat} {cs : List Value} {x : DataW H × List MemPlace} (h : DataW.trod enc Try.prog W base spare held fuel 73 cs = some x) : ∃ x, specK.is W cs x := by
  obtain ⟨xs, n', _, _, hl, hlen, hf⟩ := DataW.trod_struct Try.underlying73 h
  rw [show Try.prog.cellsOf 73 = 3 by kernel_rfl] at hl
  have hlen' : xs.length = 3 := hlen.trans (by rfl)
  clear hlen
  obtain ⟨y0, y1, y2, rfl⟩ := len3 hlen'
  obtain ⟨c0, c1, c2, rfl⟩ := len3 hl
  have f0 : DataW.trod enc Try.prog W base spare held n' 9 [c0] = some y0 := by
    have := hf 0 _ rfl
    simpa [show Try.prog.cellsOf 9 = 1 by kernel_rfl] using this
  obtain ⟨s0, e0, w0⟩ := open_str Try.underlying9 f0
  injection e0 with e0 _; subst e0
  have f1 : DataW.trod enc Try.prog W base spare held n' 70 [c1] = some y1 := by
    have := hf 1 _ rfl
    simpa [show Try.prog.cellsOf 70 = 1 by kernel_rfl] using this
  obtain ⟨A1, n1, p1, l1, e1, r1⟩ := open_spans f1
  injection e1 with e1 _; subst e1
  have f2 : DataW.trod enc Try.prog W base spare held n' 71 [c2] = some y2 := by
    have := hf 2 _ rfl
    simpa [show Try.prog.cellsOf 71 = 1 by kernel_rfl] using this
  obtain ⟨A2, n2, p2, l2, e2, r2⟩ := open_sets f2
  injection e2 with e2 _; subst e2
  exact ⟨⟨s0, l1, l2⟩, _, _, rfl, ⟨w0, r1, r2⟩⟩

theorem open_dep {fuel : Nat} {cs : List Value} {x : DataW H × List MemPlace} (h : DataW.trod enc Try.prog W base spare held fuel 80 cs = some x) : ∃ x, twoK.is W cs x := by
  obtain ⟨xs, n', _, _, hl, hlen, hf⟩ := DataW.trod_struct Try.underlying80 h
  rw [show Try.prog.cellsOf 80 = 7 by kernel_rfl] at hl
  have hlen' : xs.length = 3 := hlen.trans (by rfl)
  clear hlen
  obtain ⟨y0, y1, y2, rfl⟩ := len3 hlen'
  obtain ⟨c0, c1, c2, c3, c4, c5, c6, rfl⟩ := len7 hl
  have f0 : DataW.trod enc Try.prog W base spare held n' 73 [c0, c1, c2] = some y0 := by
    have := hf 0 _ rfl
    simpa [show Try.prog.cellsOf 73 = 3 by kernel_rfl] using this
  obtain ⟨x0, u0, t0, e0, r0⟩ := open_spec f0
  injection e0 with e0 e01; injection e01 with e01 e02; injection e02 with e02 _; subst e0; subst e01; subst e02
  have f1 : DataW.trod enc Try.prog W base spare held n' 73 [c3, c4, c5] = some y1 := by
    have := hf 1 _ rfl
    simpa [show Try.prog.cellsOf 73 = 3 by kernel_rfl] using this
  obtain ⟨x1, u1, t1, e1, r1⟩ := open_spec f1
  injection e1 with e1 e11; injection e11 with e11 e12; injection e12 with e12 _; subst e1; subst e11; subst e12
  have f2 : DataW.trod enc Try.prog W base spare held n' 3 [c6] = some y2 := by
    have := hf 2 _ rfl
    simpa [show Try.prog.cellsOf 3 = 1 by kernel_rfl] using this
  obtain ⟨i2, e2, w2⟩ := open_intK Try.underlying3 f2
  injection e2 with e2 _; subst e2
  exact ⟨⟨x0, x1, i2⟩, _, _, _, _, rfl, r0, r1, w2⟩

theorem open_con {fuel : Nat} {cs : List Value} {x : DataW H × List MemPlace} (h : DataW.trod enc Try.prog W base spare held fuel 100 cs = some x) : ∃ x, twoK.is W cs x := by
  obtain ⟨xs, n', _, _, hl, hlen, hf⟩ := DataW.trod_struct Try.underlying100 h
  rw [show Try.prog.cellsOf 100 = 7 by kernel_rfl] at hl
  have hlen' : xs.length = 3 := hlen.trans (by rfl)
  clear hlen
  obtain ⟨y0, y1, y2, rfl⟩ := len3 hlen'
  obtain ⟨c0, c1, c2, c3, c4, c5, c6, rfl⟩ := len7 hl
  have f0 : DataW.trod enc Try.prog W base spare held n' 73 [c0, c1, c2] = some y0 := by
    have := hf 0 _ rfl
    simpa [show Try.prog.cellsOf 73 = 3 by kernel_rfl] using this
  obtain ⟨x0, u0, t0, e0, r0⟩ := open_spec f0
  injection e0 with e0 e01; injection e01 with e01 e02; injection e02 with e02 _; subst e0; subst e01; subst e02
  have f1 : DataW.trod enc Try.prog W base spare held n' 73 [c3, c4, c5] = some y1 := by
    have := hf 1 _ rfl
    simpa [show Try.prog.cellsOf 73 = 3 by kernel_rfl] using this
  obtain ⟨x1, u1, t1, e1, r1⟩ := open_spec f1
  injection e1 with e1 e11; injection e11 with e11 e12; injection e12 with e12 _; subst e1; subst e11; subst e12
  have f2 : DataW.trod enc Try.prog W base spare held n' 3 [c6] = some y2 := by
    have := hf 2 _ rfl
    simpa [show Try.prog.cellsOf 3 = 1 by kernel_rfl] using this
  obtain ⟨i2, e2, w2⟩ := open_intK Try.underlying3 f2
  injection e2 with e2 _; subst e2
  exact ⟨⟨x0, x1, i2⟩, _, _, _, _, rfl, r0, r1, w2⟩

theorem open_deps {fuel : Nat} {cs : List Value} {x : DataW H × List MemPlace} (h : DataW.trod enc Try.prog W base spare held fuel 42 cs = some x) : ∃ A len cap l, cs = [.slice A len cap] ∧ RowD twoK W (.slice A len cap) l :=
  open_row Try.underlying42 (by kernel_rfl) (by decide) (fun h => open_dep h) h
theorem open_cons {fuel : Nat} {cs : List Value} {x : DataW H × List MemPlace} (h : DataW.trod enc Try.prog W base spare held fuel 43 cs = some x) : ∃ A len cap l, cs = [.slice A len cap] ∧ RowD twoK W (.slice A len cap) l :=
  open_row Try.underlying43 (by kernel_rfl) (by decide) (fun h => open_con h) h
theorem open_pkg {fuel : Nat} {cs : List Value} {x : DataW H × List MemPlace} (h : DataW.trod enc Try.prog W base spare held fuel 45 cs = some x) : ∃ x, pkgK.is W cs x := by
  obtain ⟨xs, n', _, _, hl, hlen, hf⟩ := DataW.trod_struct Try.underlying45 h
  rw [show Try.prog.cellsOf 45 = 8 by kernel_rfl] at hl
  have hlen' : xs.length = 8 := hlen.trans (by rfl)
  clear hlen
  obtain ⟨y0, y1, y2, y3, y4, y5, y6, y7, rfl⟩ := len8 hlen'
  obtain ⟨c0, c1, c2, c3, c4, c5, c6, c7, rfl⟩ := len8 hl
  have f0 : DataW.trod enc Try.prog W base spare held n' 9 [c0] = some y0 := by
    have := hf 0 _ rfl
    simpa [show Try.prog.cellsOf 9 = 1 by kernel_rfl] using this
  obtain ⟨s0, e0, w0⟩ := open_str Try.underlying9 f0
  injection e0 with e0 _; subst e0
  have f1 : DataW.trod enc Try.prog W base spare held n' 3 [c1] = some y1 := by
    have := hf 1 _ rfl
    simpa [show Try.prog.cellsOf 3 = 1 by kernel_rfl] using this
  obtain ⟨i1, e1, w1⟩ := open_intK Try.underlying3 f1
  injection e1 with e1 _; subst e1
  have f2 : DataW.trod enc Try.prog W base spare held n' 39 [c2] = some y2 := by
    have := hf 2 _ rfl
    simpa [show Try.prog.cellsOf 39 = 1 by kernel_rfl] using this
  obtain ⟨A2, n2, p2, l2, e2, r2⟩ := open_rels f2
  injection e2 with e2 _; subst e2
  have f3 : DataW.trod enc Try.prog W base spare held n' 40 [c3] = some y3 := by
    have := hf 3 _ rfl
    simpa [show Try.prog.cellsOf 40 = 1 by kernel_rfl] using this
  obtain ⟨A3, n3, p3, l3, e3, r3⟩ := open_vars f3
  injection e3 with e3 _; subst e3
  have f4 : DataW.trod enc Try.prog W base spare held n' 41 [c4] = some y4 := by
    have := hf 4 _ rfl
    simpa [show Try.prog.cellsOf 41 = 1 by kernel_rfl] using this
  obtain ⟨A4, n4, p4, l4, e4, r4⟩ := open_strs f4
  injection e4 with e4 _; subst e4
  have f5 : DataW.trod enc Try.prog W base spare held n' 42 [c5] = some y5 := by
    have := hf 5 _ rfl
    simpa [show Try.prog.cellsOf 42 = 1 by kernel_rfl] using this
  obtain ⟨A5, n5, p5, l5, e5, r5⟩ := open_deps f5
  injection e5 with e5 _; subst e5
  have f6 : DataW.trod enc Try.prog W base spare held n' 43 [c6] = some y6 := by
    have := hf 6 _ rfl
    simpa [show Try.prog.cellsOf 43 = 1 by kernel_rfl] using this
  obtain ⟨A6, n6, p6, l6, e6, r6⟩ := open_cons f6
  injection e6 with e6 _; subst e6
  have f7 : DataW.trod enc Try.prog W base spare held n' 41 [c7] = some y7 := by
    have := hf 7 _ rfl
    simpa [show Try.prog.cellsOf 41 = 1 by kernel_rfl] using this
  obtain ⟨A7, n7, p7, l7, e7, r7⟩ := open_strs f7
  injection e7 with e7 _; subst e7
  exact ⟨⟨s0, i1, l2, l3, l4, l5, l6, l7⟩, _, _, _, _, _, _, rfl, ⟨w0, w1, r2, r3, r4, r5, r6, r7⟩⟩

theorem open_pref {fuel : Nat} {cs : List Value} {x : DataW H × List MemPlace} (h : DataW.trod enc Try.prog W base spare held fuel 63 cs = some x) : ∃ x, prefK.is W cs x := by
  obtain ⟨xs, n', _, _, hl, hlen, hf⟩ := DataW.trod_struct Try.underlying63 h
  rw [show Try.prog.cellsOf 63 = 3 by kernel_rfl] at hl
  have hlen' : xs.length = 3 := hlen.trans (by rfl)
  clear hlen
  obtain ⟨y0, y1, y2, rfl⟩ := len3 hlen'
  obtain ⟨c0, c1, c2, rfl⟩ := len3 hl
  have f0 : DataW.trod enc Try.prog W base spare held n' 9 [c0] = some y0 := by
    have := hf 0 _ rfl
    simpa [show Try.prog.cellsOf 9 = 1 by kernel_rfl] using this
  obtain ⟨s0, e0, w0⟩ := open_str Try.underlying9 f0
  injection e0 with e0 _; subst e0
  have f1 : DataW.trod enc Try.prog W base spare held n' 41 [c1] = some y1 := by
    have := hf 1 _ rfl
    simpa [show Try.prog.cellsOf 41 = 1 by kernel_rfl] using this
  obtain ⟨A1, n1, p1, l1, e1, r1⟩ := open_strs f1
  injection e1 with e1 _; subst e1
  have f2 : DataW.trod enc Try.prog W base spare held n' 3 [c2] = some y2 := by
    have := hf 2 _ rfl
    simpa [show Try.prog.cellsOf 3 = 1 by kernel_rfl] using this
  obtain ⟨i2, e2, w2⟩ := open_intK Try.underlying3 f2
  injection e2 with e2 _; subst e2
  exact ⟨⟨s0, l1, i2⟩, _, rfl, w0, r1, w2⟩

theorem open_root {fuel : Nat} {cs : List Value} {x : DataW H × List MemPlace} (h : DataW.trod enc Try.prog W base spare held fuel 75 cs = some x) : ∃ x, rootK.is W cs x := by
  obtain ⟨xs, n', _, _, hl, hlen, hf⟩ := DataW.trod_struct Try.underlying75 h
  rw [show Try.prog.cellsOf 75 = 4 by kernel_rfl] at hl
  have hlen' : xs.length = 2 := hlen.trans (by rfl)
  clear hlen
  obtain ⟨y0, y1, rfl⟩ := len2 hlen'
  obtain ⟨c0, c1, c2, c3, rfl⟩ := len4 hl
  have f0 : DataW.trod enc Try.prog W base spare held n' 73 [c0, c1, c2] = some y0 := by
    have := hf 0 _ rfl
    simpa [show Try.prog.cellsOf 73 = 3 by kernel_rfl] using this
  obtain ⟨x0, u0, t0, e0, r0⟩ := open_spec f0
  injection e0 with e0 e01; injection e01 with e01 e02; injection e02 with e02 _; subst e0; subst e01; subst e02
  have f1 : DataW.trod enc Try.prog W base spare held n' 3 [c3] = some y1 := by
    have := hf 1 _ rfl
    simpa [show Try.prog.cellsOf 3 = 1 by kernel_rfl] using this
  obtain ⟨i1, e1, w1⟩ := open_intK Try.underlying3 f1
  injection e1 with e1 _; subst e1
  exact ⟨⟨x0, i1⟩, _, _, rfl, r0, w1⟩

theorem open_pkgs {fuel : Nat} {cs : List Value} {x : DataW H × List MemPlace} (h : DataW.trod enc Try.prog W base spare held fuel 22 cs = some x) : ∃ A len cap l, cs = [.slice A len cap] ∧ RowD pkgK W (.slice A len cap) l :=
  open_row Try.underlying22 (by kernel_rfl) (by decide) (fun h => open_pkg h) h
theorem open_prefs {fuel : Nat} {cs : List Value} {x : DataW H × List MemPlace} (h : DataW.trod enc Try.prog W base spare held fuel 23 cs = some x) : ∃ A len cap l, cs = [.slice A len cap] ∧ RowD prefK W (.slice A len cap) l :=
  open_row Try.underlying23 (by kernel_rfl) (by decide) (fun h => open_pref h) h
theorem open_roots {fuel : Nat} {cs : List Value} {x : DataW H × List MemPlace} (h : DataW.trod enc Try.prog W base spare held fuel 35 cs = some x) : ∃ A len cap l, cs = [.slice A len cap] ∧ RowD rootK W (.slice A len cap) l :=
  open_row Try.underlying35 (by kernel_rfl) (by decide) (fun h => open_root h) h
theorem open_rec {fuel : Nat} {cs : List Value} {x : DataW H × List MemPlace} (h : DataW.trod enc Try.prog W base spare held fuel 25 cs = some x) : ∃ x, recK.is W cs x := by
  obtain ⟨xs, n', _, _, hl, hlen, hf⟩ := DataW.trod_struct Try.underlying25 h
  rw [show Try.prog.cellsOf 25 = 2 by kernel_rfl] at hl
  have hlen' : xs.length = 2 := hlen.trans (by rfl)
  clear hlen
  obtain ⟨y0, y1, rfl⟩ := len2 hlen'
  obtain ⟨c0, c1, rfl⟩ := len2 hl
  have f0 : DataW.trod enc Try.prog W base spare held n' 22 [c0] = some y0 := by
    have := hf 0 _ rfl
    simpa [show Try.prog.cellsOf 22 = 1 by kernel_rfl] using this
  obtain ⟨A0, n0, p0, l0, e0, r0⟩ := open_pkgs f0
  injection e0 with e0 _; subst e0
  have f1 : DataW.trod enc Try.prog W base spare held n' 23 [c1] = some y1 := by
    have := hf 1 _ rfl
    simpa [show Try.prog.cellsOf 23 = 1 by kernel_rfl] using this
  obtain ⟨A1, n1, p1, l1, e1, r1⟩ := open_prefs f1
  injection e1 with e1 _; subst e1
  exact ⟨⟨l0, l1⟩, _, _, rfl, ⟨r0, r1⟩⟩

/-- A request, where the program has one. -/
theorem open_req {fuel : Nat} {cs : List Value} {x : DataW H × List MemPlace} (h : DataW.trod enc Try.prog W base spare held fuel 37 cs = some x) : ∃ x, reqK.is W cs x := by
  obtain ⟨xs, n', _, _, hl, hlen, hf⟩ := DataW.trod_struct Try.underlying37 h
  rw [show Try.prog.cellsOf 37 = 1 by kernel_rfl] at hl
  have hlen' : xs.length = 1 := hlen.trans (by rfl)
  clear hlen
  obtain ⟨y0, rfl⟩ := len1 hlen'
  obtain ⟨c0, rfl⟩ := len1 hl
  have f0 : DataW.trod enc Try.prog W base spare held n' 35 [c0] = some y0 := by
    have := hf 0 _ rfl
    simpa [show Try.prog.cellsOf 35 = 1 by kernel_rfl] using this
  obtain ⟨A0, n0, p0, l0, e0, r0⟩ := open_roots f0
  injection e0 with e0 _; subst e0
  exact ⟨l0, _, rfl, r0⟩
set_option maxRecDepth 100000 in
/-- A value of many cells, by value. -/
theorem open_val {α : Type} {K : Kd α} {t : TypeId} {fs : Array Field} {r : Reach} {b0 : Nat} {v : Value} {d : DataW H} {q : List MemPlace} (hs : Try.prog.underlying t = some (.struct fs))
    (hopen : ∀ {n : Nat} {cs : List Value} {y : DataW H × List MemPlace}, DataW.trod enc Try.prog W base spare held n t cs = some y → ∃ x, K.is W cs x)
    (hv : Value.okWide Try.prog W r b0 t v) (h : DataW.Trod enc Try.prog W base spare held t v d q) : ∃ cs x, v = .agg cs.toArray ∧ K.is W cs x := by
  obtain ⟨cs, rfl, _⟩ := okWide_struct hs hv
  obtain ⟨fuel, hf⟩ := h
  obtain ⟨x, hx⟩ := hopen hf
  exact ⟨cs.toList, x, by rw [Array.toArray_toList], hx⟩
end
end Go.Proofs.Ytggejmojbebhfaa.Rc
