/- NeedsRow's package: its block, and its row of releases. -/
import Derived.Test.YtggejmojbebhfaaNdRowMath
import Derived.Test.YtggejmojbebhfaaNdHas
namespace Go.Proofs.Ytggejmojbebhfaa.Rc
open Go.RowKit

theorem elemRel : Elem relK 39 58 :=
  ⟨Try.underlying39, ⟨.agg #[.string ⟨#[]⟩, .bool false], 24, by kernel_rfl, by rfl, by decide, by decide⟩, by decide, by
    rintro w cs x ⟨rfl, _⟩ u hu
    simp at hu
    rcases hu with rfl | rfl <;> rfl⟩
def box0 (v : Value) : Obj := .cells #[.string ⟨#[]⟩, .int .i64 0, v, .slice none 0 0, .slice none 0 0, .slice none 0 0, .slice none 0 0, .slice none 0 0] 45 (0, 0)
structure RowSt (w0 w : World) (v : Value) (l : List Rel) : Prop where
  bel : Below w0.heap.size w0 w
  box : w.heap[w0.heap.size]? = some (.cells #[.string ⟨#[]⟩, .int .i64 0, v, .slice none 0 0, .slice none 0 0, .slice none 0 0, .slice none 0 0, .slice none 0 0] 45 (0, 0))
  own : OwnK relK 58 w0 w w0.heap.size v l
section
variable {w0 w : World} {v : Value} {l : List Rel}
theorem RowSt.step {w' : World} (h : RowSt w0 w v l) (hb : Below w.heap.size w w') : RowSt w0 w' v l := ⟨h.bel.trans (hb.mono h.bel.size), heap_below h.box hb, h.own.below hb⟩
theorem RowSt.alloc (h : RowSt w0 w v l) (o : Obj) : RowSt w0 (w.alloc o) v l := h.step (below_alloc' w o)
theorem RowSt.touch {w' : World} {S : Nat → Prop} (h : RowSt w0 w v l) (ht : Touch w w' S) (hS : ∀ i, S i → w0.heap.size < i ∧ v.ownBlock ≠ some i) : RowSt w0 w' v l :=
  ⟨Touch.belows h.bel ht (Nat.le_refl _) (fun i hi => by have := (hS i hi).1; omega), heap_touch h.box ht (fun hs => by have := (hS _ hs).1; omega), h.own.touch ht (fun g e hs => (hS g hs).2 e)⟩
theorem RowSt.apart (h : RowSt w0 w v l) {g : Nat} {cs : Array Value} {t : TypeId} {f : Nat × Nat} (hg : w.heap[g]? = some (.cells cs t f)) (hne : 58 ≠ t) : v.ownBlock ≠ some g := by
  obtain ⟨css, _, h2⟩ := h.own
  exact own_apart h2 hg hne
theorem RowSt.push {w3 : World} {x : Rel} {v' : Value} (h : RowSt w0 w v l) (X : Obj) (hown : OwnK relK 58 w0 w3 w0.heap.size v' (l ++ [x])) (hg : (w.alloc X).grownBy w3 v.ownBlock) :
    RowSt w0 (w3.setCell ⟨w0.heap.size, 2, none⟩ v') v' (l ++ [x]) ∧ w3.heap[w0.heap.size]? = some (.cells #[.string ⟨#[]⟩, .int .i64 0, v, .slice none 0 0, .slice none 0 0, .slice none 0 0, .slice none 0 0, .slice none 0 0] 45 (0, 0)) := by
  have ha := h.alloc X
  have a0 := ha.apart ha.box (by decide)
  have e0 := heap_grown ha.box hg (Ne.symm a0)
  have hs := cells_set e0 2 v'
  have tt : Touch w3 (w3.setCell ⟨w0.heap.size, 2, none⟩ v') (fun i => i = w0.heap.size) := (Touch.refl w3 _).set _ 2 v' rfl
  refine ⟨⟨?_, by simpa using hs, hown.touch tt (fun g e e2 => ?_)⟩, e0⟩
  · refine ((ha.bel.grown hg ha.bel.size (fun k e => (ha.own.lt k e).1))).grown (grown_set w3 _ 2 v') ?_ (fun k e => by cases e; omega)
    have := hg.size
    have := ha.bel.size
    omega
  · subst e2
    obtain ⟨css, _, h2⟩ := hown
    exact own_apart h2 e0 (by decide) e
theorem RowSt.sl (h : RowSt w0 w v l) : ∃ A L c, v = .slice A L c := h.own.sl
theorem RowSt.pkg {ls : List ByteArray} (h : RowSt w0 w v (rels0 ls)) : IsPkg w v (.slice none 0 0) (.slice none 0 0) (.slice none 0 0) (.slice none 0 0) (.slice none 0 0) (rowPkg ls) :=
  ⟨show (0 : Nat) ≤ maxLen by decide, show (Lit.int .i64 0).wf = true by decide, h.own.row h.bel, RowD.nil w, RowD.nil w, RowD.nil w, RowD.nil w, RowD.nil w⟩
end
def falses (n : Nat) : Array Value := (List.replicate n (Value.bool false)).toArray
theorem bool_info : (Try.prog.info? 4).map (fun i => (i.zero, i.size, i.bytes)) = some (some (.bool false), 1, 1) := by kernel_rfl
theorem info_parts' {P : Program} {t : TypeId} {z : Value} {s b : Nat} (h : (P.info? t).map (fun i => (i.zero, i.size, i.bytes)) = some (some z, s, b)) : ∃ i, P.info? t = some i ∧ i.zero = some z ∧ i.size = s ∧ i.bytes = b := by
  cases e : P.info? t with
  | none => rw [e] at h; cases h
  | some i => rw [e] at h; simp at h; exact ⟨i, rfl, h.1, h.2.1, h.2.2⟩
theorem make_bools (n : Nat) (hn : n ≤ 65537) (x : Int) (hx : x = n) (W : World) : (Instr.makeSlice 59 (.int .i64 x) (.int .i64 x)).run Try.prog W = .ok (.slice (some ⟨W.heap.size, 0, none⟩) n n) (W.alloc (.cells (falses n) 4)) := by
  subst hx
  obtain ⟨i0, hi0, hz0, hz1, hz2⟩ := info_parts' bool_info
  rw [run_make (P := Try.prog) W 59 4 i0 _ Try.underlying59 hi0 hz0 .i64 .i64 n n (by omega) (by omega) (by rw [hz2]; omega) (by omega), hz1]
  have e : madeCells (Value.bool false).cells n = falses n := by
    apply Array.ext'
    have := toList_madeCells_one (.bool false) n
    rw [show (Value.bool false).cells = #[.bool false] from rfl, this]
    simp [falses]
  simp [e]
theorem falses_seen (l : List ByteArray) : Seen l 0 (falses l.length) := ⟨by simp [falses], fun j hj => by rw [seenB_zero]; simp [falses, hj]⟩

def AnyB (w : World) (e : Ending) (w' : World) : Prop := ∃ b, e = .returned (.bool b) ∧ w = w'
set_option maxRecDepth 100000 in
theorem great01_any (w : World) (A : Option Addr) (L c : Nat) (l : List ByteArray) (h : RowD strK w (.slice A L c) l) :
    Calls Try.prog 21 #[.slice A L c] w (AnyB w) := by
  have H := Lib.hid h
  have hc := h.cap
  clear h
  go_enter Try.func21, Try.ntmps21
  go_wp2
  go_loop [3, 7] (fun t i => ∃ k s : Nat, k ≤ L ∧ i = .int .i64 k ∧ t = .int .i64 s ∧ s ≤ 9000) (fun _ i => L - (intOf i).toNat)
  case atStart => exact ⟨0, 0, Nat.zero_le _, rfl, rfl, by omega⟩
  case round =>
    obtain ⟨k, s, hk, rfl, rfl, hs⟩ := hrel
    by_cases hlt : k < L
    · obtain ⟨b, off, rfl, hb, hz, c0⟩ := str_at H.out hlt
      obtain ⟨z, hz'⟩ : ∃ z, nth l k = z := ⟨_, rfl⟩
      rw [hz'] at c0 hz
      unfold maxLen at hz
      clear hb hz'
      go_wp2
      all_goals first
        | (go_ret; exact ⟨true, rfl, rfl⟩)
        | (go_round
           case rel => exact ⟨k + 1, s + (1 + min z.size 9000), by omega, by go_num, by rw [show ((s : Int) + (1 + min (z.size : Int) 9000)) = ((s + (1 + min z.size 9000) : Nat) : Int) by omega], by omega⟩
           case measure => simp [intOf]; omega)
    · obtain rfl : k = L := by omega
      go_wp2
      go_ret
      exact ⟨false, rfl, rfl⟩
end Go.Proofs.Ytggejmojbebhfaa.Rc
