/- Plain mathematics: what is wrong with a recipe. -/
import Derived.Test.YtggejmojbebhfaaRcMath
namespace Go.Proofs.Ytggejmojbebhfaa.Rc
open Go.RowKit

def noneS : ByteArray := ⟨#[]⟩
def settP (v : Var) (s t : ByteArray) : Bool := eqS v.1 s && hasS v.2 t
def settB (vars : List Var) (x : Set1) : Bool := vars.any fun v => settP v x.1 x.2
def settsB (p : Pkg) (l : List Set1) : Bool := l.all (settB p.vars)
def settCode (p : Pkg) (l : List Set1) : Int := if settsB p l then 0 else 8
def pkgOf (x : Rec) (s : ByteArray) : Pkg := nth x.pkgs (findR x s).toNat
def withCode (x : Rec) (s : Spec) : Int := if knownB x s.name then settCode (pkgOf x s.name) s.sets else 7
def badVirt (s : Spec) : Bool := decide (s.spans.length ≠ 1) || !(eqS (nth s.spans 0).1 noneS && eqS (nth s.spans 0).2 noneS) || decide (0 < s.sets.length)
def wishCode (x : Rec) (s : Spec) : Int := if virtB x s.name then (if badVirt s then 9 else 0) else withCode x s

/-- The first one whose code isn't 0; (0, 0). -/
def firstP {α : Type} (f : α → Int × Int) : List α → Int × Int
  | [] => (0, 0)
  | a :: r => if (f a).1 ≠ 0 then f a else firstP f r
theorem firstP_hit {α : Type} [Inhabited α] {f : α → Int × Int} : ∀ {l : List α} {k : Nat}, k < l.length → (∀ j, j < k → (f (nth l j)).1 = 0) → (f (nth l k)).1 ≠ 0 → firstP f l = f (nth l k)
  | [], k, h, _, _ => by simp at h
  | a :: r, 0, _, _, hk => by
    have e : nth (a :: r) 0 = a := rfl
    rw [e] at hk ⊢
    rw [firstP, if_pos hk]
  | a :: r, k + 1, h, h0, hk => by
    have e : nth (a :: r) 0 = a := rfl
    have e2 : ∀ j, nth (a :: r) (j + 1) = nth r j := fun j => by simp [nth]
    have := h0 0 (by omega)
    rw [e] at this
    rw [firstP, if_neg (by simpa using this), firstP_hit (l := r) (k := k) (by simpa using h) (fun j hj => by rw [← e2]; exact h0 (j + 1) (by omega)) (by rw [← e2]; exact hk), e2]
theorem firstP_miss {α : Type} [Inhabited α] {f : α → Int × Int} {l : List α} (h : ∀ j, j < l.length → (f (nth l j)).1 = 0) : firstP f l = (0, 0) := by
  induction l with
  | nil => rfl
  | cons a r ih =>
    have e : nth (a :: r) 0 = a := rfl
    have e2 : ∀ j, nth (a :: r) (j + 1) = nth r j := fun j => by simp [nth]
    have h0 := h 0 (by simp)
    rw [e] at h0
    rw [firstP, if_neg (by simpa using h0)]
    exact ih fun j hj => by rw [← e2]; exact h (j + 1) (by simpa using hj)

def depProb (x : Rec) (p : Pkg) (d : Two) : Int × Int := (if wishCode x d.a = 0 then settCode p d.b.sets else wishCode x d.a, d.line)
def conProb (x : Rec) (p : Pkg) (c : Two) : Int × Int := (if settCode p c.a.sets = 0 then (if eqS c.b.name noneS then 0 else withCode x c.b) else settCode p c.a.sets, c.line)
def ruleProb (x : Rec) (p : Pkg) : Int × Int := if (firstP (depProb x p) p.deps).1 ≠ 0 then firstP (depProb x p) p.deps else firstP (conProb x p) p.cons

def twiceB (l : List ByteArray) : Bool := (List.range l.length).any fun i => hasS (l.take i) (nth l i)
def tooManyB (p : Pkg) : Bool := decide (10 < p.rels.length ∨ 16 < p.deps.length ∨ 8 < p.cons.length ∨ 4 < p.prov.length ∨ 8 < p.files.length)
def codeOf (a b c d e f g h : Bool) : Int := if a then 2 else if b then 3 else if c then 4 else if d then 1 else if e then 5 else if f then (if g || h then 5 else 0) else 6
def pkgCode (x : Rec) (i : Nat) : Int :=
  codeOf (decide (findR x (nth x.pkgs i).name < (i : Int))) (provB x (nth x.pkgs i).name) (decide ((nth x.pkgs i).rels.length = 0)) (tooManyB (nth x.pkgs i)) (twiceB ((nth x.pkgs i).rels.map (·.1)))
    (Va.mayB (nth x.pkgs i).vars) (twiceB (nth x.pkgs i).prov) (twiceB (nth x.pkgs i).files)
def aheadB (x : Rec) (i : Nat) : Bool := (x.prefs.take i).any fun o => eqS o.virt (nth x.prefs i).virt
def preferN (x : Rec) (v : ByteArray) (n : ByteArray) : Bool := knownB x n && hasS (pkgOf x n).prov v
def preferB (x : Rec) (i : Nat) : Bool := !aheadB x i && virtB x (nth x.prefs i).virt && !twiceB (nth x.prefs i).names && (nth x.prefs i).names.all (preferN x (nth x.prefs i).virt)
def pkgProb (x : Rec) (i : Nat) : Int × Int := (pkgCode x i, (nth x.pkgs i).line)
def prefProb (x : Rec) (i : Nat) : Int × Int := (if preferB x i then 0 else 10, (nth x.prefs i).line)
def recProb3 (x : Rec) : Int × Int := firstP (prefProb x) (List.range x.prefs.length)
def recProb2 (x : Rec) : Int × Int := if (firstP (ruleProb x) x.pkgs).1 ≠ 0 then firstP (ruleProb x) x.pkgs else recProb3 x
def recProb1 (x : Rec) : Int × Int := if (firstP (pkgProb x) (List.range x.pkgs.length)).1 ≠ 0 then firstP (pkgProb x) (List.range x.pkgs.length) else recProb2 x
def recProb (x : Rec) : Int × Int :=
  if 24 < x.pkgs.length then (1, (nth x.pkgs 24).line)
  else if 8 < x.prefs.length then (1, (nth x.prefs 8).line)
  else recProb1 x
theorem nth_range {n i : Nat} (h : i < n) : nth (List.range n) i = i := by unfold nth; simp [h]
theorem known_find {x : Rec} {s : ByteArray} : decide (0 ≤ findR x s) = knownB x s := idx_any _ _
theorem find_pkg {x : Rec} {s : ByteArray} (h : knownB x s = true) : ∃ k : Nat, findR x s = k ∧ k < x.pkgs.length ∧ pkgOf x s = nth x.pkgs k := by
  have h0 : 0 ≤ findR x s := by have := known_find (x := x) (s := s); rw [h] at this; simpa using this
  obtain ⟨k, hk, hlt, _⟩ := idx_at h0
  refine ⟨k, hk, hlt, ?_⟩
  unfold pkgOf
  rw [show findR x s = k from hk]; rfl
theorem find_none {x : Rec} {s : ByteArray} (h : knownB x s = false) : findR x s = -1 := idx_miss h
end Go.Proofs.Ytggejmojbebhfaa.Rc
