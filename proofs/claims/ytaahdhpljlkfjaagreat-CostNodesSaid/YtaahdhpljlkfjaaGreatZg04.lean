/- Plain mathematics: what variants may be. -/
import Derived.Test.YtaahdhpljlkfjaaGreatZg02
namespace Go.Proofs.YtaahdhpljlkfjaaGreat.Va

def eqS (a b : ByteArray) : Bool := a.toList == b.toList
theorem eqS_iff {a b : ByteArray} : eqS a b = true ↔ a = b := by
  unfold eqS
  simp only [beq_iff_eq, Lib.toList_data]
  refine ⟨fun h => ?_, fun h => by rw [h]⟩
  cases a; cases b
  simp at h ⊢
  exact Array.ext' (by simpa using h)
theorem eqS_comm (a b : ByteArray) : eqS a b = eqS b a := by
  unfold eqS
  rw [Bool.eq_iff_iff]; simp; exact eq_comm

def hasS (l : List ByteArray) (x : ByteArray) : Bool := l.any (eqS x)
def hasN (l : List Var) (x : ByteArray) : Bool := l.any fun v => eqS v.1 x
def okVals (l : List ByteArray) : Bool := (List.range l.length).all fun i => valB (nthS l i).data.toList && !hasS (l.take i) (nthS l i)
def mayOneB (v : Var) : Bool := nameB v.1.data.toList && !decide (v.2.length = 0) && decide (v.2.length ≤ 4) && okVals v.2
def mayB (l : List Var) : Bool := decide (l.length ≤ 4) && (List.range l.length).all fun i => mayOneB (nthV l i) && !hasN (l.take i) (nthV l i).1

theorem range_snoc (p : Nat → Bool) (k : Nat) : (List.range (k + 1)).all p = ((List.range k).all p && p k) := by
  rw [List.range_succ, List.all_append]; simp
theorem range_false {p : Nat → Bool} {n k : Nat} (hk : k < n) (h : p k = false) : (List.range n).all p = false :=
  List.all_eq_false.2 ⟨k, by simpa using hk, by simp [h]⟩

theorem any_snocS {l : List ByteArray} {k : Nat} (hk : k < l.length) (p : ByteArray → Bool) : (l.take (k + 1)).any p = ((l.take k).any p || p (nthS l k)) := by
  rw [List.take_succ_eq_append_getElem hk, List.any_append, nthS_lt hk]; simp
theorem any_snocV {l : List Var} {k : Nat} (hk : k < l.length) (p : Var → Bool) : (l.take (k + 1)).any p = ((l.take k).any p || p (nthV l k)) := by
  rw [List.take_succ_eq_append_getElem hk, List.any_append, nthV_lt hk]; simp
theorem any_atS {l : List ByteArray} {k : Nat} (hk : k < l.length) {p : ByteArray → Bool} (h : p (nthS l k) = true) : l.any p = true :=
  List.any_eq_true.2 ⟨_, nthS_mem hk, h⟩
theorem any_atV {l : List Var} {k : Nat} (hk : k < l.length) {p : Var → Bool} (h : p (nthV l k) = true) : l.any p = true :=
  List.any_eq_true.2 ⟨_, nthV_mem hk, h⟩

end Go.Proofs.YtaahdhpljlkfjaaGreat.Va

/- Plain mathematics: the first place, what is had. -/
namespace Go.Proofs.YtaahdhpljlkfjaaGreat.Rc
open Go.RowKit

theorem ret_int {k : IntKind} {a b : Int} (h : a = b) : Ending.returned (.int k a) = .returned (.int k b) := by rw [h]
theorem ret_bool {a b : Bool} (h : a = b) : Ending.returned (.bool a) = .returned (.bool b) := by rw [h]
/-- The first place at which p; -1. -/
def idx {α : Type} (p : α → Bool) (l : List α) : Int := if l.findIdx p < l.length then (l.findIdx p : Int) else -1
theorem idx_hit {α : Type} [Inhabited α] {p : α → Bool} {l : List α} {k : Nat} (hk : k < l.length) (h : (l.take k).any p = false) (hp : p (nth l k) = true) : idx p l = k := by
  have e : l.findIdx p = k := by
    rw [List.findIdx_eq hk]
    refine ⟨by rw [← nth_lt hk]; exact hp, fun j hj => ?_⟩
    have := List.any_eq_false.1 h l[j] (by
      rw [List.mem_iff_getElem]
      exact ⟨j, by simp; omega, by simp⟩)
    simpa using this
  unfold idx
  rw [e, if_pos hk]
theorem idx_miss {α : Type} {p : α → Bool} {l : List α} (h : l.any p = false) : idx p l = -1 := by
  have e : ¬ l.findIdx p < l.length := by
    rw [List.findIdx_lt_length]
    rintro ⟨x, hx, hp⟩
    have := List.any_eq_false.1 h x hx
    exact this hp
  unfold idx
  rw [if_neg e]
theorem idx_any {α : Type} (p : α → Bool) (l : List α) : decide (0 ≤ idx p l) = l.any p := by
  unfold idx
  split
  · next h =>
    rw [List.findIdx_lt_length] at h
    obtain ⟨x, hx, hp⟩ := h
    rw [List.any_eq_true.2 ⟨x, hx, hp⟩]
    simp
  · next h =>
    rw [List.findIdx_lt_length] at h
    have : l.any p = false := List.any_eq_false.2 fun x hx hp => h ⟨x, hx, hp⟩
    rw [this]; rfl
theorem idx_lt {α : Type} (p : α → Bool) (l : List α) : decide (idx p l < 0) = !l.any p := by
  rw [← idx_any]
  by_cases h : 0 ≤ idx p l
  · simp [h]
  · simp [h]; omega
theorem idx_at {α : Type} [Inhabited α] {p : α → Bool} {l : List α} (h : 0 ≤ idx p l) : ∃ k : Nat, idx p l = k ∧ k < l.length ∧ p (nth l k) = true := by
  unfold idx at h ⊢
  split at h
  · next hlt =>
    rw [if_pos hlt]
    exact ⟨_, rfl, hlt, by rw [nth_lt hlt]; exact List.findIdx_getElem⟩
  · omega
theorem idx_bound {α : Type} (p : α → Bool) (l : List α) : -1 ≤ idx p l ∧ idx p l < l.length ∨ idx p l = -1 := by
  unfold idx
  split
  · next h => exact .inl ⟨by omega, by omega⟩
  · exact .inr rfl

abbrev eqS := Va.eqS
abbrev hasS := Va.hasS
def nameIs (x : Pkg) (s : ByteArray) : Bool := eqS x.name s
def provIs (x : Pkg) (s : ByteArray) : Bool := hasS x.prov s
def findR (x : Rec) (s : ByteArray) : Int := idx (fun p => nameIs p s) x.pkgs
def knownB (x : Rec) (s : ByteArray) : Bool := x.pkgs.any fun p => nameIs p s
def provB (x : Rec) (s : ByteArray) : Bool := x.pkgs.any fun p => provIs p s
def virtB (x : Rec) (s : ByteArray) : Bool := !knownB x s && provB x s
/-- Who provides: places. -/
def provs (x : Rec) (s : ByteArray) : List Int := ((List.range x.pkgs.length).filter fun i => provIs (nth x.pkgs i) s).map fun (i : Nat) => (i : Int)
def provsK (x : Rec) (s : ByteArray) (k : Nat) : List Int := ((List.range k).filter fun i => provIs (nth x.pkgs i) s).map fun (i : Nat) => (i : Int)
theorem provs_eq (x : Rec) (s : ByteArray) : provs x s = provsK x s x.pkgs.length := rfl
theorem provsK_yes {x : Rec} {s : ByteArray} {k : Nat} (h : provIs (nth x.pkgs k) s = true) : provsK x s (k + 1) = provsK x s k ++ [(k : Int)] := by
  unfold provsK; rw [List.range_succ, List.filter_append]; simp [h]
theorem provsK_no {x : Rec} {s : ByteArray} {k : Nat} (h : provIs (nth x.pkgs k) s = false) : provsK x s (k + 1) = provsK x s k := by
  unfold provsK; rw [List.range_succ, List.filter_append]; simp [h]
theorem provsK_le (x : Rec) (s : ByteArray) (k : Nat) : (provsK x s k).length ≤ k := by
  unfold provsK; rw [List.length_map]; exact Nat.le_trans (List.length_filter_le _ _) (by simp)
theorem provs_any (x : Rec) (s : ByteArray) : decide (0 < (provs x s).length) = provB x s := by
  unfold provs provB
  rw [List.length_map, Bool.eq_iff_iff, decide_eq_true_iff, List.length_pos_iff_exists_mem, List.any_eq_true]
  constructor
  · rintro ⟨i, hi⟩
    rw [List.mem_filter, List.mem_range] at hi
    exact ⟨_, nth_mem hi.1, hi.2⟩
  · rintro ⟨p, hp, h⟩
    obtain ⟨i, hi, rfl⟩ := List.mem_iff_getElem.1 hp
    exact ⟨i, by rw [List.mem_filter, List.mem_range, nth_lt hi]; exact ⟨hi, h⟩⟩
end Go.Proofs.YtaahdhpljlkfjaaGreat.Rc

/- Plain mathematics: what is wrong with a recipe. -/
namespace Go.Proofs.YtaahdhpljlkfjaaGreat.Rc
open Go.RowKit

def noneS : ByteArray := ⟨#[]⟩
def settP (v : Var) (s t : ByteArray) : Bool := eqS v.1 s && hasS v.2 t
def settB (vars : List Var) (x : Set1) : Bool := vars.any fun v => settP v x.1 x.2
def settsB (p : Pkg) (l : List Set1) : Bool := l.all (settB p.vars)
def settCode (p : Pkg) (l : List Set1) : Int := if settsB p l then 0 else 8
def pkgOf (x : Rec) (s : ByteArray) : Pkg := nth x.pkgs (findR x s).toNat
def withCode (x : Rec) (s : Spec) : Int := if knownB x s.name then settCode (pkgOf x s.name) s.sets else 7
def badVirt (s : Spec) : Bool := decide (s.spans.length ≠ 1) || !(eqS (nth s.spans 0).1 noneS && eqS (nth s.spans 0).2 noneS) || decide (0 < s.sets.length)
def wishCode (x : Rec) (s : Spec) : Int := if virtB x s.name then (if badVirt s then 9 else 0) else withCode x s

/-- The first one whose code isn't 0; (0, 0). -/
def firstP {α : Type} (f : α → Int × Int) : List α → Int × Int
  | [] => (0, 0)
  | a :: r => if (f a).1 ≠ 0 then f a else firstP f r
theorem firstP_hit {α : Type} [Inhabited α] {f : α → Int × Int} : ∀ {l : List α} {k : Nat}, k < l.length → (∀ j, j < k → (f (nth l j)).1 = 0) → (f (nth l k)).1 ≠ 0 → firstP f l = f (nth l k)
  | [], k, h, _, _ => by simp at h
  | a :: r, 0, _, _, hk => by
    have e : nth (a :: r) 0 = a := rfl
    rw [e] at hk ⊢
    rw [firstP, if_pos hk]
  | a :: r, k + 1, h, h0, hk => by
    have e : nth (a :: r) 0 = a := rfl
    have e2 : ∀ j, nth (a :: r) (j + 1) = nth r j := fun j => by simp [nth]
    have := h0 0 (by omega)
    rw [e] at this
    rw [firstP, if_neg (by simpa using this), firstP_hit (l := r) (k := k) (by simpa using h) (fun j hj => by rw [← e2]; exact h0 (j + 1) (by omega)) (by rw [← e2]; exact hk), e2]
theorem firstP_miss {α : Type} [Inhabited α] {f : α → Int × Int} {l : List α} (h : ∀ j, j < l.length → (f (nth l j)).1 = 0) : firstP f l = (0, 0) := by
  induction l with
  | nil => rfl
  | cons a r ih =>
    have e : nth (a :: r) 0 = a := rfl
    have e2 : ∀ j, nth (a :: r) (j + 1) = nth r j := fun j => by simp [nth]
    have h0 := h 0 (by simp)
    rw [e] at h0
    rw [firstP, if_neg (by simpa using h0)]
    exact ih fun j hj => by rw [← e2]; exact h (j + 1) (by simpa using hj)

def depProb (x : Rec) (p : Pkg) (d : Two) : Int × Int := (if wishCode x d.a = 0 then settCode p d.b.sets else wishCode x d.a, d.line)
def conProb (x : Rec) (p : Pkg) (c : Two) : Int × Int := (if settCode p c.a.sets = 0 then (if eqS c.b.name noneS then 0 else withCode x c.b) else settCode p c.a.sets, c.line)
def ruleProb (x : Rec) (p : Pkg) : Int × Int := if (firstP (depProb x p) p.deps).1 ≠ 0 then firstP (depProb x p) p.deps else firstP (conProb x p) p.cons

def twiceB (l : List ByteArray) : Bool := (List.range l.length).any fun i => hasS (l.take i) (nth l i)
def tooManyB (p : Pkg) : Bool := decide (10 < p.rels.length ∨ 16 < p.deps.length ∨ 8 < p.cons.length ∨ 4 < p.prov.length ∨ 8 < p.files.length)
def codeOf (a b c d e f g h : Bool) : Int := if a then 2 else if b then 3 else if c then 4 else if d then 1 else if e then 5 else if f then (if g || h then 5 else 0) else 6
def pkgCode (x : Rec) (i : Nat) : Int :=
  codeOf (decide (findR x (nth x.pkgs i).name < (i : Int))) (provB x (nth x.pkgs i).name) (decide ((nth x.pkgs i).rels.length = 0)) (tooManyB (nth x.pkgs i)) (twiceB ((nth x.pkgs i).rels.map (·.1)))
    (Va.mayB (nth x.pkgs i).vars) (twiceB (nth x.pkgs i).prov) (twiceB (nth x.pkgs i).files)
def aheadB (x : Rec) (i : Nat) : Bool := (x.prefs.take i).any fun o => eqS o.virt (nth x.prefs i).virt
def preferN (x : Rec) (v : ByteArray) (n : ByteArray) : Bool := knownB x n && hasS (pkgOf x n).prov v
def preferB (x : Rec) (i : Nat) : Bool := !aheadB x i && virtB x (nth x.prefs i).virt && !twiceB (nth x.prefs i).names && (nth x.prefs i).names.all (preferN x (nth x.prefs i).virt)
def pkgProb (x : Rec) (i : Nat) : Int × Int := (pkgCode x i, (nth x.pkgs i).line)
def prefProb (x : Rec) (i : Nat) : Int × Int := (if preferB x i then 0 else 10, (nth x.prefs i).line)
def recProb3 (x : Rec) : Int × Int := firstP (prefProb x) (List.range x.prefs.length)
def recProb2 (x : Rec) : Int × Int := if (firstP (ruleProb x) x.pkgs).1 ≠ 0 then firstP (ruleProb x) x.pkgs else recProb3 x
def recProb1 (x : Rec) : Int × Int := if (firstP (pkgProb x) (List.range x.pkgs.length)).1 ≠ 0 then firstP (pkgProb x) (List.range x.pkgs.length) else recProb2 x
def recProb (x : Rec) : Int × Int :=
  if 24 < x.pkgs.length then (1, (nth x.pkgs 24).line)
  else if 8 < x.prefs.length then (1, (nth x.prefs 8).line)
  else recProb1 x
theorem nth_range {n i : Nat} (h : i < n) : nth (List.range n) i = i := by unfold nth; simp [h]
theorem known_find {x : Rec} {s : ByteArray} : decide (0 ≤ findR x s) = knownB x s := idx_any _ _
theorem find_pkg {x : Rec} {s : ByteArray} (h : knownB x s = true) : ∃ k : Nat, findR x s = k ∧ k < x.pkgs.length ∧ pkgOf x s = nth x.pkgs k := by
  have h0 : 0 ≤ findR x s := by have := known_find (x := x) (s := s); rw [h] at this; simpa using this
  obtain ⟨k, hk, hlt, _⟩ := idx_at h0
  refine ⟨k, hk, hlt, ?_⟩
  unfold pkgOf
  rw [show findR x s = k from hk]; rfl
theorem find_none {x : Rec} {s : ByteArray} (h : knownB x s = false) : findR x s = -1 := idx_miss h
end Go.Proofs.YtaahdhpljlkfjaaGreat.Rc
