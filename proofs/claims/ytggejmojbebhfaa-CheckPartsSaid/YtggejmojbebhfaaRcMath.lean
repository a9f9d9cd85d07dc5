/- Plain mathematics: the first place, what is had. -/
import Derived.Test.YtggejmojbebhfaaRcMem
import Derived.Test.YtggejmojbebhfaaVaMayMath
namespace Go.Proofs.Ytggejmojbebhfaa.Rc
open Go.RowKit

theorem ret_int {k : IntKind} {a b : Int} (h : a = b) : Ending.returned (.int k a) = .returned (.int k b) := by rw [h]
theorem ret_bool {a b : Bool} (h : a = b) : Ending.returned (.bool a) = .returned (.bool b) := by rw [h]
/-- The first place at which p; -1. -/
def idx {α : Type} (p : α → Bool) (l : List α) : Int := if l.findIdx p < l.length then (l.findIdx p : Int) else -1
theorem idx_hit {α : Type} [Inhabited α] {p : α → Bool} {l : List α} {k : Nat} (hk : k < l.length) (h : (l.take k).any p = false) (hp : p (nth l k) = true) : idx p l = k := by
  have e : l.findIdx p = k := by
    rw [List.findIdx_eq hk]
    refine ⟨by rw [← nth_lt hk]; exact hp, fun j hj => ?_⟩
    have := List.any_eq_false.1 h l[j] (by
      rw [List.mem_iff_getElem]
      exact ⟨j, by simp; omega, by simp⟩)
    simpa using this
  unfold idx
  rw [e, if_pos hk]
theorem idx_miss {α : Type} {p : α → Bool} {l : List α} (h : l.any p = false) : idx p l = -1 := by
  have e : ¬ l.findIdx p < l.length := by
    rw [List.findIdx_lt_length]
    rintro ⟨x, hx, hp⟩
    have := List.any_eq_false.1 h x hx
    exact this hp
  unfold idx
  rw [if_neg e]
theorem idx_any {α : Type} (p : α → Bool) (l : List α) : decide (0 ≤ idx p l) = l.any p := by
  unfold idx
  split
  · next h =>
    rw [List.findIdx_lt_length] at h
    obtain ⟨x, hx, hp⟩ := h
    rw [List.any_eq_true.2 ⟨x, hx, hp⟩]
    simp
  · next h =>
    rw [List.findIdx_lt_length] at h
    have : l.any p = false := List.any_eq_false.2 fun x hx hp => h ⟨x, hx, hp⟩
    rw [this]; rfl
theorem idx_lt {α : Type} (p : α → Bool) (l : List α) : decide (idx p l < 0) = !l.any p := by
  rw [← idx_any]
  by_cases h : 0 ≤ idx p l
  · simp [h]
  · simp [h]; omega
theorem idx_at {α : Type} [Inhabited α] {p : α → Bool} {l : List α} (h : 0 ≤ idx p l) : ∃ k : Nat, idx p l = k ∧ k < l.length ∧ p (nth l k) = true := by
  unfold idx at h ⊢
  split at h
  · next hlt =>
    rw [if_pos hlt]
    exact ⟨_, rfl, hlt, by rw [nth_lt hlt]; exact List.findIdx_getElem⟩
  · omega
theorem idx_bound {α : Type} (p : α → Bool) (l : List α) : -1 ≤ idx p l ∧ idx p l < l.length ∨ idx p l = -1 := by
  unfold idx
  split
  · next h => exact .inl ⟨by omega, by omega⟩
  · exact .inr rfl

abbrev eqS := Va.eqS
abbrev hasS := Va.hasS
def nameIs (x : Pkg) (s : ByteArray) : Bool := eqS x.name s
def provIs (x : Pkg) (s : ByteArray) : Bool := hasS x.prov s
def findR (x : Rec) (s : ByteArray) : Int := idx (fun p => nameIs p s) x.pkgs
def knownB (x : Rec) (s : ByteArray) : Bool := x.pkgs.any fun p => nameIs p s
def provB (x : Rec) (s : ByteArray) : Bool := x.pkgs.any fun p => provIs p s
def virtB (x : Rec) (s : ByteArray) : Bool := !knownB x s && provB x s
/-- Who provides: places. -/
def provs (x : Rec) (s : ByteArray) : List Int := ((List.range x.pkgs.length).filter fun i => provIs (nth x.pkgs i) s).map fun (i : Nat) => (i : Int)
def provsK (x : Rec) (s : ByteArray) (k : Nat) : List Int := ((List.range k).filter fun i => provIs (nth x.pkgs i) s).map fun (i : Nat) => (i : Int)
theorem provs_eq (x : Rec) (s : ByteArray) : provs x s = provsK x s x.pkgs.length := rfl
theorem provsK_yes {x : Rec} {s : ByteArray} {k : Nat} (h : provIs (nth x.pkgs k) s = true) : provsK x s (k + 1) = provsK x s k ++ [(k : Int)] := by
  unfold provsK; rw [List.range_succ, List.filter_append]; simp [h]
theorem provsK_no {x : Rec} {s : ByteArray} {k : Nat} (h : provIs (nth x.pkgs k) s = false) : provsK x s (k + 1) = provsK x s k := by
  unfold provsK; rw [List.range_succ, List.filter_append]; simp [h]
theorem provsK_le (x : Rec) (s : ByteArray) (k : Nat) : (provsK x s k).length ≤ k := by
  unfold provsK; rw [List.length_map]; exact Nat.le_trans (List.length_filter_le _ _) (by simp)
theorem provs_any (x : Rec) (s : ByteArray) : decide (0 < (provs x s).length) = provB x s := by
  unfold provs provB
  rw [List.length_map, Bool.eq_iff_iff, decide_eq_true_iff, List.length_pos_iff_exists_mem, List.any_eq_true]
  constructor
  · rintro ⟨i, hi⟩
    rw [List.mem_filter, List.mem_range] at hi
    exact ⟨_, nth_mem hi.1, hi.2⟩
  · rintro ⟨p, hp, h⟩
    obtain ⟨i, hi, rfl⟩ := List.mem_iff_getElem.1 hp
    exact ⟨i, by rw [List.mem_filter, List.mem_range, nth_lt hi]; exact ⟨hi, h⟩⟩
end Go.Proofs.Ytggejmojbebhfaa.Rc
