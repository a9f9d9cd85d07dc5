/- Plain mathematics of variants: names, values, what may be. No Go in sight. -/
import Derived.Lib.Bytealg
import Derived.Lib.Small
namespace Go.Proofs.Ytggejmojbebhfaa.Va

abbrev Bs := List UInt8
def letB (c : UInt8) : Bool := decide (97 ≤ (c.toNat : Int)) && decide ((c.toNat : Int) ≤ 122)
def digB (c : UInt8) : Bool := decide (48 ≤ (c.toNat : Int)) && decide ((c.toNat : Int) ≤ 57)
def okB (c : UInt8) : Bool := letB c || digB c || decide ((c.toNat : Int) = 45)
def headB (l : Bs) : Bool := match l with | [] => false | c :: _ => letB c
def nameB (l : Bs) : Bool := !l.isEmpty && decide (l.length ≤ 24) && headB l && l.all okB
def digits (l : Bs) : Bool := l.all digB && !l.isEmpty
def numB (l : Bs) : Bool := digits l && decide (l.length ≤ 3)
def valB (l : Bs) : Bool := nameB l || numB l

theorem all_false {p : UInt8 → Bool} {s : ByteArray} {k : Nat} (hk : k < s.size) (h : p s[k] = false) : s.data.toList.all p = false := by
  refine List.all_eq_false.2 ⟨s[k], ?_, by simp [h]⟩
  have : s[k] = s.data.toList[k]'(by simpa using hk) := by simp; rfl
  rw [this]; exact List.getElem_mem _

theorem take_snoc (s : ByteArray) (k : Nat) (h : k < s.size) : s.data.toList.take (k + 1) = s.data.toList.take k ++ [s[k]] := by
  rw [List.take_succ_eq_append_getElem (by simpa using h)]; rfl

theorem head_list : ∀ (l : Bs) (h : 0 < l.length), headB l = letB l[0]
  | [], h => by simp at h
  | c :: r, _ => rfl
theorem head_get {s : ByteArray} (h : 0 < s.size) : headB s.data.toList = letB s[0] := by
  have e : s[0] = s.data.toList[0]'(by simpa using h) := by simp; rfl
  rw [e]
  exact head_list _ _
end Go.Proofs.Ytggejmojbebhfaa.Va
