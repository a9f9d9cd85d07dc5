/- Less of a recipe, or a request, has no problem more: plain mathematics. -/
import Derived.Test.YtggejmojbebhfaaRcReq
namespace Go.Proofs.Ytggejmojbebhfaa.Rc
open Go.RowKit

theorem firstP_zero {α : Type} [Inhabited α] {f : α → Int × Int} : ∀ {l : List α}, (firstP f l).1 = 0 → ∀ j, j < l.length → (f (nth l j)).1 = 0
  | [], _, j, hj => by simp at hj
  | a :: r, h, j, hj => by
    rw [firstP] at h
    have e2 : ∀ j, nth (a :: r) (j + 1) = nth r j := fun j => by simp [nth]
    by_cases hc : (f a).1 = 0
    · rw [if_neg (by simpa using hc)] at h
      cases j with
      | zero => exact hc
      | succ j => rw [e2]; exact firstP_zero h j (by simpa using hj)
    · rw [if_pos hc] at h; exact absurd h hc
theorem firstP_zero2 {α : Type} [Inhabited α] {f : α → Int × Int} {l : List α} (h : (firstP f l).1 = 0) : firstP f l = (0, 0) := firstP_miss (firstP_zero h)
/-- What of a package names and settings look at. -/
def face (p : Pkg) : ByteArray × List ByteArray × List Var := (p.name, p.prov, p.vars)
def Sim (x y : Rec) : Prop := x.pkgs.map face = y.pkgs.map face
section
variable {x y : Rec} (h : Sim x y)
include h
theorem Sim.len : x.pkgs.length = y.pkgs.length := by have := congrArg List.length h; simpa using this
theorem Sim.any (q : ByteArray × List ByteArray × List Var → Bool) : (x.pkgs.any fun p => q (face p)) = y.pkgs.any fun p => q (face p) := by
  have := congrArg (fun l => l.any q) h
  simpa [List.any_map, Function.comp_def] using this
theorem Sim.known (s : ByteArray) : knownB x s = knownB y s := h.any (fun t => eqS t.1 s)
theorem Sim.prov (s : ByteArray) : provB x s = provB y s := h.any (fun t => hasS t.2.1 s)
theorem Sim.virt (s : ByteArray) : virtB x s = virtB y s := by unfold virtB; rw [h.known, h.prov]
theorem Sim.find (s : ByteArray) : findR x s = findR y s := by
  have e : x.pkgs.findIdx (fun p => nameIs p s) = y.pkgs.findIdx (fun p => nameIs p s) := by
    have := congrArg (fun l => l.findIdx (fun t => eqS t.1 s)) h
    simpa [List.findIdx_map, Function.comp_def, nameIs, face] using this
  unfold findR idx
  rw [e, h.len]
theorem Sim.nth (i : Nat) : face (nth x.pkgs i) = face (nth y.pkgs i) := by
  have := congrArg (fun l => l[i]?) h
  simp only [List.getElem?_map] at this
  unfold Rc.nth
  cases e1 : x.pkgs[i]? <;> cases e2 : y.pkgs[i]? <;> simp [e1, e2] at this ⊢
  exact this
theorem Sim.of (s : ByteArray) : face (pkgOf x s) = face (pkgOf y s) := by unfold pkgOf; rw [h.find]; exact h.nth _
omit h in
theorem settCode_face {p q : Pkg} (hf : face p = face q) (l : List Set1) : settCode p l = settCode q l := by
  have e : p.vars = q.vars := congrArg (·.2.2) hf
  unfold settCode settsB; rw [e]
theorem Sim.withC (s : Spec) : withCode x s = withCode y s := by unfold withCode; rw [h.known, settCode_face (h.of s.name)]
theorem Sim.wish (s : Spec) : wishCode x s = wishCode y s := by unfold wishCode; rw [h.virt, h.withC]
end
/-- Without conflicts and files. -/
def bare (p : Pkg) : Pkg := { p with cons := [], files := [] }
def less1 (x : Rec) (k m : Nat) : Rec := ⟨x.pkgs.set k (bare (nth x.pkgs k)), x.prefs.take m⟩
theorem less1_sim (x : Rec) (k m : Nat) : Sim (less1 x k m) x := by
  unfold Sim less1
  by_cases hk : k < x.pkgs.length
  · rw [List.map_set]
    have e : face (bare (nth x.pkgs k)) = (x.pkgs.map face)[k]'(by simpa using hk) := by rw [List.getElem_map, nth_lt hk]; rfl
    rw [e, List.set_getElem_self]
  · rw [List.set_eq_of_length_le (by omega)]
theorem nth_set {α : Type} [Inhabited α] {l : List α} {k i : Nat} (a : α) (hi : i < l.length) : nth (l.set k a) i = if k = i then a else nth l i := by
  unfold nth
  rw [List.getElem?_set]
  by_cases e : k = i
  · subst e; simp [hi]
  · simp [e]
theorem codeOf_zero {a b c d e f g h : Bool} (hz : codeOf a b c d e f g h = 0) : a = false ∧ b = false ∧ c = false ∧ d = false ∧ e = false ∧ f = true ∧ g = false ∧ h = false := by
  unfold codeOf at hz
  cases a <;> cases b <;> cases c <;> cases d <;> cases e <;> cases f <;> cases g <;> cases h <;> simp_all
theorem codeOf_fine : codeOf false false false false false true false false = 0 := rfl
theorem twiceB_nil : twiceB [] = false := rfl
theorem tooMany_bare {p : Pkg} (h : tooManyB p = false) : tooManyB (bare p) = false := by
  unfold tooManyB bare at *
  simp at h ⊢
  omega
theorem less1_rec {x : Rec} {k m : Nat} (h : recProb x = (0, 0)) (hm : m ≤ x.prefs.length) : recProb (less1 x k m) = (0, 0) := by
  have hs := less1_sim x k m
  have hlen : (less1 x k m).pkgs.length = x.pkgs.length := by simp [less1]
  have hpl : (less1 x k m).prefs.length = m := by simp [less1]; omega
  have h24 : ¬ 24 < x.pkgs.length := fun e => by rw [recProb_many e] at h; cases h
  have h8 : ¬ 8 < x.prefs.length := fun e => by rw [recProb_prefs h24 e] at h; cases h
  rw [recProb_one h24 h8] at h
  have c1 : (firstP (pkgProb x) (List.range x.pkgs.length)).1 = 0 := by
    apply Classical.byContradiction
    intro hn
    unfold recProb1 at h
    rw [if_pos hn] at h
    exact hn (by rw [h])
  have hcode : ∀ j, j < x.pkgs.length → pkgCode x j = 0 := fun j hj => by
    have := firstP_zero c1 j (by simpa using hj)
    rw [nth_range hj] at this
    exact this
  rw [recProb1_no hcode] at h
  have c2 : (firstP (ruleProb x) x.pkgs).1 = 0 := by
    apply Classical.byContradiction
    intro hn
    unfold recProb2 at h
    rw [if_pos hn] at h
    exact hn (by rw [h])
  have hrule := firstP_zero c2
  rw [recProb2_no hrule] at h
  have c3 : ∀ j, j < x.prefs.length → preferB x j = true := fun j hj => by
    have := firstP_zero (f := prefProb x) (l := List.range x.prefs.length) (show (recProb3 x).1 = 0 by rw [h]) j (by simpa using hj)
    rw [nth_range hj] at this
    unfold prefProb at this
    cases e : preferB x j with
    | true => rfl
    | false => rw [e] at this; simp at this
  have hnth : ∀ i, i < x.pkgs.length → nth (less1 x k m).pkgs i = if k = i then bare (nth x.pkgs k) else nth x.pkgs i := fun i hi => nth_set _ hi
  have d1 : ∀ j, j < (less1 x k m).pkgs.length → pkgCode (less1 x k m) j = 0 := fun j hj => by
    rw [hlen] at hj
    have hc := hcode j hj
    unfold pkgCode at hc ⊢
    have e1 : (nth (less1 x k m).pkgs j).name = (nth x.pkgs j).name := congrArg (·.1) (hs.nth j)
    have e2 : (nth (less1 x k m).pkgs j).prov = (nth x.pkgs j).prov := congrArg (·.2.1) (hs.nth j)
    have e3 : (nth (less1 x k m).pkgs j).vars = (nth x.pkgs j).vars := congrArg (·.2.2) (hs.nth j)
    obtain ⟨z1, z2, z3, z4, z5, z6, z7, z8⟩ := codeOf_zero hc
    have e4 : (nth (less1 x k m).pkgs j).rels = (nth x.pkgs j).rels := by rw [hnth j hj]; split; (next e => subst e; rfl); (next => rfl)
    have e5 : tooManyB (nth (less1 x k m).pkgs j) = false := by rw [hnth j hj]; split; (next e => subst e; exact tooMany_bare z4); (next => exact z4)
    have e6 : twiceB (nth (less1 x k m).pkgs j).files = false := by rw [hnth j hj]; split; (next e => exact twiceB_nil); (next => exact z8)
    rw [hs.find, hs.prov, e1, e2, e3, e4, e5, e6, z1, z2, z3, z5, z6, z7]
    rfl
  have d2 : ∀ j, j < (less1 x k m).pkgs.length → (ruleProb (less1 x k m) (nth (less1 x k m).pkgs j)).1 = 0 := fun j hj => by
    rw [hlen] at hj
    have hr := hrule j hj
    have a1 : (firstP (depProb x (nth x.pkgs j)) (nth x.pkgs j).deps).1 = 0 := by
      apply Classical.byContradiction
      intro hn
      unfold ruleProb at hr
      rw [if_pos hn] at hr
      exact hn hr
    have a2 : (firstP (conProb x (nth x.pkgs j)) (nth x.pkgs j).cons).1 = 0 := by
      unfold ruleProb at hr
      rwa [if_neg (by simpa using a1)] at hr
    have b1 : depProb (less1 x k m) (nth (less1 x k m).pkgs j) = depProb x (nth x.pkgs j) := by
      funext d
      unfold depProb
      rw [hs.wish, settCode_face (hs.nth j)]
    have b2 : conProb (less1 x k m) (nth (less1 x k m).pkgs j) = conProb x (nth x.pkgs j) := by
      funext d
      unfold conProb
      rw [hs.withC, settCode_face (hs.nth j)]
    unfold ruleProb
    rw [b1, b2]
    have e1 : (nth (less1 x k m).pkgs j).deps = (nth x.pkgs j).deps := by rw [hnth j hj]; split; (next e => subst e; rfl); (next => rfl)
    rw [e1, if_neg (by simpa using a1)]
    by_cases e : k = j
    · have e3 : (nth (less1 x k m).pkgs j).cons = [] := by rw [hnth j hj, if_pos e]; rfl
      rw [e3]; rfl
    · have e3 : (nth (less1 x k m).pkgs j).cons = (nth x.pkgs j).cons := by rw [hnth j hj, if_neg e]
      rw [e3]; exact a2
  have d3 : ∀ j, j < (less1 x k m).prefs.length → preferB (less1 x k m) j = true := fun j hj => by
    rw [hpl] at hj
    have hc := c3 j (by omega)
    have e1 : nth (less1 x k m).prefs j = nth x.prefs j := nth_take hj
    have e2 : (less1 x k m).prefs.take j = x.prefs.take j := by show (x.prefs.take m).take j = _; rw [List.take_take]; congr 1; omega
    have e3 : preferN (less1 x k m) = preferN x := by
      funext v n
      unfold preferN
      have : (pkgOf (less1 x k m) n).prov = (pkgOf x n).prov := congrArg (·.2.1) (hs.of n)
      rw [hs.known, this]
    unfold preferB aheadB at hc ⊢
    rw [e1, e2, hs.virt, e3]
    exact hc
  rw [recProb_one (by rw [hlen]; exact h24) (by rw [hpl]; omega), recProb1_no d1, recProb2_no d2]
  exact recProb3_no d3
theorem less1_req {x : Rec} {q : List Root} {n : Nat} (h : reqProb x q = (0, 0)) (hq : 2 ≤ q.length) (hn : n < q.length) : reqProb x (q.take n ++ q.drop (n + 1)) = (0, 0) := by
  have h8 : ¬ 8 < q.length := fun e => by rw [reqProb_many e] at h; cases h
  rw [reqProb_few (by omega) h8] at h
  have hz := firstP_zero (f := rootProb x) (l := q) (by rw [h])
  have hl : (q.take n ++ q.drop (n + 1)).length = q.length - 1 := by rw [List.length_append, List.length_take, List.length_drop]; omega
  rw [reqProb_few (by omega) (by omega)]
  refine firstP_miss fun j hj => ?_
  have hm : nth (q.take n ++ q.drop (n + 1)) j ∈ q := by
    rcases List.mem_append.1 (nth_mem hj) with e | e
    · exact List.mem_of_mem_take e
    · exact List.mem_of_mem_drop e
  obtain ⟨i, hi, e⟩ := List.mem_iff_getElem.1 hm
  rw [← e, ← nth_lt hi]
  exact hz i hi
end Go.Proofs.Ytggejmojbebhfaa.Rc
