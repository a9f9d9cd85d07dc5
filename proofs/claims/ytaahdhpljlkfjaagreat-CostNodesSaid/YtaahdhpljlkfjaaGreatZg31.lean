/- What a graph costs: plain mathematics. -/
import Derived.Test.YtaahdhpljlkfjaaGreatZg27
import Derived.Test.YtaahdhpljlkfjaaGreatZg28
import Derived.Test.YtaahdhpljlkfjaaGreatZg29
import Derived.Test.YtaahdhpljlkfjaaGreatZg30
namespace Go.Proofs.YtaahdhpljlkfjaaGreat.Rc
open Go.RowKit

def holdsB (n : Node) (s : Spec) : Bool := Ver.hasL s.spans n.ver.data.toList && Va.meetsB n.sets s.sets
def isIn (x : Rec) (n : Node) : Bool := decide (0 ≤ findR x n.name)
def pkN (x : Rec) (n : Node) : Pkg := nth x.pkgs (findR x n.name).toNat
def wantB (n : Node) (s : ByteArray) (d : Two) : Bool := eqS d.a.name s && holdsB n d.b
def wantsB (x : Rec) (s : ByteArray) (n : Node) : Bool := isIn x n && (pkN x n).deps.any (wantB n s)
def rootS (s : ByteArray) (r : Root) : Bool := eqS r.spec.name s
def neededB (x : Rec) (q : List Root) (g : List Node) (s : ByteArray) : Bool := q.any (rootS s) || g.any (wantsB x s)
def meansB (x : Rec) (i : Int) (r : Root) : Bool := decide (i ∈ targs x r.spec.name)
def rootedB (x : Rec) (q : List Root) (i : Int) : Bool := q.any (meansB x i)
def oldR (v : ByteArray) (r : Rel) : Bool := eqS r.1 v && r.2
def oldB (p : Pkg) (v : ByteArray) : Bool := p.rels.any (oldR v)
def rankN (p : Pkg) (v : ByteArray) : Int := max 0 (rankI p v)
def fOld (x : Rec) (n : Node) : Int := if isIn x n && oldB (pkN x n) n.ver then 1 else 0
def fRoot (x : Rec) (q : List Root) (n : Node) : Int := if isIn x n && rootedB x q (findR x n.name) then rankN (pkN x n) n.ver else 0
def fOther (x : Rec) (q : List Root) (n : Node) : Int := if isIn x n && !rootedB x q (findR x n.name) then rankN (pkN x n) n.ver else 0
def fUn (x : Rec) (n : Node) : Int := if isIn x n then ((Va.unusualB (Va.usualB (pkN x n).vars) n.sets : Nat) : Int) else 0
def goodV (x : Rec) (q : List Root) (g : List Node) (s : ByteArray) : Bool := virtB x s && neededB x q g s
def oneV (x : Rec) (Q : ByteArray → Bool) (p : Pkg) (k : Nat) : Int := if Q (nth p.prov k) && !hasS (p.prov.take k) (nth p.prov k) then prefR x (nth p.prov k) p.name else 0
def sumV (x : Rec) (Q : ByteArray → Bool) (p : Pkg) : Nat → Int
  | 0 => 0
  | k + 1 => sumV x Q p k + oneV x Q p k
def fVir (x : Rec) (q : List Root) (g : List Node) (n : Node) : Int := if isIn x n then sumV x (goodV x q g) (pkN x n) (pkN x n).prov.length else 0
def sumL {α : Type} (f : α → Int) (l : List α) : Int := (l.map f).sum
def fName (x : Rec) (s : ByteArray) (n : Node) : Int := if isIn x n && hasS (pkN x n).prov s then prefR x s n.name else 0
def prefT (x : Rec) (g : List Node) (s : ByteArray) : Int := sumL (fName x s) g
/-- The six sums, over the first nodes; the fourth one: as the document goes. -/
def costK (x : Rec) (q : List Root) (g l : List Node) : List Int := [sumL (fOld x) l, sumL (fRoot x q) l, sumL (fUn x) l, sumL (fVir x q g) l, sumL (fOther x q) l, l.length]
def costL (x : Rec) (q : List Root) (g : List Node) : List Int := costK x q g g

theorem sumL_nil {α : Type} (f : α → Int) : sumL f [] = 0 := rfl
theorem sumL_cons {α : Type} (f : α → Int) (a : α) (l : List α) : sumL f (a :: l) = f a + sumL f l := by unfold sumL; rw [List.map_cons, List.sum_cons]
theorem sumL_app {α : Type} (f : α → Int) (l m : List α) : sumL f (l ++ m) = sumL f l + sumL f m := by
  unfold sumL; rw [List.map_append, List.sum_append]
theorem sumL_snoc {α : Type} [Inhabited α] (f : α → Int) {l : List α} {k : Nat} (h : k < l.length) : sumL f (l.take (k + 1)) = sumL f (l.take k) + f (nth l k) := by
  rw [take_snoc h, sumL_app, sumL_cons, sumL_nil, Int.add_zero]
theorem sumL_add {α : Type} (f h : α → Int) (l : List α) : sumL (fun a => f a + h a) l = sumL f l + sumL h l := by
  induction l with
  | nil => rfl
  | cons a l ih => rw [sumL_cons, sumL_cons, sumL_cons, ih]; omega
theorem sumL_congr {α : Type} {f h : α → Int} {l : List α} (e : ∀ a ∈ l, f a = h a) : sumL f l = sumL h l := by
  unfold sumL; rw [List.map_congr_left e]
theorem sumL_zero {α : Type} (l : List α) : sumL (fun _ => 0) l = 0 := by
  induction l with
  | nil => rfl
  | cons a l ih => rw [sumL_cons, ih]; rfl
theorem sumL_swap {α β : Type} (f : α → β → Int) (l : List α) (m : List β) : sumL (fun a => sumL (f a) m) l = sumL (fun b => sumL (fun a => f a b) l) m := by
  induction l with
  | nil => rw [sumL_nil]; exact (sumL_zero m).symm
  | cons a l ih => rw [sumL_cons, ih, ← sumL_add]; exact sumL_congr fun b _ => (sumL_cons (fun a => f a b) a l).symm
theorem sumL_le {α : Type} {f : α → Int} {B : Nat} : ∀ {l : List α}, (∀ a ∈ l, 0 ≤ f a ∧ f a ≤ B) → 0 ≤ sumL f l ∧ sumL f l ≤ B * l.length
  | [], _ => ⟨Int.le_refl _, by simp [sumL]⟩
  | a :: l, h => by
    have ih := sumL_le (l := l) fun b hb => h b (by simp [hb])
    have h1 := h a (by simp)
    rw [sumL_cons, List.length_cons]
    constructor
    · omega
    · have : (B : Int) * ((l.length + 1 : Nat) : Int) = B * l.length + B := by push_cast; rw [Int.mul_add, Int.mul_one]
      omega
theorem hasS_iff {l : List ByteArray} {s : ByteArray} : hasS l s = true ↔ s ∈ l := by
  show l.any (Va.eqS s) = true ↔ _
  rw [List.any_eq_true]
  constructor
  · rintro ⟨a, ha, e⟩
    rw [Va.eqS_iff.1 e]; exact ha
  · intro h
    exact ⟨s, h, Va.eqS_iff.2 rfl⟩
theorem sum_one {v : ByteArray} {h : ByteArray → Int} : ∀ {N : List ByteArray}, N.Nodup → sumL (fun s => if s = v then h s else 0) N = if hasS N v = true then h v else 0
  | [], _ => rfl
  | a :: N, hn => by
    rw [List.nodup_cons] at hn
    rw [sumL_cons, sum_one hn.2]
    by_cases e : a = v
    · rw [if_pos e, if_neg (by rw [hasS_iff, ← e]; exact hn.1), if_pos (by rw [hasS_iff, e]; simp), e, Int.add_zero]
    · rw [if_neg e, Int.zero_add]
      have hc : hasS (a :: N) v = hasS N v := by
        rw [Bool.eq_iff_iff, hasS_iff, hasS_iff, List.mem_cons]
        exact ⟨fun h => h.resolve_left (fun e2 => e e2.symm), .inr⟩
      rw [hc]
theorem hasS_snocB {l : List ByteArray} {k : Nat} (hk : k < l.length) (s : ByteArray) : hasS (l.take (k + 1)) s = (hasS (l.take k) s || decide (s = nth l k)) := by
  rw [Bool.eq_iff_iff, Bool.or_eq_true, decide_eq_true_iff, hasS_iff, hasS_iff, take_snoc hk, List.mem_append, List.mem_singleton]
theorem sumV_names (x : Rec) (Q : ByteArray → Bool) (p : Pkg) {N : List ByteArray} (hn : N.Nodup) (hm : ∀ s, s ∈ N ↔ Q s = true) : ∀ k, k ≤ p.prov.length → sumL (fun s => if hasS (p.prov.take k) s then prefR x s p.name else 0) N = sumV x Q p k
  | 0, _ => by
    rw [List.take_zero]
    exact (sumL_congr fun s _ => if_neg (by rw [hasS_iff]; simp)).trans (sumL_zero N)
  | k + 1, hk => by
    have ih := sumV_names x Q p hn hm k (by omega)
    have hkl : k < p.prov.length := by omega
    unfold sumV
    rw [← ih]
    unfold oneV
    cases hv : hasS (p.prov.take k) (nth p.prov k) with
    | true =>
      rw [Bool.not_true, Bool.and_false, if_neg (by decide), Int.add_zero]
      refine sumL_congr fun s _ => ?_
      rw [hasS_snocB hkl]
      by_cases e : s = nth p.prov k
      · rw [e, hv, Bool.true_or]
      · rw [decide_eq_false e, Bool.or_false]
    | false =>
      rw [Bool.not_false, Bool.and_true]
      have h1 : sumL (fun s => if hasS (p.prov.take (k + 1)) s then prefR x s p.name else 0) N = sumL (fun s => (if hasS (p.prov.take k) s then prefR x s p.name else 0) + (if s = nth p.prov k then prefR x s p.name else 0)) N := by
        refine sumL_congr fun s _ => ?_
        rw [hasS_snocB hkl]
        by_cases e : s = nth p.prov k
        · rw [e, hv, decide_eq_true rfl, Bool.or_true, if_pos rfl, if_pos rfl]; simp
        · rw [decide_eq_false e, Bool.or_false, if_neg e, Int.add_zero]
      rw [h1, sumL_add, sum_one (v := nth p.prov k) (h := fun s => prefR x s p.name) hn]
      congr 1
      by_cases hq : Q (nth p.prov k) = true
      · rw [if_pos (hasS_iff.2 ((hm _).2 hq)), if_pos hq]
      · rw [if_neg (fun h => hq ((hm _).1 (hasS_iff.1 h))), if_neg hq]
theorem pk_name {x : Rec} {n : Node} (h : isIn x n = true) : (pkN x n).name = n.name := by
  obtain ⟨k, hk, _, hp⟩ := idx_at (p := fun p => nameIs p n.name) (l := x.pkgs) (of_decide_eq_true h)
  unfold pkN
  rw [show findR x n.name = k from hk, Int.toNat_natCast]
  exact Va.eqS_iff.1 hp
theorem pk_mem {x : Rec} {n : Node} (h : isIn x n = true) : pkN x n ∈ x.pkgs := by
  obtain ⟨k, hk, hl, hp⟩ := idx_at (p := fun p => nameIs p n.name) (l := x.pkgs) (of_decide_eq_true h)
  unfold pkN
  rw [show findR x n.name = k from hk, Int.toNat_natCast]
  exact nth_mem hl
/-- The code's way of the fourth sum, name by name, is the document's, node by node. -/
theorem pref_swap (x : Rec) (q : List Root) (g : List Node) {N : List ByteArray} (hn : N.Nodup) (hm : ∀ s, s ∈ N ↔ goodV x q g s = true) : sumL (prefT x g) N = sumL (fVir x q g) g := by
  show sumL (fun s => sumL (fName x s) g) N = _
  rw [sumL_swap]
  refine sumL_congr fun n _ => ?_
  unfold fVir
  cases hi : isIn x n with
  | false =>
    rw [if_neg (by decide)]
    exact (sumL_congr fun s _ => by unfold fName; rw [hi, Bool.false_and, if_neg (by decide)]).trans (sumL_zero N)
  | true =>
    rw [if_pos rfl, ← sumV_names x (goodV x q g) (pkN x n) hn hm _ (Nat.le_refl _), List.take_length]
    exact sumL_congr fun s _ => by unfold fName; rw [hi, Bool.true_and, pk_name hi]
/-! How great they get. -/
theorem findIdx_len {α : Type} (p : α → Bool) (l : List α) : idx p l < l.length + 1 := by
  unfold idx
  split
  · omega
  · omega
structure Tame (x : Rec) (g : List Node) : Prop where
  small : RecSmall x
  prefs : ∀ f ∈ x.prefs, f.names.length ≤ 50
  len : g.length ≤ 30
  sets : ∀ n ∈ g, n.sets.length ≤ 50
theorem pref_le {x : Rec} (h : ∀ f ∈ x.prefs, f.names.length ≤ 50) (v s : ByteArray) : 0 ≤ prefR x v s ∧ prefR x v s ≤ 50 := by
  unfold prefR
  split
  · next hh =>
    have h0 : 0 ≤ idx (fun f => virtN f v) x.prefs := by
      have := idx_any (fun f => virtN f v) x.prefs
      rw [hh] at this; simpa using this
    obtain ⟨k, hk, hl, _⟩ := idx_at h0
    have := h _ (nth_mem hl)
    rw [hk, Int.toNat_natCast]
    unfold inRow
    split
    · next hi =>
      have := findIdx_len (txtIs s) (nth x.prefs k).names
      have h2 := idx_any (txtIs s) (nth x.prefs k).names
      rw [hi] at h2
      have h3 : 0 ≤ idx (txtIs s) (nth x.prefs k).names := of_decide_eq_true h2
      omega
    · omega
  · omega
theorem rank_le {p : Pkg} (h : p.rels.length ≤ 30) (v : ByteArray) : 0 ≤ rankN p v ∧ rankN p v ≤ 30 := by
  unfold rankN rankI
  split
  · have := cntK_le p v p.rels.length
    omega
  · omega
theorem old_le (x : Rec) (n : Node) : 0 ≤ fOld x n ∧ fOld x n ≤ (1 : Nat) := by unfold fOld; split <;> omega
section
variable {x : Rec} {g : List Node} (h : Tame x g) (q : List Root)
include h
theorem root_le {n : Node} (_hn : n ∈ g) : 0 ≤ fRoot x q n ∧ fRoot x q n ≤ (30 : Nat) := by
  unfold fRoot
  split
  · next hh =>
    rw [Bool.and_eq_true] at hh
    exact rank_le (h.small.each _ (pk_mem hh.1)).2.1 _
  · omega
theorem other_le {n : Node} (_hn : n ∈ g) : 0 ≤ fOther x q n ∧ fOther x q n ≤ (30 : Nat) := by
  unfold fOther
  split
  · next hh =>
    rw [Bool.and_eq_true] at hh
    exact rank_le (h.small.each _ (pk_mem hh.1)).2.1 _
  · omega
theorem un_le {n : Node} (hn : n ∈ g) : 0 ≤ fUn x n ∧ fUn x n ≤ (50 : Nat) := by
  unfold fUn
  split
  · have h1 : Va.unusualB (Va.usualB (pkN x n).vars) n.sets ≤ n.sets.length := List.countP_le_length
    have := h.sets n hn
    omega
  · omega
theorem sumV_le (Q : ByteArray → Bool) (p : Pkg) : ∀ k : Nat, 0 ≤ sumV x Q p k ∧ sumV x Q p k ≤ 50 * k
  | 0 => ⟨Int.le_refl _, by simp [sumV]⟩
  | k + 1 => by
    have ih := sumV_le Q p k
    have := pref_le h.prefs (nth p.prov k) p.name
    unfold sumV oneV
    split <;> omega
theorem vir_le {n : Node} (_hn : n ∈ g) : 0 ≤ fVir x q g n ∧ fVir x q g n ≤ (2500 : Nat) := by
  unfold fVir
  split
  · next hh =>
    have h1 := (h.small.each _ (pk_mem hh)).2.2.2.2.2.1
    have h2 := sumV_le h (goodV x q g) (pkN x n) (pkN x n).prov.length
    omega
  · omega
theorem name_le (s : ByteArray) (n : Node) : 0 ≤ fName x s n ∧ fName x s n ≤ (50 : Nat) := by
  unfold fName
  split
  · exact pref_le h.prefs s n.name
  · omega
theorem prefT_le (s : ByteArray) : 0 ≤ prefT x g s ∧ prefT x g s ≤ (1500 : Nat) := by
  have := sumL_le (f := fName x s) (B := 50) (l := g) fun n _ => name_le h s n
  have h2 := h.len
  unfold prefT
  omega
theorem Tame.take (k : Nat) : Tame x (g.take k) := ⟨h.small, h.prefs, by have := h.len; rw [List.length_take]; omega, fun n hn => h.sets n (List.mem_of_mem_take hn)⟩
end
end Go.Proofs.YtaahdhpljlkfjaaGreat.Rc
