/- A region that draws its order, all of whose operations but the last one are quiet. -/
import Derived.Test.YtaahdhpljlkfjaaGreatZg01
import Derived.Lib.QuietBelow
import Derived.BigQuiet
import Derived.Test.YtaahdhpljlkfjaaGreatZg33
namespace Go.Proofs.YtaahdhpljlkfjaaGreat.Co
open Go.RowKit Go.Sort

section
variable {P : Program} {md : Region.Mode} {C : World → Prop}
/-- Every operation waits for earlier ones alone. -/
def upward (md : Region.Mode) (ops : Array Oper) : Prop := ∀ (i : Nat) (o : Oper), ops[i]? = some o → ∀ e ∈ o.after, Region.binds md e = true → e.on < i
theorem all_listed {ops : Array Oper} {listed : Array Bool} (hT : upward md ops) (hs : listed.size = ops.size) (h0 : Region.ready md ops listed = []) : ∀ j, j < ops.size → listed.getD j true = true := by
  intro j
  induction j using Nat.strongRecOn with
  | ind j ih =>
    intro hj
    cases hg : listed.getD j true with
    | true => rfl
    | false =>
      exfalso
      have hr : j ∈ Region.ready md ops listed := mem_ready.2 ⟨hg, ops[j], Array.getElem?_eq_getElem hj, fun e he hb => by
        have hlt := hT j _ (Array.getElem?_eq_getElem hj) e he hb
        have := ih e.on hlt (by omega)
        have hl : e.on < listed.size := by omega
        simp [hl] at this ⊢
        exact this⟩
      rw [h0] at hr; cases hr
theorem ready_eq {ops ops' : Array Oper} (hsz : ops.size = ops'.size) (ha : ∀ i : Nat, (ops[i]?).map (fun o : Oper => o.after) = (ops'[i]?).map (fun o : Oper => o.after)) (listed : Array Bool) : Region.ready md ops listed = Region.ready md ops' listed := by
  unfold Region.ready
  rw [hsz]
  refine List.filter_congr fun i _ => ?_
  have h := ha i
  cases h1 : ops[i]? <;> cases h2 : ops'[i]? <;> rw [h1, h2] at h <;> simp at h ⊢
  rw [h]
theorem bridge {ops ops' : Array Oper} {s s' : Oper} {k : Nat} {Q : Act → Prop} {Q' : Exit → Act → World → Prop} (hsz : ops.size = ops'.size) (hkz : k < ops.size)
    (ha : ∀ i : Nat, (ops[i]?).map (fun o : Oper => o.after) = (ops'[i]?).map (fun o : Oper => o.after)) (hy : ∀ t, yielded ops t = yielded ops' t) (hk : ∀ i : Nat, i ≠ k → ops[i]? = ops'[i]?) (hS : ops[k]? = some s) (hS' : ops'[k]? = some s') (hg : s.guard = none) (hg' : s'.guard = none) (hd : s'.dst = none)
    (hT : upward md ops) (hlast : ∀ j, j < ops.size → j ≠ k → ∃ e ∈ s.after, Region.binds md e = true ∧ e.on = j)
    (hstore : ∀ a w, C w → Q a → s.wp P a w (fun a' w' => Q' .normal a' w') Q') :
    ∀ (fuel : Nat) (listed : Array Bool) (a : Act) (w : World), C w → listed.size = ops.size → listed.getD k true = false → wpAnyQ P md ops' C Q fuel listed a → wpAny P md ops Q' fuel listed a w
  | 0, listed, a, w, hw, hls, hk0, h => by
    have h0 := h.1
    rw [← ready_eq hsz ha] at h0
    have := all_listed hT hls h0 k hkz
    rw [hk0] at this; cases this
  | fuel + 1, listed, a, w, hw, hls, hk0, h => by
    refine ⟨fun h0 => ?_, fun i hi => ?_⟩
    · have := all_listed hT hls h0 k hkz
      rw [hk0] at this; cases this
    · have hq := h.2 i (by rw [← ready_eq hsz ha]; exact hi)
      by_cases e : i = k
      · subst e
        have hr : Region.ready md ops (listed.setIfInBounds i true) = [] := by
          refine List.eq_nil_iff_forall_not_mem.2 fun j hj => ?_
          obtain ⟨h1, o, h2, h3⟩ := mem_ready.1 hj
          have hjl : j < ops.size := (Array.getElem?_eq_some_iff.1 h2).1
          by_cases e : j = i
          · subst e
            have : j < listed.size := by omega
            simp [this] at h1
          · obtain ⟨ed, hed, hb, hon⟩ := hlast j hjl e
            obtain ⟨_, o2, h5, h6⟩ := mem_ready.1 hi
            rw [hS] at h5; cases h5
            have h7 := h6 ed hed hb
            rw [hon] at h7
            have hl : j < listed.size := by omega
            rw [getD_set_ne true (Ne.symm e)] at h1
            simp [hl] at h1 h7
            rw [h1] at h7; cases h7
        have hQ : Q a := by
          unfold qOp at hq
          simp only [hS'] at hq
          rw [if_pos (by simp [Region.wanted, hg'])] at hq
          obtain ⟨v, _, h4⟩ := hq
          rw [hd] at h4
          have h4 : wpAnyQ P md ops' C Q fuel (listed.setIfInBounds i true) a := h4
          rw [ready_eq hsz ha] at hr
          cases fuel with
          | zero => exact h4.2
          | succ f => exact h4.1 hr
        unfold wpOp
        simp only [hS]
        rw [if_pos (by simp [Region.wanted, hg])]
        refine .inl (Oper.wp_mono (fun a' w' hq' => ?_) (hstore a w hw hQ))
        cases fuel with
        | zero => exact ⟨hr, hq'⟩
        | succ f => exact ⟨fun _ => hq', fun j hj => by rw [hr] at hj; cases hj⟩
      · have hq2 : qOp P ops C i (wpAnyQ P md ops' C Q fuel (listed.setIfInBounds i true)) a := by
          unfold qOp at hq ⊢
          rw [hk i e]
          simp only [hy]
          exact hq
        refine wpOp_of_qOp hw (fun a' w' hw' h' => ?_) hq2
        refine bridge hsz hkz ha hy hk hS hS' hg hg' hd hT hlast hstore fuel _ a' w' hw' (by rw [Array.size_setIfInBounds]; exact hls) ?_ h'
        rw [getD_set_ne true e]; exact hk0
/-- No operation defers a call. -/
def noDefer (l : List Oper) : Bool := l.all fun o => match o.op with
  | .defer _ => false
  | _ => true
/-- Decided: what the law asks of a region whose last operation comes behind all others. -/
def lastB (l : List Oper) (s : Oper) : Bool :=
  noDefer (l ++ [s]) && s.guard.isNone && s.dst.isNone && ((List.range (l.length + 1)).all fun i => match (l ++ [s])[i]? with | some o => o.after.all (fun e => !Region.binds .any e || decide (e.on < i)) | none => true) &&
  ((List.range l.length).all fun j => s.after.any fun e => Region.binds .any e && e.on == j)
theorem quiet_then {id : Nat} {Q : Exit → Act → World → Prop} {a : Act} {w : World} {l : List Oper} {s : Oper} (hL : lastB l s = true) (hm : P.follows .mixedOrders = true)
    (hB : Region.lexB .any (l ++ [{ s with op := Op.move (.const (.bool true)) }]).toArray = true)
    (h : wpQuiet P (l ++ [{ s with op := Op.move (.const (.bool true)) }]).toArray (fun w' => ∃ p : Regrown, w' = grow (redrawn w p.d) p.os) (fun a' => ∀ w', (∃ p : Regrown, w' = grow (redrawn w p.d) p.os) → s.wp P a' w' (fun a2 w2 => Q .normal a2 w2) Q) (l ++ [{ s with op := Op.move (.const (.bool true)) }]) a) :
    (Code.region id (l ++ [s]).toArray true).wp P Q a w := by
  simp only [Region.lexB, Bool.and_eq_true] at hB
  unfold lastB at hL
  simp only [Bool.and_eq_true] at hL
  obtain ⟨⟨⟨⟨l1, l2⟩, l3⟩, l4⟩, l5⟩ := hL
  have hg : s.guard = none := by simpa using l2
  have hd : s.dst = none := by simpa using l3
  refine wp_region_any hm ?_
  have hwalk := wpAnyQ_lex (P := P) (C := fun w' => ∃ p : Regrown, w' = grow (redrawn w p.d) p.os) (md := .any) hB.1 (l ++ [{ s with op := Op.move (.const (.bool true)) }]) 0 (Array.replicate (l ++ [{ s with op := Op.move (.const (.bool true)) }]).toArray.size false) a (by simp) (by simpa using hB.2) h
  have hlen : ∀ x : Oper, (l ++ [x]).toArray.size = l.length + 1 := fun x => by simp
  have hget : ∀ (x : Oper) (i : Nat), (l ++ [x]).toArray[i]? = if i < l.length then l[i]? else if i = l.length then some x else none := fun x i => by
    rw [List.getElem?_toArray, List.getElem?_append]
    split
    · rfl
    · split
      · rename_i e; subst e; simp
      · rw [List.getElem?_eq_none]; simp; omega
  have hbr := bridge (P := P) (md := .any) (C := fun w' => ∃ p : Regrown, w' = grow (redrawn w p.d) p.os) (ops := (l ++ [s]).toArray) (ops' := (l ++ [{ s with op := Op.move (.const (.bool true)) }]).toArray) (s := s) (s' := { s with op := Op.move (.const (.bool true)) }) (k := l.length)
    (Q := fun a' => ∀ w', (∃ p : Regrown, w' = grow (redrawn w p.d) p.os) → s.wp P a' w' (fun a2 w2 => Q .normal a2 w2) Q) (Q' := Q)
    (by rw [hlen, hlen]) (by rw [hlen]; omega) (fun i => by rw [hget, hget]; split; · rfl
                                                            · split <;> rfl)
    (fun t => by
      funext j
      unfold yielded
      have e : ((l ++ [s]).toArray[j]?).bind (fun o : Oper => o.dst) = ((l ++ [{ s with op := Op.move (.const (.bool true)) }]).toArray[j]?).bind (fun o : Oper => o.dst) := by
        rw [hget, hget]
        by_cases h1 : j < l.length
        · rw [if_pos h1, if_pos h1]
        · rw [if_neg h1, if_neg h1]
          by_cases h2 : j = l.length
          · rw [if_pos h2, if_pos h2]; rfl
          · rw [if_neg h2, if_neg h2]
      rw [e])
    (fun i hi => by rw [hget, hget]; simp [hi])
    (by rw [hget]; simp) (by rw [hget]; simp) hg hg hd
    (fun i o hi e he hb => by
      have hlt : i < l.length + 1 := by
        have := (Array.getElem?_eq_some_iff.1 hi).1
        rwa [hlen] at this
      have := List.all_eq_true.1 l4 i (List.mem_range.2 hlt)
      rw [List.getElem?_toArray] at hi
      simp only [hi] at this
      have := Array.all_eq_true_iff_forall_mem.1 this e he
      simp [hb] at this
      exact this)
    (fun j hj hne => by
      rw [hlen] at hj
      have := List.all_eq_true.1 l5 j (List.mem_range.2 (by omega))
      obtain ⟨i, hi, hx⟩ := Array.any_eq_true.1 this
      simp at hx
      exact ⟨_, Array.getElem_mem hi, hx.1, hx.2⟩)
    (fun a' w' hw' hq => hq w' hw')
  have := hbr _ (Array.replicate (l ++ [s]).toArray.size false) a (World.drew w) ⟨⟨w.drawn + 1, #[]⟩, by rw [grow_empty]; rfl⟩ (by simp) (by simp [hlen]) (by simpa [hlen] using hwalk)
  simpa [hlen] using this
theorem quiet_then2 {id : Nat} {Q : Exit → Act → World → Prop} {a : Act} {w : World} {L L' l : List Oper} {s : Oper} (e1 : L.dropLast = l) (e2 : L.getLast? = some s) (e3 : l ++ [{ s with op := Op.move (.const (.bool true)) }] = L') (hL : lastB l s = true) (hm : P.follows .mixedOrders = true)
    (hB : Region.lexB .any L'.toArray = true)
    (h : wpQuiet P L'.toArray (fun w' => ∃ p : Regrown, w' = grow (redrawn w p.d) p.os) (fun a' => ∀ w', (∃ p : Regrown, w' = grow (redrawn w p.d) p.os) → s.wp P a' w' (fun a2 w2 => Q .normal a2 w2) Q) L' a) :
    (Code.region id L.toArray true).wp P Q a w := by
  obtain ⟨ys, rfl⟩ := List.getLast?_eq_some_iff.1 e2
  rw [List.dropLast_concat] at e1
  subst e1
  subst e3
  exact quiet_then hL hm hB h
end
end Go.Proofs.YtaahdhpljlkfjaaGreat.Co

/- What one node more costs. -/
namespace Go.Proofs.YtaahdhpljlkfjaaGreat.Rc
open Go.RowKit

/-- The first five sums. -/
structure Sums (x : Rec) (q : List Root) (g l : List Node) (a0 a1 a2 a3 a4 : Int) : Prop where
  s0 : a0 = sumL (fOld x) l
  s1 : a1 = sumL (fRoot x q) l
  s2 : a2 = sumL (fUn x) l
  s3 : a3 = sumL (fVir x q g) l
  s4 : a4 = sumL (fOther x q) l
theorem Sums.start (x : Rec) (q : List Root) (g : List Node) : Sums x q g (g.take 0) 0 0 0 0 0 := ⟨rfl, rfl, rfl, rfl, rfl⟩
theorem Sums.le {x : Rec} {q : List Root} {g : List Node} {k : Nat} {a0 a1 a2 a3 a4 : Int} (h : Sums x q g (g.take k) a0 a1 a2 a3 a4) (ht : Tame x g) :
    (0 ≤ a0 ∧ a0 ≤ 75000) ∧ (0 ≤ a1 ∧ a1 ≤ 75000) ∧ (0 ≤ a2 ∧ a2 ≤ 75000) ∧ (0 ≤ a3 ∧ a3 ≤ 75000) ∧ 0 ≤ a4 ∧ a4 ≤ 75000 := by
  have hm : ∀ n ∈ g.take k, n ∈ g := fun n hn => List.mem_of_mem_take hn
  have hl := (ht.take k).len
  have h0 := sumL_le (f := fOld x) (B := 1) (l := g.take k) fun n _ => old_le x n
  have h1 := sumL_le (f := fRoot x q) (B := 30) (l := g.take k) fun n hn => root_le ht q (hm n hn)
  have h2 := sumL_le (f := fUn x) (B := 50) (l := g.take k) fun n hn => un_le ht (hm n hn)
  have h3 := sumL_le (f := fVir x q g) (B := 2500) (l := g.take k) fun n hn => vir_le ht q (hm n hn)
  have h4 := sumL_le (f := fOther x q) (B := 30) (l := g.take k) fun n hn => other_le ht q (hm n hn)
  rw [h.s0, h.s1, h.s2, h.s3, h.s4]
  omega
theorem Sums.skip {x : Rec} {q : List Root} {g : List Node} {k : Nat} {a0 a1 a2 a3 a4 : Int} (h : Sums x q g (g.take k) a0 a1 a2 a3 a4) (hk : k < g.length) (hz : findR x (nth g k).name < 0) : Sums x q g (g.take (k + 1)) a0 a1 a2 a3 a4 := by
  have hi : isIn x (nth g k) = false := decide_eq_false (by omega)
  refine ⟨?_, ?_, ?_, ?_, ?_⟩
  · rw [sumL_snoc _ hk, h.s0]; unfold fOld; rw [hi]; simp
  · rw [sumL_snoc _ hk, h.s1]; unfold fRoot; rw [hi]; simp
  · rw [sumL_snoc _ hk, h.s2]; unfold fUn; rw [hi]; simp
  · rw [sumL_snoc _ hk, h.s3]; unfold fVir; rw [hi]; simp
  · rw [sumL_snoc _ hk, h.s4]; unfold fOther; rw [hi]; simp
theorem Sums.more {x : Rec} {q : List Root} {g : List Node} {k m : Nat} {a0 a1 a2 a3 a4 u v : Int} {o r : Bool} (h : Sums x q g (g.take k) a0 a1 a2 a3 a4) (hk : k < g.length) {n : Node} (hn : nth g k = n) (hz : findR x n.name = m)
    (ho : oldB (nth x.pkgs m) n.ver = o) (hr : rootedB x q m = r) (hu : ((Va.unusualB (Va.usualB (nth x.pkgs m).vars) n.sets : Nat) : Int) = u) (hv : sumV x (goodV x q g) (nth x.pkgs m) (nth x.pkgs m).prov.length = v) :
    Sums x q g (g.take (k + 1)) (a0 + if o then 1 else 0) (a1 + if r then rankN (nth x.pkgs m) n.ver else 0) (a2 + u) (a3 + v) (a4 + if r then 0 else rankN (nth x.pkgs m) n.ver) := by
  have hi : isIn x n = true := by unfold isIn; rw [hz]; exact decide_eq_true (by omega)
  have hp : pkN x n = nth x.pkgs m := by unfold pkN; rw [hz, Int.toNat_natCast]
  refine ⟨?_, ?_, ?_, ?_, ?_⟩
  · rw [sumL_snoc _ hk, h.s0, hn]; unfold fOld; rw [hi, hp, ho, Bool.true_and]
  · rw [sumL_snoc _ hk, h.s1, hn]; unfold fRoot; rw [hi, hp, hz, hr, Bool.true_and]
  · rw [sumL_snoc _ hk, h.s2, hn]; unfold fUn; rw [hi, hp, hu, if_pos rfl]
  · rw [sumL_snoc _ hk, h.s3, hn]; unfold fVir; rw [hi, hp, hv, if_pos rfl]
  · rw [sumL_snoc _ hk, h.s4, hn]; unfold fOther; rw [hi, hp, hz, hr, Bool.true_and]; cases r <;> rfl
/-- A cost, as a value. -/
def costV (l : List Int) : Value := .agg #[.int .i64 (nth l 0), .int .i64 (nth l 1), .int .i64 (nth l 2), .int .i64 (nth l 3), .int .i64 (nth l 4), .int .i64 (nth l 5)]
def GivesC (l : List Int) (w : World) (e : Ending) (w' : World) : Prop := e = .returned (costV l) ∧ Below w.heap.size w w'
theorem Sums.cost {x : Rec} {q : List Root} {g : List Node} {a0 a1 a2 a3 a4 : Int} {L : Nat} (h : Sums x q g g a0 a1 a2 a3 a4) (hL : L = g.length) : costV (costL x q g) = .agg #[.int .i64 a0, .int .i64 a1, .int .i64 a2, .int .i64 a3, .int .i64 a4, .int .i64 L] := by
  rw [h.s0, h.s1, h.s2, h.s3, h.s4, hL]; rfl
theorem old_no {p : Pkg} {v : ByteArray} {k : Nat} (h : (p.rels.take k).any (oldR v) = false) (hk : k = p.rels.length) : oldB p v = false := by rw [hk, List.take_length] at h; exact h
theorem oldR_snoc {l : List Rel} {k : Nat} {v : ByteArray} (hk : k < l.length) (h : (l.take k).any (oldR v) = false) (h2 : oldR v (nth l k) = false) : (l.take (k + 1)).any (oldR v) = false := by rw [any_snoc hk, h, h2]; rfl
theorem sumV_le' {x : Rec} {g : List Node} (h : Tame x g) (Q : ByteArray → Bool) {p : Pkg} (hp : p ∈ x.pkgs) {k : Nat} (hk : k ≤ p.prov.length) : 0 ≤ sumV x Q p k ∧ sumV x Q p k ≤ 2500 := by
  have h1 := (h.small.each _ hp).2.2.2.2.2.1
  have h2 := sumV_le h Q p k
  omega
theorem oneV_no {x : Rec} {Q : ByteArray → Bool} {p : Pkg} {k : Nat} {a : Int} (h : sumV x Q p k = a) (h2 : (Q (nth p.prov k) && !hasS (p.prov.take k) (nth p.prov k)) = false) : sumV x Q p (k + 1) = a := by
  unfold sumV oneV; rw [h, h2]; simp
theorem oneV_yes {x : Rec} {Q : ByteArray → Bool} {p : Pkg} {k : Nat} {a y : Int} (h : sumV x Q p k = a) (h2 : (Q (nth p.prov k) && !hasS (p.prov.take k) (nth p.prov k)) = true) (hy : prefR x (nth p.prov k) p.name = y) : sumV x Q p (k + 1) = a + y := by
  unfold sumV oneV; rw [h, h2, hy]; rfl
end Go.Proofs.YtaahdhpljlkfjaaGreat.Rc
