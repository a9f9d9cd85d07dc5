/- A region that draws its order: two calls, two new variables, two stores; what the loads ahead of them give is there already. -/
import Derived.Test.YtaahdhpljlkfjaaGreatZg34
import Derived.Laws.Tables
import Derived.OrdersHeld
import Derived.Test.YtaahdhpljlkfjaaGreatZg27
import Derived.Test.YtaahdhpljlkfjaaGreatZg45
import Derived.Laws.CopyOwn
import Derived.Test.YtaahdhpljlkfjaaGreatZg30
import Derived.Test.YtaahdhpljlkfjaaGreatZg11
namespace Go.Proofs.YtaahdhpljlkfjaaGreat.Co
open Go.RowKit Go.Sort

section
variable {P : Program} {md : Region.Mode} {ops : Array Oper} {Q : Exit → Act → World → Prop}
def open? (l : List Bool) : Nat := l.countP (fun b => !b)
theorem open_set : ∀ {l : List Bool} {i : Nat}, l[i]? = some false → open? (l.set i true) + 1 = open? l
  | [], i, h => by simp at h
  | b :: l, 0, h => by
    simp at h
    subst h
    unfold open?
    rw [List.set_cons_zero, List.countP_cons_of_neg (by simp), List.countP_cons_of_pos (by simp)]
  | b :: l, i + 1, h => by
    have ih := open_set (l := l) (i := i) (by simpa using h)
    unfold open? at *
    rw [List.set_cons_succ]
    cases b
    · rw [List.countP_cons_of_pos (by simp), List.countP_cons_of_pos (by simp)]; omega
    · rw [List.countP_cons_of_neg (by simp), List.countP_cons_of_neg (by simp)]; omega
theorem open_zero {l : List Bool} (h : open? l = 0) : ∀ i, i < l.length → l[i]? = some true := by
  intro i hi
  unfold open? at h
  rw [List.countP_eq_zero] at h
  have := h l[i] (List.getElem_mem hi)
  rw [List.getElem?_eq_getElem hi]
  simp at this
  rw [this]
theorem getD_eq {L : Array Bool} {i : Nat} (h : i < L.size) (d e : Bool) : L.getD i d = L.getD i e := by simp [Array.getD, h]
theorem wpAny_inv {S : World → Prop} {I : Array Bool → Act → World → Prop} (hT : upward md ops) (hS : ∀ L a w, I L a w → S w)
    (hend : ∀ L a w, L.size = ops.size → I L a w → (∀ i, i < ops.size → L.getD i true = true) → Q .normal a w)
    (hstep : ∀ L a w i, L.size = ops.size → I L a w → i ∈ Region.ready md ops L → wpOp P ops Q i (fun a' w' => I (L.setIfInBounds i true) a' w') a w) :
    ∀ (fuel : Nat) (L : Array Bool) (a : Act) (w : World), L.size = ops.size → open? L.toList ≤ fuel → I L a w → wpAnyH P md ops Q S fuel L a w
  | 0, L, a, w, hs, hf, hI => by
    have hall : ∀ i, i < ops.size → L.getD i true = true := fun i hi => by
      have h1 := open_zero (l := L.toList) (by omega) i (by rw [Array.length_toList]; omega)
      have h2 : i < L.size := by omega
      rw [Array.getElem?_toList, Array.getElem?_eq_getElem h2] at h1
      simp only [Array.getD, h2, dite_true]
      exact Option.some.inj h1
    refine ⟨?_, hend L a w hs hI hall⟩
    refine List.eq_nil_iff_forall_not_mem.2 fun j hj => ?_
    obtain ⟨h1, o, h2, _⟩ := mem_ready.1 hj
    rw [hall j (Array.getElem?_eq_some_iff.1 h2).1] at h1
    cases h1
  | fuel + 1, L, a, w, hs, hf, hI => by
    refine ⟨fun h0 => hend L a w hs hI (all_listed hT hs h0), fun i hi => ?_⟩
    refine wpOp_mono (fun a' w' h' => ⟨hS _ _ _ h', ?_⟩) (hstep L a w i hs hI hi)
    refine wpAny_inv hT hS hend hstep fuel _ a' w' (by rw [Array.size_setIfInBounds]; exact hs) ?_ h'
    obtain ⟨h1, o, h2, _⟩ := mem_ready.1 hi
    have hil : i < L.size := by rw [hs]; exact (Array.getElem?_eq_some_iff.1 h2).1
    have := open_set (l := L.toList) (i := i) (by
      rw [Array.getElem?_toList, Array.getElem?_eq_getElem hil]
      simp only [Array.getD, hil, dite_true] at h1
      exact congrArg some h1)
    rw [Array.toList_setIfInBounds]
    omega
theorem bit_set (L : Array Bool) (i j : Nat) : (L.setIfInBounds i true).getD j true = (decide (i = j) || L.getD j true) := by
  by_cases e : i = j
  · subst e
    simp [Array.getD]
  · rw [getD_set_ne true e, decide_eq_false e, Bool.false_or]
/-- A variable of the region's own. -/
def Bd (N : Nat) (T : TypeId) (n : Nat) (w : World) (v : Value) (b : Bool) (cs : Array Value) : Prop :=
  ∃ B old, v = .pointer (some ⟨B, 0, none⟩) ∧ N ≤ B ∧ w.heap[B]? = some (.cells old T (0, 0)) ∧ old.size = n ∧ (b = true → old = cs)
theorem Bd.below {N : Nat} {T : TypeId} {n : Nat} {w w' : World} {v : Value} {b : Bool} {cs : Array Value} (h : Bd N T n w v b cs) (hb : Below w.heap.size w w') : Bd N T n w' v b cs := by
  obtain ⟨B, old, h1, h2, h3, h4, h5⟩ := h
  exact ⟨B, old, h1, h2, heap_below h3 hb, h4, h5⟩
theorem Bd.far {N : Nat} {T : TypeId} {n : Nat} {w : World} {v : Value} {b : Bool} {cs : Array Value} (h : Bd N T n w v b cs) {C : Nat} (hC : v ≠ .pointer (some ⟨C, 0, none⟩)) (ds : Array Value) : Bd N T n (w.setRow C ds) v b cs := by
  obtain ⟨B, old, h1, h2, h3, h4, h5⟩ := h
  exact ⟨B, old, h1, h2, by rw [setRow_other w C B ds (fun e => hC (by rw [h1, e]))]; exact h3, h4, h5⟩
structure Inv (core : List Nat) (sz : Nat) (A : Value → Value → Value → Value → Act) (V1 V2 : Value) (cs1 cs2 : Array Value) (n : Nat) (T : TypeId) (N : Nat) (J : World → Prop) (c1 c2 p1 p2 s1 s2 : Nat) (L : Array Bool) (a : Act) (w : World) (v1 v2 v3 v4 : Value) : Prop where
  act : a = A v1 v2 v3 v4
  held : J w
  core : ∀ i, i < sz → L.getD i true = false → i ∈ core
  b1 : L.getD c1 true = true → v1 = V1
  b2 : L.getD c2 true = true → v2 = V2
  b3 : L.getD p1 true = true → Bd N T n w v3 (L.getD s1 true) cs1
  b4 : L.getD p2 true = true → Bd N T n w v4 (L.getD s2 true) cs2
  ne : L.getD p1 true = true → L.getD p2 true = true → v3 ≠ v4
  i1 : L.getD s1 true = true → L.getD p1 true = true
  i2 : L.getD s2 true = true → L.getD p2 true = true
theorem two_boxes {S : World → Prop} {A : Value → Value → Value → Value → Act} {V1 V2 : Value} {cs1 cs2 z : Array Value} {T : TypeId} {N : Nat} {J : World → Prop} {c1 c2 p1 p2 s1 s2 : Nat} {O1 O2 O3 O4 O5 O6 : Oper} {L0 : Array Bool} {fuel : Nat}
    (hT : upward md ops) (hd : [c1, c2, p1, p2, s1, s2].Nodup) (hL0 : L0.size = ops.size)
    (hcore : ∀ i, i < ops.size → L0.getD i true = false → i ∈ [c1, c2, p1, p2, s1, s2]) (hnot : ∀ i ∈ [c1, c2, p1, p2, s1, s2], L0.getD i true = false) (hf : open? L0.toList ≤ fuel)
    (o1 : ops[c1]? = some O1) (o2 : ops[c2]? = some O2) (o3 : ops[p1]? = some O3) (o4 : ops[p2]? = some O4) (o5 : ops[s1]? = some O5) (o6 : ops[s2]? = some O6)
    (g1 : O1.guard = none) (g2 : O2.guard = none) (g3 : O3.guard = none) (g4 : O4.guard = none) (g5 : O5.guard = none) (g6 : O6.guard = none)
    (e15 : ∃ e ∈ O5.after, Region.binds md e = true ∧ e.on = c1) (e35 : ∃ e ∈ O5.after, Region.binds md e = true ∧ e.on = p1)
    (e26 : ∃ e ∈ O6.after, Region.binds md e = true ∧ e.on = c2) (e46 : ∃ e ∈ O6.after, Region.binds md e = true ∧ e.on = p2)
    (C1 : ∀ v1 v2 v3 v4 w (K : Act → World → Prop), J w → (∀ w', Below w.heap.size w w' → K (A V1 v2 v3 v4) w') → O1.wp P (A v1 v2 v3 v4) w K Q)
    (C2 : ∀ v1 v2 v3 v4 w (K : Act → World → Prop), J w → (∀ w', Below w.heap.size w w' → K (A v1 V2 v3 v4) w') → O2.wp P (A v1 v2 v3 v4) w K Q)
    (P1 : ∀ v1 v2 v3 v4 w (K : Act → World → Prop), K (A v1 v2 (.pointer (some ⟨w.heap.size, 0, none⟩)) v4) (w.alloc (.cells z T)) → O3.wp P (A v1 v2 v3 v4) w K Q)
    (P2 : ∀ v1 v2 v3 v4 w (K : Act → World → Prop), K (A v1 v2 v3 (.pointer (some ⟨w.heap.size, 0, none⟩))) (w.alloc (.cells z T)) → O4.wp P (A v1 v2 v3 v4) w K Q)
    (S1 : ∀ v2 v4 B old w (K : Act → World → Prop), w.heap[B]? = some (.cells old T (0, 0)) → old.size = z.size → K (A V1 v2 (.pointer (some ⟨B, 0, none⟩)) v4) (w.setRow B cs1) → O5.wp P (A V1 v2 (.pointer (some ⟨B, 0, none⟩)) v4) w K Q)
    (S2 : ∀ v1 v3 B old w (K : Act → World → Prop), w.heap[B]? = some (.cells old T (0, 0)) → old.size = z.size → K (A v1 V2 v3 (.pointer (some ⟨B, 0, none⟩))) (w.setRow B cs2) → O6.wp P (A v1 V2 v3 (.pointer (some ⟨B, 0, none⟩))) w K Q)
    (hJS : ∀ w, J w → S w) (hz1 : cs1.size = z.size) (hz2 : cs2.size = z.size)
    (J1 : ∀ w w', J w → Below w.heap.size w w' → J w') (J2 : ∀ w B cs, J w → N ≤ B → J (w.setRow B cs)) (J3 : ∀ w, J w → N ≤ w.heap.size)
    (E : ∀ B1 B2 w, J w → N ≤ B1 → N ≤ B2 → B1 ≠ B2 → w.heap[B1]? = some (.cells cs1 T (0, 0)) → w.heap[B2]? = some (.cells cs2 T (0, 0)) → Q .normal (A V1 V2 (.pointer (some ⟨B1, 0, none⟩)) (.pointer (some ⟨B2, 0, none⟩))) w)
    {v1 v2 v3 v4 : Value} {w : World} (hJ : J w) : wpAnyH P md ops Q S fuel L0 (A v1 v2 v3 v4) w := by
  simp only [List.nodup_cons, List.mem_cons, List.not_mem_nil, or_false, not_or, List.nodup_nil, and_true, not_false_eq_true] at hd
  obtain ⟨⟨h12, h13, h14, h15, h16⟩, ⟨h23, h24, h25, h26⟩, ⟨h34, h35, h36⟩, ⟨h45, h46⟩, h56⟩ := hd
  have l1 := (Array.getElem?_eq_some_iff.1 o1).1
  have l2 := (Array.getElem?_eq_some_iff.1 o2).1
  have l3 := (Array.getElem?_eq_some_iff.1 o3).1
  have l4 := (Array.getElem?_eq_some_iff.1 o4).1
  have l5 := (Array.getElem?_eq_some_iff.1 o5).1
  have l6 := (Array.getElem?_eq_some_iff.1 o6).1
  refine wpAny_inv (I := fun L a w => ∃ v1 v2 v3 v4, Inv [c1, c2, p1, p2, s1, s2] ops.size A V1 V2 cs1 cs2 z.size T N J c1 c2 p1 p2 s1 s2 L a w v1 v2 v3 v4) hT (fun L a w ⟨_, _, _, _, h⟩ => hJS w h.held) ?_ ?_ fuel L0 _ w hL0 hf
    ⟨v1, v2, v3, v4, rfl, hJ, hcore, fun h => (by rw [hnot c1 (by simp)] at h; cases h), fun h => (by rw [hnot c2 (by simp)] at h; cases h), fun h => (by rw [hnot p1 (by simp)] at h; cases h), fun h => (by rw [hnot p2 (by simp)] at h; cases h), fun h => (by rw [hnot p1 (by simp)] at h; cases h), fun h => (by rw [hnot s1 (by simp)] at h; cases h), fun h => (by rw [hnot s2 (by simp)] at h; cases h)⟩
  · rintro L a w hs ⟨v1, v2, v3, v4, hI⟩ hall
    obtain ⟨B1, old1, e1, n1, q1, _, r1⟩ := hI.b3 (hall _ l3)
    obtain ⟨B2, old2, e2, n2, q2, _, r2⟩ := hI.b4 (hall _ l4)
    have hne := hI.ne (hall _ l3) (hall _ l4)
    rw [r1 (hall _ l5)] at q1
    rw [r2 (hall _ l6)] at q2
    rw [hI.act, hI.b1 (hall _ l1), hI.b2 (hall _ l2), e1, e2]
    exact E B1 B2 w hI.held n1 n2 (fun e => hne (by rw [e1, e2, e])) q1 q2
  · rintro L a w i hs ⟨v1, v2, v3, v4, hI⟩ hi
    obtain ⟨hi1, o, ho, haft⟩ := mem_ready.1 hi
    have hil := (Array.getElem?_eq_some_iff.1 ho).1
    have hc := hI.core i hil hi1
    have hcore' : ∀ j, j < ops.size → (L.setIfInBounds i true).getD j true = false → j ∈ [c1, c2, p1, p2, s1, s2] := fun j hj h => by
      rw [bit_set, Bool.or_eq_false_iff] at h
      exact hI.core j hj h.2
    have hlst : ∀ (O : Oper) (k : Nat), k < ops.size → ops[i]? = some O → (∃ e ∈ O.after, Region.binds md e = true ∧ e.on = k) → L.getD k true = true := fun O k hk hO ⟨e, he, hb, hon⟩ => by
      rw [ho] at hO
      cases hO
      have := haft e he hb
      rw [hon] at this
      rw [getD_eq (by omega) true false]; exact this
    rw [hI.act]
    simp only [List.mem_cons, List.not_mem_nil, or_false] at hc
    rcases hc with rfl | rfl | rfl | rfl | rfl | rfl
    · refine wpOp_step o1 fun K hK => ?_
      rw [if_pos (by simp [Region.wanted, g1])]
      refine C1 _ _ _ _ w K hI.held fun w' hb => hK _ _ ⟨V1, v2, v3, v4, rfl, J1 _ _ hI.held hb, hcore', fun _ => rfl, ?_, ?_, ?_, ?_, ?_, ?_⟩
      · simp only [bit_set, h12, decide_false, Bool.false_or]; exact hI.b2
      · simp only [bit_set, h13, h15, decide_false, Bool.false_or]; exact fun h => (hI.b3 h).below hb
      · simp only [bit_set, h14, h16, decide_false, Bool.false_or]; exact fun h => (hI.b4 h).below hb
      · simp only [bit_set, h13, h14, decide_false, Bool.false_or]; exact hI.ne
      · simp only [bit_set, h13, h15, decide_false, Bool.false_or]; exact hI.i1
      · simp only [bit_set, h14, h16, decide_false, Bool.false_or]; exact hI.i2
    · refine wpOp_step o2 fun K hK => ?_
      rw [if_pos (by simp [Region.wanted, g2])]
      refine C2 _ _ _ _ w K hI.held fun w' hb => hK _ _ ⟨v1, V2, v3, v4, rfl, J1 _ _ hI.held hb, hcore', ?_, fun _ => rfl, ?_, ?_, ?_, ?_, ?_⟩
      · simp only [bit_set, Ne.symm h12, decide_false, Bool.false_or]; exact hI.b1
      · simp only [bit_set, h23, h25, decide_false, Bool.false_or]; exact fun h => (hI.b3 h).below hb
      · simp only [bit_set, h24, h26, decide_false, Bool.false_or]; exact fun h => (hI.b4 h).below hb
      · simp only [bit_set, h23, h24, decide_false, Bool.false_or]; exact hI.ne
      · simp only [bit_set, h23, h25, decide_false, Bool.false_or]; exact hI.i1
      · simp only [bit_set, h24, h26, decide_false, Bool.false_or]; exact hI.i2
    · refine wpOp_step o3 fun K hK => ?_
      rw [if_pos (by simp [Region.wanted, g3])]
      have hb : Below w.heap.size w (w.alloc (.cells z T)) := (Below.refl _ _).alloc (Nat.le_refl _) _
      have hs1 : L.getD s1 true = false := by
        cases h : L.getD s1 true with
        | false => rfl
        | true => rw [hI.i1 h] at hi1; cases hi1
      refine P1 _ _ _ _ w K (hK _ _ ⟨v1, v2, _, v4, rfl, J1 _ _ hI.held hb, hcore', ?_, ?_, ?_, ?_, ?_, ?_, ?_⟩)
      · simp only [bit_set, Ne.symm h13, decide_false, Bool.false_or]; exact hI.b1
      · simp only [bit_set, Ne.symm h23, decide_false, Bool.false_or]; exact hI.b2
      · simp only [bit_set, h35, decide_false, Bool.false_or]
        exact fun _ => ⟨_, z, rfl, J3 _ hI.held, heap_alloc_new w _, rfl, fun h => by rw [hs1] at h; cases h⟩
      · simp only [bit_set, h34, h36, decide_false, Bool.false_or]; exact fun h => (hI.b4 h).below hb
      · simp only [bit_set, h34, decide_false, Bool.false_or]
        intro _ h4 e
        obtain ⟨B, old, e2, _, q, _, _⟩ := hI.b4 h4
        rw [e2] at e
        have := lt_of_heap q
        injection e with e
        injection e with e
        injection e with e
        omega
      · rw [bit_set, bit_set, decide_eq_true rfl, Bool.true_or]; exact fun _ => rfl
      · simp only [bit_set, h34, h36, decide_false, Bool.false_or]; exact hI.i2
    · refine wpOp_step o4 fun K hK => ?_
      rw [if_pos (by simp [Region.wanted, g4])]
      have hb : Below w.heap.size w (w.alloc (.cells z T)) := (Below.refl _ _).alloc (Nat.le_refl _) _
      have hs2 : L.getD s2 true = false := by
        cases h : L.getD s2 true with
        | false => rfl
        | true => rw [hI.i2 h] at hi1; cases hi1
      refine P2 _ _ _ _ w K (hK _ _ ⟨v1, v2, v3, _, rfl, J1 _ _ hI.held hb, hcore', ?_, ?_, ?_, ?_, ?_, ?_, ?_⟩)
      · simp only [bit_set, Ne.symm h14, decide_false, Bool.false_or]; exact hI.b1
      · simp only [bit_set, Ne.symm h24, decide_false, Bool.false_or]; exact hI.b2
      · simp only [bit_set, Ne.symm h34, h45, decide_false, Bool.false_or]; exact fun h => (hI.b3 h).below hb
      · simp only [bit_set, h46, decide_false, Bool.false_or]
        exact fun _ => ⟨_, z, rfl, J3 _ hI.held, heap_alloc_new w _, rfl, fun h => by rw [hs2] at h; cases h⟩
      · simp only [bit_set, Ne.symm h34, decide_false, Bool.false_or]
        intro h3 _ e
        obtain ⟨B, old, e2, _, q, _, _⟩ := hI.b3 h3
        rw [e2] at e
        have := lt_of_heap q
        injection e with e
        injection e with e
        injection e with e
        omega
      · simp only [bit_set, Ne.symm h34, h45, decide_false, Bool.false_or]; exact hI.i1
      · rw [bit_set, bit_set, decide_eq_true rfl, Bool.true_or]; exact fun _ => rfl
    · have k1 := hlst _ _ l1 o5 e15
      have k3 := hlst _ _ l3 o5 e35
      obtain ⟨B, old, e3, n3, q3, z3, _⟩ := hI.b3 k3
      rw [hI.b1 k1, e3]
      refine wpOp_step o5 fun K hK => ?_
      rw [if_pos (by simp [Region.wanted, g5])]
      refine S1 _ _ B old w K q3 z3 (hK _ _ ⟨V1, v2, _, v4, rfl, J2 _ _ _ hI.held n3, hcore', fun _ => rfl, ?_, ?_, ?_, ?_, ?_, ?_⟩)
      · simp only [bit_set, Ne.symm h25, decide_false, Bool.false_or]; exact hI.b2
      · exact fun _ => ⟨B, cs1, rfl, n3, setRow_heap w B old cs1 T _ q3, hz1, fun _ => rfl⟩
      · simp only [bit_set, Ne.symm h45, h56, decide_false, Bool.false_or]
        exact fun h => (hI.b4 h).far (fun e => hI.ne k3 h (by rw [e3, e])) _
      · simp only [bit_set, Ne.symm h35, Ne.symm h45, decide_false, Bool.false_or]
        intro h3 h4
        rw [← e3]; exact hI.ne h3 h4
      · simp only [bit_set, Ne.symm h35, decide_false, Bool.false_or]; exact fun _ => k3
      · simp only [bit_set, Ne.symm h45, h56, decide_false, Bool.false_or]; exact hI.i2
    · have k2 := hlst _ _ l2 o6 e26
      have k4 := hlst _ _ l4 o6 e46
      obtain ⟨B, old, e4, n4, q4, z4, _⟩ := hI.b4 k4
      rw [hI.b2 k2, e4]
      refine wpOp_step o6 fun K hK => ?_
      rw [if_pos (by simp [Region.wanted, g6])]
      refine S2 _ _ B old w K q4 z4 (hK _ _ ⟨v1, V2, v3, _, rfl, J2 _ _ _ hI.held n4, hcore', ?_, fun _ => rfl, ?_, ?_, ?_, ?_, ?_⟩)
      · simp only [bit_set, Ne.symm h16, decide_false, Bool.false_or]; exact hI.b1
      · simp only [bit_set, Ne.symm h36, Ne.symm h56, decide_false, Bool.false_or]
        exact fun h => (hI.b3 h).far (fun e => hI.ne h k4 (by rw [e4, e])) _
      · exact fun _ => ⟨B, cs2, rfl, n4, setRow_heap w B old cs2 T _ q4, hz2, fun _ => rfl⟩
      · simp only [bit_set, Ne.symm h36, Ne.symm h46, decide_false, Bool.false_or]
        intro h3 h4
        rw [← e4]; exact hI.ne h3 h4
      · simp only [bit_set, Ne.symm h36, Ne.symm h56, decide_false, Bool.false_or]; exact hI.i1
      · simp only [bit_set, Ne.symm h46, decide_false, Bool.false_or]; exact fun _ => k4
def upwardB (md : Region.Mode) (ops : Array Oper) : Bool := (List.range ops.size).all fun i => match ops[i]? with | some o => o.after.all (fun e => !Region.binds md e || decide (e.on < i)) | none => true
theorem upward_of {ops : Array Oper} (h : upwardB md ops = true) : upward md ops := fun i o ho e he hb => by
  have hl := (Array.getElem?_eq_some_iff.1 ho).1
  have := List.all_eq_true.1 h i (List.mem_range.2 hl)
  simp only [ho] at this
  have := Array.all_eq_true_iff_forall_mem.1 this e he
  rw [hb] at this
  simpa using this
def coreB (core : List Nat) (n : Nat) (L : Array Bool) : Bool := (List.range n).all fun i => L.getD i true || core.contains i
def freeB (core : List Nat) (L : Array Bool) : Bool := core.all fun i => !L.getD i true
def waitsB (md : Region.Mode) (O : Oper) (k : Nat) : Bool := O.after.any fun e => Region.binds md e && e.on == k
theorem core_of {core : List Nat} {n : Nat} {L : Array Bool} (h : coreB core n L = true) : ∀ i, i < n → L.getD i true = false → i ∈ core := fun i hi h0 => by
  have := List.all_eq_true.1 h i (List.mem_range.2 hi)
  rw [h0, Bool.false_or] at this
  simpa using this
theorem free_of {core : List Nat} {L : Array Bool} (h : freeB core L = true) : ∀ i ∈ core, L.getD i true = false := fun i hi => by
  have := List.all_eq_true.1 h i hi
  rw [Bool.not_eq_true'] at this
  exact this
theorem waits_of {O : Oper} {k : Nat} (h : waitsB md O k = true) : ∃ e ∈ O.after, Region.binds md e = true ∧ e.on = k := by
  obtain ⟨i, hi, hx⟩ := Array.any_eq_true.1 h
  rw [Bool.and_eq_true] at hx
  exact ⟨_, Array.getElem_mem hi, hx.1, by simpa using hx.2⟩
end
end Go.Proofs.YtaahdhpljlkfjaaGreat.Co

/- The boxes behind a whole store elsewhere. -/
namespace Go.Proofs.YtaahdhpljlkfjaaGreat.Rc
open Go.RowKit

theorem Bxs.row {w0 w1 : World} {l : List (Array Value × TypeId)} (h : Bxs w0 w1 l) {B n : Nat} (hB : w0.heap.size + n ≤ B) (cs : Array Value) (hn : l.length ≤ n := by simp) : Bxs w0 (w1.setRow B cs) l :=
  ⟨below_setRow h.bel (by omega) cs, fun j ds T hj => by
    have hjl := (List.getElem?_eq_some_iff.1 hj).1
    rw [setRow_other w1 B _ cs (by omega)]; exact h.blk j ds T hj⟩
theorem Bxs.top {w0 w1 : World} {l : List (Array Value × TypeId)} {c : Array Value × TypeId} (h : Bxs w0 w1 (c :: l)) : w0.heap.size + (l.length + 1) ≤ w1.heap.size := by
  have h1 : l.length < (c :: l).length := by simp
  have := h.blk l.length _ _ (List.getElem?_eq_getElem h1)
  have := lt_of_heap this
  omega
theorem costA_one (l : List Int) : (costA l).all (·.oneCell') = true := by simp [costA, Value.oneCell']
end Go.Proofs.YtaahdhpljlkfjaaGreat.Rc

/- What the document's guard says of a request. -/
namespace Go.Proofs.YtaahdhpljlkfjaaGreat.Rc
open Go.RowKit

set_option maxRecDepth 100000 in
theorem greatSpecUp_any (w : World) (v1 v2 : Value) (x : Spec) (h : IsSpec w v1 v2 x) :
    Calls Tryz.prog 16 #[.agg #[.string x.name, v1, v2]] w (SomeG (fun b => b = false → x.spans.length ≤ 30 ∧ x.sets.length ≤ 20) w) := by
  obtain ⟨A1, L1, c1, rfl⟩ := h.spans.sl
  obtain ⟨A2, L2, c2, rfl⟩ := h.sets.sl
  have HB := Lib.hid (below_alloc' w (.cells #[.string x.name, .slice A1 L1 c1, .slice A2 L2 c2] 59))
  have HX := Lib.hid (h.below HB.out (Nat.le_refl _))
  clear h
  go_enter Tryz.func16, Tryz.ntmps16
  go_wp2_with fail
  refine (greatSpec_any _ _ _ x HX.out).mono ?_
  rintro e w2 ⟨b, rfl, hb, hb2⟩
  have HB2 := Lib.hid (HB.out.trans (hb2.mono HB.out.size))
  have HQ := Lib.hid hb
  clear hb hb2
  go_wp2
  go_ret
  exact ⟨b, rfl, HQ.out, HB2.out⟩

def RootSmall (r : Root) : Prop := r.spec.spans.length ≤ 30 ∧ r.spec.sets.length ≤ 20
structure ReqSmall (q : List Root) : Prop where
  len : q.length ≤ 40
  each : ∀ r ∈ q, RootSmall r

set_option maxHeartbeats 1600000 in
set_option maxRecDepth 100000 in
theorem great08_any (w : World) (vq : Value) (q : List Root) (h : RowD rootK w vq q) :
    Calls Tryz.prog 6 #[.agg #[vq]] w (SomeG (fun b => b = false → ReqSmall q) w) := by
  obtain ⟨A, L, c, rfl⟩ := h.sl
  have hbx := Bxs.one w #[.slice A L c] 28
  have HX := Lib.hid hbx
  have HQ := Lib.hid h
  have HL := Lib.hid h.len
  have hc := h.cap
  clear h hbx
  by_cases hbig : 40 < L
  · go_enter Tryz.func6, Tryz.ntmps6
    go_wp2_with fail
    all_goals first
      | (go_ret; exact ⟨true, rfl, by simp, HX.out.bel⟩)
      | (exfalso; omega)
  · have e0 : ¬ (40 : Int) < (L : Int) := by omega
    go_enter Tryz.func6, Tryz.ntmps6
    go_wp2
    go_loopw [11] (fun i wr => ∃ k : Nat, k ≤ L ∧ i = .int .i64 k ∧ Hid (∀ j, j < k → RootSmall (nth q j)) ∧ Bxs w wr [(#[.slice A L c], 28)]) (fun i _ => L - (RowKit.intOf i).toNat)
    case atStart => exact ⟨0, Nat.zero_le _, rfl, Lib.hid (fun j hj => by omega), HX.out⟩
    case round =>
      clear HX
      obtain ⟨k, hk, rfl, hall, hx⟩ := hrel
      have HX := Lib.hid hx
      by_cases hlt : k < L
      · have x0 := hx.get0 0 (v := .slice A L c) rfl rfl
        obtain ⟨b, off, u1, u2, rfl, hb, hsp, hline, c0, c1, c2, c3⟩ := root_at (HQ.out.below hx.bel (Nat.le_refl _)) hlt
        have HSP := Lib.hid hsp
        clear hsp hx
        go_wp2_with fail
        refine (greatSpecUp_any _ _ _ _ HSP.out).mono ?_
        rintro e w2 ⟨b3, rfl, hb3, hb2⟩
        have HX2 := Lib.hid (HX.out.step hb2)
        clear hb2
        cases b3 with
        | true =>
          clear hb3
          go_wp2
          go_ret
          exact ⟨true, rfl, by simp, HX2.out.bel⟩
        | false =>
          have hn : Hid (∀ j, j < k + 1 → RootSmall (nth q j)) := Lib.hid (fun j hj => by
            by_cases e : j = k
            · rw [e]; exact hb3 rfl
            · exact hall.out j (by omega))
          clear hb3
          go_wp2
          go_roundw
          case rel => exact ⟨k + 1, by omega, by go_num, hn, HX2.out⟩
          case measure => simp [RowKit.intOf]; omega
      · obtain rfl : k = L := by omega
        have HALL := Lib.hid (show ReqSmall q from ⟨by rw [← HL.out]; omega, all_to (fun j hj => hall.out j (by rw [HL.out]; exact hj))⟩)
        clear hx
        go_wp2
        go_ret
        exact ⟨false, rfl, fun _ => HALL.out, HX.out.bel⟩
end Go.Proofs.YtaahdhpljlkfjaaGreat.Rc
