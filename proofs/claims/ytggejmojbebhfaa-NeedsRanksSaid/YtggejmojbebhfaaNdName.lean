/- One name of the closure: what it may be is met, and is to be worked on. -/
import Derived.Test.YtggejmojbebhfaaNdTargets
import Derived.Test.YtggejmojbebhfaaNdTail
namespace Go.Proofs.Ytggejmojbebhfaa.Rc
open Go.RowKit Go.Maps

/-- The closure's own blocks: the recipe, the request, the set, its box, the box of what is to be worked on. -/
structure St (w0 w : World) (v1 v2 vq : Value) (met : List Int) (v : Value) (work : List Int) : Prop where
  bel : Below w0.heap.size w0 w
  b0 : w.heap[w0.heap.size]? = some (.cells #[v1, v2] 25 (0, 0))
  b1 : w.heap[w0.heap.size + 1]? = some (.cells #[vq] 37 (0, 0))
  set : SetI w (w0.heap.size + 2) met
  b3 : w.heap[w0.heap.size + 3]? = some (.cells #[.map (some (w0.heap.size + 2))] 87 (0, 0))
  b4 : w.heap[w0.heap.size + 4]? = some (.cells #[v] 31 (0, 0))
  tail : TailI w w0.heap.size v work
section
variable {w0 w : World} {v1 v2 vq v : Value} {met work : List Int}
theorem St.step {w' : World} (h : St w0 w v1 v2 vq met v work) (hb : Below w.heap.size w w') : St w0 w' v1 v2 vq met v work :=
  ⟨h.bel.trans (hb.mono h.bel.size), heap_below h.b0 hb, heap_below h.b1 hb, h.set.below hb, heap_below h.b3 hb, heap_below h.b4 hb, h.tail.below hb⟩
theorem St.alloc (h : St w0 w v1 v2 vq met v work) (o : Obj) : St w0 (w.alloc o) v1 v2 vq met v work := h.step (below_alloc' w o)
theorem St.drew (h : St w0 w v1 v2 vq met v work) : St w0 w.drew v1 v2 vq met v work := h.step ⟨rfl, rfl, rfl, Nat.le_refl _, fun _ _ => rfl⟩
theorem St.insert {w1 : World} {D : DataW Unit} {x : Int} (h : St w0 w v1 v2 vq met v work) (X : Obj) (hC : CollectedI D (fun _ => false) met) (hI : IsMap D) (hx : (Lit.int .i64 x).wf = true) (hn : x ∉ met)
    (hown : w1.ownsMap Try.prog 3 unitElem (w0.heap.size + 2) (met.length + 1) (D.put (.int .i64 x) (.agg []))) (hg : (w.alloc X).grownBy w1 (some (w0.heap.size + 2))) : St w0 w1 v1 v2 vq (met ++ [x]) v work := by
  have ha := h.alloc X
  have ht : Touch (w.alloc X) w1 (fun i => i = w0.heap.size + 2) := Touch.of_grown hg (fun i e => by cases e; rfl)
  obtain ⟨es, cl, hm⟩ := ha.set.map
  refine ⟨ha.bel.grown hg ha.bel.size (fun k e => by cases e; omega), heap_touch ha.b0 ht (by omega), heap_touch ha.b1 ht (by omega), SetI.put hC hx hn hI hown, heap_touch ha.b3 ht (by omega), heap_touch ha.b4 ht (by omega), ha.tail.touch ht (fun g e e2 => ?_)⟩
  subst e2
  exact ha.tail.apart_map hm e
theorem St.push {w3 : World} {x : Int} {v' : Value} (h : St w0 w v1 v2 vq met v work) (X : Obj) (hg : (w.alloc X).grownBy w3 v.ownBlock) (ht : TailI w3 w0.heap.size v' (work ++ [x])) :
    St w0 (w3.setCell ⟨w0.heap.size + 4, 0, none⟩ v') v1 v2 vq met v' (work ++ [x]) ∧ w3.heap[w0.heap.size + 4]? = some (.cells #[v] 31 (0, 0)) ∧
      Touch w (w3.setCell ⟨w0.heap.size + 4, 0, none⟩ v') (fun i => i = w0.heap.size + 4 ∨ v.ownBlock = some i) := by
  have ha := h.alloc X
  obtain ⟨es, cl, hm⟩ := ha.set.map
  have a0 := ha.tail.apart ha.b0 (by decide)
  have a1 := ha.tail.apart ha.b1 (by decide)
  have a2 := ha.tail.apart_map hm
  have a3 := ha.tail.apart ha.b3 (by decide)
  have a4 := ha.tail.apart ha.b4 (by decide)
  have e0 := heap_grown ha.b0 hg (Ne.symm a0)
  have e1 := heap_grown ha.b1 hg (Ne.symm a1)
  have e3 := heap_grown ha.b3 hg (Ne.symm a3)
  have e4 := heap_grown ha.b4 hg (Ne.symm a4)
  have es' := ha.set.touch (Touch.of_grown (S := fun i => v.ownBlock = some i) hg (fun i e => e)) a2
  have hs := cells_set e4 0 v'
  have tt : Touch w3 (w3.setCell ⟨w0.heap.size + 4, 0, none⟩ v') (fun i => i = w0.heap.size + 4) := (Touch.refl w3 _).set _ 0 v' rfl
  refine ⟨⟨?_, heap_set_far e0 (by omega), heap_set_far e1 (by omega), es'.touch tt (by omega), heap_set_far e3 (by omega), by simpa using hs, ht.touch tt (fun g e e2 => ?_)⟩, e4, ?_⟩
  · refine ((ha.bel.grown hg ha.bel.size (fun k e => (ha.tail.lt k e).1))).grown (grown_set w3 _ 0 v') ?_ (fun k e => by cases e; omega)
    have := hg.size
    have := ha.bel.size
    omega
  · subst e2
    exact ht.apart e4 (by decide) e
  · have t1 : Touch w w3 (fun i => i = w0.heap.size + 4 ∨ v.ownBlock = some i) := ((Touch.refl w _).alloc X).trans (Touch.of_grown hg (S := fun i => i = w0.heap.size + 4 ∨ v.ownBlock = some i) (fun i e => .inr e)) (fun _ _ h => h)
    exact t1.set _ 0 v' (.inl rfl)
end
theorem wpList_app_tail {ops : Array Oper} {rest : List Oper} {o : Oper} {a : Act} {Q : Exit → Act → World → Prop} (hgd : o.guard = none) (s y : Operand)
    (ho : o.op = .call { callee := .builtin .append, args := #[s, y], argTypes := #[31, 31] }) (hty : o.type = 31)
    {w : World} {base X : Nat} {v : Value} {x : Int} {l : List Int} (hs : a.eval s = v) (hx : a.eval y = .slice (some ⟨X, 0, none⟩) 1 1) (hown : TailI w base v l)
    (hX : w.heap[X]? = some (.cells #[.int .i64 x] 3 (0, 0))) (hl : l.length ≤ 200000) (hbase : base ≤ w.heap.size)
    (hK : ∀ A' L' c' w', TailI w' base (.slice A' L' c') (l ++ [x]) → w.grownBy w' v.ownBlock → ((Value.slice A' L' c').ownBlock = v.ownBlock ∨ ∃ g, (Value.slice A' L' c').ownBlock = some g ∧ w.heap.size ≤ g) →
      wpList Try.prog ops Q rest (a.put o.dst (.slice A' L' c')) w') : wpList Try.prog ops Q (o :: rest) a w := by
  refine wpList_plain hgd fun K hK' => ?_
  obtain ⟨A, n, c, w', hrun, r1, r2, r3⟩ := run_app_tail w base v l x X hown hX hl hbase
  unfold Oper.wp
  simp [execOp, ho, hty, resolve, invoke, builtin, hs, hx, hrun, Result.andThen]
  exact hK' _ _ (hK A n c w' r1 r2 r3)
theorem len_of_range {n : Nat} {l : List Int} (hn : l.Nodup) (h : ∀ t ∈ l, 0 ≤ t ∧ t < n) : l.length ≤ n := by
  refine Nat.le_trans (List.Nodup.length_le_of_subset hn (l₂ := (List.range n).map fun (i : Nat) => (i : Int)) fun t ht => ?_) (by simp)
  have := h t ht
  rw [List.mem_map]
  exact ⟨t.toNat, by rw [List.mem_range]; omega, by omega⟩
theorem int_at {w : World} {A : Option Addr} {L c : Nat} {l : List Int} (h : RowD intK w (.slice A L c) l) {j : Nat} (hj : j < L) :
    ∃ b off, A = some ⟨b, off, none⟩ ∧ b < w.heap.size ∧ (Lit.int .i64 (nth l j)).wf = true ∧ w.cell? ⟨b, off + j, none⟩ = some (.int .i64 (nth l j)) := by
  obtain ⟨b, off, cs, ha, hb, ⟨rfl, h1⟩, hc⟩ := h.at hj
  exact ⟨b, off, ha, hb, h1, by have := hc 0 (by decide); rw [show intK.n = 1 from rfl, Nat.mul_one] at this; exact this⟩
theorem wf_small {t : Int} (h : 0 ≤ t) (h2 : t < 100000) : (Lit.int .i64 t).wf = true := WalkArith.wf_i64 (by omega)

set_option maxRecDepth 100000 in
set_option maxHeartbeats 3200000 in
theorem name_any (w0 w : World) (v1 v2 vq v : Value) (met work : List Int) (x : Rec) (s : ByteArray) (u1 u2 : Value) (h : St w0 w v1 v2 vq met v work) (hr : IsRec w0 v1 v2 x) (hl : x.pkgs.length ≤ 1000)
    (hn : met.Nodup) (hm : ∀ t ∈ met, 0 ≤ t ∧ t < x.pkgs.length) (hwk : work.length ≤ met.length) (hu1 : ∃ A L c, u1 = .slice A L c) (hu2 : ∃ A L c, u2 = .slice A L c) :
    Calls Try.prog 55 #[.agg #[.string s, u1, u2], .pointer (some ⟨w0.heap.size, 0, none⟩), .pointer (some ⟨w0.heap.size + 3, 0, none⟩), .pointer (some ⟨w0.heap.size + 4, 0, none⟩)] w fun e w' =>
      e = .returned (.tuple #[]) ∧ ∃ v' ext, addAll met (targs x s) = met ++ ext ∧ St w0 w' v1 v2 vq (met ++ ext) v' (work ++ ext) := by
  obtain ⟨A1, L1, c1, rfl⟩ := hu1
  obtain ⟨A2, L2, c2, rfl⟩ := hu2
  obtain ⟨a1, n1, k1, rfl⟩ := hr.pkgs.sl
  obtain ⟨a2, n2, k2, rfl⟩ := hr.prefs.sl
  have h1 := h.alloc (.cells #[.string s, .slice A1 L1 c1, .slice A2 L2 c2] 73)
  have HB := Lib.hid h.bel.size
  have hb := heap_alloc_new w (.cells #[.string s, .slice A1 L1 c1, .slice A2 L2 c2] 73)
  have e0 := cells_get h1.b0 0 (v := .slice a1 n1 k1) rfl
  have e1 := cells_get h1.b0 1 (v := .slice a2 n2 k2) rfl
  have HS1 := Lib.hid h1
  have HR := Lib.hid (hr.below h1.bel (Nat.le_refl _))
  have HL := Lib.hid hl
  have HN := Lib.hid hn
  have HM := Lib.hid hm
  have HWK := Lib.hid hwk
  clear h hb h1 hr hl hn hm hwk
  go_enter Try.func55, Try.ntmps55
  go_wp2_with fail
  refine (targets_any _ _ _ x s HR.out HL.out).mono ?_
  rintro e w2 ⟨T, n, c, rfl, hown, hb⟩
  have HS2 := Lib.hid (HS1.out.step hb)
  have HLN := Lib.hid hown.len
  have HAP := Lib.hid (show ∀ g, v.ownBlock = some g → (Value.slice T n c).ownBlock ≠ some g from fun g e e2 => by
    have i1 := (HS1.out.tail.lt g e).2
    have i2 := (hown.lt g e2).1
    omega)
  generalize hB0 : (w.alloc (.cells #[.string s, .slice A1 L1 c1, .slice A2 L2 c2] 73)).heap.size = B0 at hown
  have HO2 := Lib.hid hown
  have hnb : n ≤ 1001 := by have := targs_len x s; have := HL.out; have := HLN.out; omega
  clear hb hown e0 e1
  go_wp2
  go_loopw [14] (fun i wr => ∃ (k : Nat) (v' : Value) (ext : List Int), k ≤ n ∧ i = .int .i64 k ∧ Hid (addAll met ((targs x s).take k) = met ++ ext) ∧ St w0 wr (.slice a1 n1 k1) (.slice a2 n2 k2) vq (met ++ ext) v' (work ++ ext) ∧
    OwnI wr B0 (.slice T n c) (targs x s) ∧ Hid (∀ g, v'.ownBlock = some g → (Value.slice T n c).ownBlock ≠ some g)) (fun i _ => n - (RowKit.intOf i).toNat)
  case atStart => exact ⟨0, v, [], Nat.zero_le _, rfl, Lib.hid (by simp [addAll]), by simpa using HS2.out, HO2.out, HAP⟩
  case round =>
    clear HS2 HO2 HAP HS1 HR
    obtain ⟨k, v', ext, hk, rfl, HA, hst, hown, HAP⟩ := hrel
    have HS := Lib.hid hst
    have HO := Lib.hid hown
    by_cases hlt : k < n
    · have hkl : k < (targs x s).length := by rw [← HLN.out]; exact hlt
      have HSN := Lib.hid (addAll_snoc (m := met) hkl)
      obtain ⟨t, ht⟩ : ∃ t, nth (targs x s) k = t := ⟨_, rfl⟩
      have hrg := targs_range (ht ▸ nth_mem hkl)
      have hall : ∀ y ∈ met ++ ext, 0 ≤ y ∧ y < x.pkgs.length := fun y hy => by
        rw [← HA.out, addAll_mem] at hy
        rcases hy with hy | hy
        · exact HM.out y hy
        · exact targs_range (List.mem_of_mem_take hy)
      have hmn : (met ++ ext).Nodup := by rw [← HA.out]; exact addAll_nodup _ HN.out
      have HML := Lib.hid (len_of_range hmn hall)
      have hwf : (Lit.int .i64 t).wf = true := wf_small hrg.1 (by have := HL.out; omega)
      have HWF := Lib.hid hwf
      obtain ⟨b, off, rfl, hb, _, c0⟩ := int_at (hown.row (K := intK) rfl (fun y hy => ⟨rfl, wf_small (targs_range hy).1 (by have := HL.out; have := (targs_range hy).2; omega)⟩)) hlt
      rw [ht] at c0
      have l2 := cells_get hst.b3 0 (v := .map (some (w0.heap.size + 2))) rfl
      have hlook := hst.set.look hwf
      obtain ⟨q, hq⟩ : ∃ q, decide (t ∈ met ++ ext) = q := ⟨_, rfl⟩
      have HQ := Lib.hid hq
      rw [hq] at hlook
      rw [ht] at HSN
      clear hst hown hq hmn hall hwf
      cases q with
      | true =>
        go_wp2
        go_roundw
        case rel => exact ⟨k + 1, v', ext, by omega, by go_num, Lib.hid (by rw [HSN.out, HA.out, add1_yes (by simpa using HQ.out)]), HS.out.alloc _, HO.out.alloc _, HAP⟩
        case measure => simp [RowKit.intOf]; omega
      | false =>
        obtain ⟨D, hD, hC⟩ := HS.out.set
        obtain ⟨A', n', c', rfl⟩ := HS.out.tail.sl
        have HC := Lib.hid hC
        have hDa := hD.alloc (.cells #[] 88)
        have hx : t ∉ met ++ ext := by simpa using HQ.out
        have HX := Lib.hid hx
        have hkey := keyOf_int_mk Try.underlying3 HWF.out
        have HI := Lib.hid (hD.isMap)
        have l3 := cell_alloc_l (.cells #[] 88) l2
        have HWE := Lib.hid (show (work ++ ext).length ≤ 1000 by
          have h1 := HML.out
          have h2 := HL.out
          have h3 := HWK.out
          rw [List.length_append] at h1 ⊢
          omega)
        clear hD hC hx
        go_wp2_with (first | (at_mapUpdate; refine wpList_mapUpdate_own _ rfl _ _ _ 87 rfl 3 88 (int_keyed Try.underlying3) Try.underlying87 _ (w0.heap.size + 2) (met ++ ext).length D rfl hDa (by unfold maxLen; have := HML.out; have := HL.out; omega) _ _ (.int .i64 t) rfl rfl hkey (.agg []) [] unitElem_mk ?_; intro w5 hown5 hgrow5; have HST := Lib.hid (HS.out.insert _ HC.out HI.out HWF.out HX.out hown5 hgrow5); have HG5 := Lib.hid hgrow5; have c4 := cells_get HST.out.b4 0 (v := .slice A' n' c') rfl; clear hown5 hgrow5) | (at_builtin; refine wpList_app_tail rfl (.tmp 29) (.tmp 31) rfl rfl (base := w0.heap.size) (X := w5.heap.size) (x := t) (l := work ++ ext) rfl rfl (HST.out.tail.below (below_alloc' _ _)) (heap_alloc_new _ _) (Nat.le_trans HWE.out (by omega)) (Nat.le_trans HST.out.bel.size (by simp)) ?_; intro A3 n3 c3 w6 htail6 hgrow6 hblk6; have HP := Lib.hid (HST.out.push _ hgrow6 htail6); have HG6 := Lib.hid hgrow6; have HB6 := Lib.hid hblk6; have c5 := cells_get HP.out.2.1 0 (v := .slice A' n' c') rfl; have f5 := cells_free HP.out.2.1 0; clear htail6 hgrow6 hblk6))
        go_roundw
        case rel =>
          have hoa := HO.out.alloc (.cells #[] 88)
          obtain ⟨es, cl, hmap⟩ := (HS.out.alloc (.cells #[] 88)).set.map
          have h5 : OwnI w5 B0 (.slice (some ⟨b, off, none⟩) n c) (targs x s) := hoa.touch (Touch.of_grown (S := fun i => i = w0.heap.size + 2) HG5.out (fun i e => by cases e; rfl)) (fun g e e2 => own_apart_map hoa hmap (e2 ▸ e))
          refine ⟨k + 1, _, ext ++ [t], by omega, by go_num, Lib.hid (by rw [HSN.out, HA.out, add1_no HX.out, List.append_assoc]), by simpa using HP.out.1, h5.touch HP.out.2.2 (fun g e e2 => ?_), Lib.hid fun g e e2 => ?_⟩
          · rcases e2 with rfl | e2
            · exact own_apart h5 HST.out.b4 (by decide) e
            · exact HAP.out g e2 e
          · rcases HB6.out with e3 | ⟨g', e3, hge⟩
            · exact HAP.out g (e3 ▸ e) e2
            · rw [e] at e3
              cases e3
              have := (h5.lt g e2).2
              simp at hge
              omega
        case measure => simp [RowKit.intOf]; omega
    · obtain rfl : k = n := by omega
      clear hst hown
      go_wp2
      go_end0
      exact ⟨rfl, v', ext, by rw [← HA.out, HLN.out, List.take_length], HS.out⟩
end Go.Proofs.Ytggejmojbebhfaa.Rc
