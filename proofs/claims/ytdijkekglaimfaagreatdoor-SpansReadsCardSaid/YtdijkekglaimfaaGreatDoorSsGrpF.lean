/- Are two rows of spans the same? (slices.Equal) -/
import Derived.Test.YtdijkekglaimfaaGreatDoorSsGrpB
import Derived.Test.YtdijkekglaimfaaGreatDoorSpan3
import Derived.Deep.CutRange
import Derived.Test.YtdijkekglaimfaaGreatDoorSsGrpE
import Derived.Test.YtdijkekglaimfaaGreatDoorRcDat
import Derived.Test.YtdijkekglaimfaaGreatDoorRows
import Derived.Lib.SmallJoins
namespace Go.Proofs.YtdijkekglaimfaaGreatDoor.Ver
open Go.RowKit Rc

set_option maxRecDepth 100000 in
theorem equal_is (w : World) (v1 v2 : Value) (l1 l2 : List Spn) (h1 : RowD setK w v1 l1) (h2 : RowD setK w v2 l2) (b : Bool) (hb : decide (l1 = l2) = b) :
    Calls Tryz.prog 12 #[v1, v2] w fun e w' => e = .returned (.bool b) ∧ Below w.heap.size w w' := by
  obtain ⟨A1, L1, c1, rfl⟩ := h1.sl
  obtain ⟨A2, L2, c2, rfl⟩ := h2.sl
  have H1 := Lib.hid h1
  have H2 := Lib.hid h2
  have HL1 := Lib.hid h1.len
  have HL2 := Lib.hid h2.len
  have hc1 := h1.cap
  have hc2 := h2.cap
  have HB := Lib.hid hb
  have HB0 := Lib.hid (Below.refl w.heap.size w)
  clear h1 h2 hb
  by_cases hne : L1 = L2
  · subst hne
    have g1 : ((L1 : Int) != (L1 : Int)) = false := by simp
    go_enter Tryz.func12, Tryz.ntmps12
    go_wp2
    go_loopw [13] (fun i wr => ∃ k : Nat, k ≤ L1 ∧ i = .int .i64 k ∧ Hid (l1.take k = l2.take k) ∧ Hid (Below w.heap.size w wr)) (fun i _ => L1 - (RowKit.intOf i).toNat)
    case atStart => exact ⟨0, Nat.zero_le _, rfl, Lib.hid rfl, HB0⟩
    case round =>
      obtain ⟨k, hk, rfl, HN, HW⟩ := hrel
      by_cases hlt : k < L1
      · obtain ⟨b1, off1, rfl, _, _, _, c0, c1'⟩ := spn_at (H1.out.below HW.out (Nat.le_refl _)) hlt
        obtain ⟨b2, off2, rfl, _, _, _, d0, d1⟩ := spn_at (H2.out.below HW.out (Nat.le_refl _)) hlt
        have k1 : k < l1.length := by rw [← HL1.out]; exact hlt
        have k2 : k < l2.length := by rw [← HL2.out]; exact hlt
        obtain ⟨s, hs⟩ : ∃ s, Rc.nth l1 k = s := ⟨_, rfl⟩
        obtain ⟨t, ht⟩ : ∃ t, Rc.nth l2 k = t := ⟨_, rfl⟩
        rw [hs] at c0 c1'
        rw [ht] at d0 d1
        have HS := Lib.hid (Rc.take_snoc k1)
        have HT := Lib.hid (Rc.take_snoc k2)
        have HE1 := Lib.hid hs
        have HE2 := Lib.hid ht
        have HNE := Lib.hid (show l1 = l2 → s = t from fun e => by rw [← hs, ← ht, e])
        obtain ⟨lo, hi⟩ := s
        obtain ⟨lo2, hi2⟩ := t
        clear hs ht k1 k2
        have g0 : (0 : Int) ≤ (k : Int) := by omega
        have g1 : (k : Int) < (L1 : Int) := by omega
        by_cases e1 : lo = lo2
        · by_cases e2 : hi = hi2
          · subst e1 e2
            have HV := Lib.hid (show l1.take (k + 1) = l2.take (k + 1) by rw [HS.out, HT.out, HN.out, HE1.out, HE2.out])
            go_wp2_with fail
            go_region
            all_goals
              go_wp2
              go_roundw
              case rel => exact ⟨k + 1, by omega, by go_num, HV, Lib.hid HW.out.drew⟩
              case measure => simp [RowKit.intOf]; omega
          · have f2 : (hi.toList == hi2.toList) = false := by rw [beq_eq_false_iff_ne]; intro e; exact e2 (toList_eq.1 e)
            have HV := Lib.hid (show b = false by rw [← HB.out]; exact decide_eq_false fun e => e2 (congrArg Prod.snd (HNE.out e)))
            have f3 : ¬ hi.toList = hi2.toList := fun e => e2 (toList_eq.1 e)
            go_wp2_with fail
            go_region
            all_goals
              go_wp2
              go_ret
              exact ⟨retB HV.out.symm, HW.out.drew⟩
        · have HV := Lib.hid (show b = false by rw [← HB.out]; exact decide_eq_false fun e => e1 (congrArg Prod.fst (HNE.out e)))
          have f2 : (lo.toList == lo2.toList) = false := by rw [beq_eq_false_iff_ne]; intro e; exact e1 (toList_eq.1 e)
          have f3 : ¬ lo.toList = lo2.toList := fun e => e1 (toList_eq.1 e)
          go_wp2_with fail
          go_region
          all_goals
            go_wp2
            go_ret
            exact ⟨retB HV.out.symm, HW.out.drew⟩
      · obtain rfl : k = L1 := by omega
        have HV := Lib.hid (show b = true by
          rw [← HB.out]
          have h0 := HN.out
          have e1 := List.take_length (l := l1)
          rw [← HL1.out] at e1
          have e2 := List.take_length (l := l2)
          rw [← HL2.out] at e2
          rw [e1, e2] at h0
          exact decide_eq_true h0)
        go_wp2
        go_ret
        exact ⟨retB HV.out.symm, HW.out⟩
  · have g1 : ((L1 : Int) != (L2 : Int)) = true := by simp; omega
    have g2 : ¬ (L1 : Int) = (L2 : Int) := by omega
    have HV := Lib.hid (show b = false by rw [← HB.out]; exact decide_eq_false fun e => hne (by rw [HL1.out, HL2.out, e]))
    go_enter Tryz.func12, Tryz.ntmps12
    go_wp2
    go_ret
    exact ⟨retB HV.out.symm, HB0.out⟩
end Go.Proofs.YtdijkekglaimfaaGreatDoor.Ver

/- spans.Same: the forms of two sets. -/
namespace Go.Proofs.YtdijkekglaimfaaGreatDoor.Sq
open Go.RowKit Rc Ver Ss

end Go.Proofs.YtdijkekglaimfaaGreatDoor.Sq

/- Are two rows of spans the same? (the document's) -/
namespace Go.Proofs.YtdijkekglaimfaaGreatDoor.Ver
open Go.RowKit Rc

set_option maxRecDepth 100000 in
theorem refSame_is (w : World) (v1 v2 : Value) (l1 l2 : List Spn) (h1 : RowD setK w v1 l1) (h2 : RowD setK w v2 l2) (b : Bool) (hb : decide (l1 = l2) = b) :
    Calls Tryz.prog 7 #[v1, v2] w fun e w' => e = .returned (.bool b) ∧ Below w.heap.size w w' := by
  obtain ⟨A1, L1, c1, rfl⟩ := h1.sl
  obtain ⟨A2, L2, c2, rfl⟩ := h2.sl
  have H1 := Lib.hid h1
  have H2 := Lib.hid h2
  have HL1 := Lib.hid h1.len
  have HL2 := Lib.hid h2.len
  have hc1 := h1.cap
  have hc2 := h2.cap
  have HB := Lib.hid hb
  have HB0 := Lib.hid (Below.refl w.heap.size w)
  clear h1 h2 hb
  by_cases hne : L1 = L2
  · subst hne
    have g1 : ((L1 : Int) != (L1 : Int)) = false := by simp
    go_enter Tryz.func7, Tryz.ntmps7
    go_wp2
    go_loopw [13] (fun i wr => ∃ k : Nat, k ≤ L1 ∧ i = .int .i64 k ∧ Hid (l1.take k = l2.take k) ∧ Hid (Below w.heap.size w wr)) (fun i _ => L1 - (RowKit.intOf i).toNat)
    case atStart => exact ⟨0, Nat.zero_le _, rfl, Lib.hid rfl, HB0⟩
    case round =>
      obtain ⟨k, hk, rfl, HN, HW⟩ := hrel
      by_cases hlt : k < L1
      · obtain ⟨b1, off1, rfl, _, _, _, c0, c1'⟩ := spn_at (H1.out.below HW.out (Nat.le_refl _)) hlt
        obtain ⟨b2, off2, rfl, _, _, _, d0, d1⟩ := spn_at (H2.out.below HW.out (Nat.le_refl _)) hlt
        have k1 : k < l1.length := by rw [← HL1.out]; exact hlt
        have k2 : k < l2.length := by rw [← HL2.out]; exact hlt
        obtain ⟨s, hs⟩ : ∃ s, Rc.nth l1 k = s := ⟨_, rfl⟩
        obtain ⟨t, ht⟩ : ∃ t, Rc.nth l2 k = t := ⟨_, rfl⟩
        rw [hs] at c0 c1'
        rw [ht] at d0 d1
        have HS := Lib.hid (Rc.take_snoc k1)
        have HT := Lib.hid (Rc.take_snoc k2)
        have HE1 := Lib.hid hs
        have HE2 := Lib.hid ht
        have HNE := Lib.hid (show l1 = l2 → s = t from fun e => by rw [← hs, ← ht, e])
        obtain ⟨lo, hi⟩ := s
        obtain ⟨lo2, hi2⟩ := t
        clear hs ht k1 k2
        have g0 : (0 : Int) ≤ (k : Int) := by omega
        have g1 : (k : Int) < (L1 : Int) := by omega
        by_cases e1 : lo = lo2
        · by_cases e2 : hi = hi2
          · subst e1 e2
            have HV := Lib.hid (show l1.take (k + 1) = l2.take (k + 1) by rw [HS.out, HT.out, HN.out, HE1.out, HE2.out])
            go_wp2_with fail
            go_region
            all_goals
              go_wp2
              go_roundw
              case rel => exact ⟨k + 1, by omega, by go_num, HV, Lib.hid HW.out.drew⟩
              case measure => simp [RowKit.intOf]; omega
          · have f2 : (hi.toList == hi2.toList) = false := by rw [beq_eq_false_iff_ne]; intro e; exact e2 (toList_eq.1 e)
            have HV := Lib.hid (show b = false by rw [← HB.out]; exact decide_eq_false fun e => e2 (congrArg Prod.snd (HNE.out e)))
            have f3 : ¬ hi.toList = hi2.toList := fun e => e2 (toList_eq.1 e)
            go_wp2_with fail
            go_region
            all_goals
              go_wp2
              go_ret
              exact ⟨retB HV.out.symm, HW.out.drew⟩
        · have HV := Lib.hid (show b = false by rw [← HB.out]; exact decide_eq_false fun e => e1 (congrArg Prod.fst (HNE.out e)))
          have f2 : (lo.toList == lo2.toList) = false := by rw [beq_eq_false_iff_ne]; intro e; exact e1 (toList_eq.1 e)
          have f3 : ¬ lo.toList = lo2.toList := fun e => e1 (toList_eq.1 e)
          go_wp2_with fail
          go_region
          all_goals
            go_wp2
            go_ret
            exact ⟨retB HV.out.symm, HW.out.drew⟩
      · obtain rfl : k = L1 := by omega
        have HV := Lib.hid (show b = true by
          rw [← HB.out]
          have h0 := HN.out
          have e1 := List.take_length (l := l1)
          rw [← HL1.out] at e1
          have e2 := List.take_length (l := l2)
          rw [← HL2.out] at e2
          rw [e1, e2] at h0
          exact decide_eq_true h0)
        go_wp2
        go_ret
        exact ⟨retB HV.out.symm, HW.out⟩
  · have g1 : ((L1 : Int) != (L2 : Int)) = true := by simp; omega
    have g2 : ¬ (L1 : Int) = (L2 : Int) := by omega
    have HV := Lib.hid (show b = false by rw [← HB.out]; exact decide_eq_false fun e => hne (by rw [HL1.out, HL2.out, e]))
    go_enter Tryz.func7, Tryz.ntmps7
    go_wp2
    go_ret
    exact ⟨retB HV.out.symm, HB0.out⟩
end Go.Proofs.YtdijkekglaimfaaGreatDoor.Ver

/- Arguments that are rows of spans, or of texts, opened. (Out of rec/XRcOpen.lean.) -/
namespace Go.Proofs.YtdijkekglaimfaaGreatDoor.Rc
open Go.RowKit Go.ChangeShapes Go.WideShapes Go.Deep Go.Joins

theorem len1 {α : Type} {l : List α} (h : l.length = 1) : ∃ a0, l = [a0] := by
  match l, h with
  | [a0], _ => exact ⟨a0, rfl⟩
theorem len2 {α : Type} {l : List α} (h : l.length = 2) : ∃ a0 a1, l = [a0, a1] := by
  match l, h with
  | [a0, a1], _ => exact ⟨a0, a1, rfl⟩
section
variable {H : Type} {enc : TypeId × Value → H} {W : World} {base : Nat} {spare : Nat → Bool} {held : Bool}
theorem open_strs {fuel : Nat} {cs : List Value} {x : DataW H × List MemPlace} (h : DataW.trod enc Tryz.prog W base spare held fuel 32 cs = some x) : ∃ A len cap l, cs = [.slice A len cap] ∧ RowD strK W (.slice A len cap) l :=
  open_row Tryz.underlying32 (by kernel_rfl) (by decide) (fun h => open_str Tryz.underlying9 h) h

theorem open_span {fuel : Nat} {cs : List Value} {x : DataW H × List MemPlace} (h : DataW.trod enc Tryz.prog W base spare held fuel 31 cs = some x) : ∃ x, setK.is W cs x := by
  obtain ⟨xs, n', _, _, hl, hlen, hf⟩ := DataW.trod_struct Tryz.underlying31 h
  rw [show Tryz.prog.cellsOf 31 = 2 by kernel_rfl] at hl
  have hlen' : xs.length = 2 := hlen.trans (by rfl)
  clear hlen
  obtain ⟨y0, y1, rfl⟩ := len2 hlen'
  obtain ⟨c0, c1, rfl⟩ := len2 hl
  have f0 : DataW.trod enc Tryz.prog W base spare held n' 9 [c0] = some y0 := by
    have := hf 0 _ rfl
    simpa [show Tryz.prog.cellsOf 9 = 1 by kernel_rfl] using this
  obtain ⟨s0, e0, w0⟩ := open_str Tryz.underlying9 f0
  injection e0 with e0 _; subst e0
  have f1 : DataW.trod enc Tryz.prog W base spare held n' 9 [c1] = some y1 := by
    have := hf 1 _ rfl
    simpa [show Tryz.prog.cellsOf 9 = 1 by kernel_rfl] using this
  obtain ⟨s1, e1, w1⟩ := open_str Tryz.underlying9 f1
  injection e1 with e1 _; subst e1
  exact ⟨(s0, s1), rfl, w0, w1⟩
theorem open_spans {fuel : Nat} {cs : List Value} {x : DataW H × List MemPlace} (h : DataW.trod enc Tryz.prog W base spare held fuel 23 cs = some x) : ∃ A len cap l, cs = [.slice A len cap] ∧ RowD setK W (.slice A len cap) l :=
  open_row Tryz.underlying23 (by kernel_rfl) (by decide) (fun h => open_span h) h
end
def IsSpans (w : World) (A : Option Addr) (L c : Nat) (l : List (ByteArray × ByteArray)) : Prop := RowD setK w (.slice A L c) l
def IsTexts (w : World) (A : Option Addr) (L c : Nat) (l : List ByteArray) : Prop := RowD strK w (.slice A L c) l
end Go.Proofs.YtdijkekglaimfaaGreatDoor.Rc
