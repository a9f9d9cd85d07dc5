/- What the document's guard says of a request. -/
import Derived.Test.YtggejmojbebhfaaRcGreat3
import Derived.Test.YtggejmojbebhfaaRcBxs
namespace Go.Proofs.Ytggejmojbebhfaa.Rc
open Go.RowKit

set_option maxRecDepth 100000 in
theorem greatSpecUp_any (w : World) (v1 v2 : Value) (x : Spec) (h : IsSpec w v1 v2 x) :
    Calls Try.prog 47 #[.agg #[.string x.name, v1, v2]] w (SomeG (fun b => b = false → x.spans.length ≤ 30 ∧ x.sets.length ≤ 20) w) := by
  obtain ⟨A1, L1, c1, rfl⟩ := h.spans.sl
  obtain ⟨A2, L2, c2, rfl⟩ := h.sets.sl
  have HB := Lib.hid (below_alloc' w (.cells #[.string x.name, .slice A1 L1 c1, .slice A2 L2 c2] 73))
  have HX := Lib.hid (h.below HB.out (Nat.le_refl _))
  clear h
  go_enter Try.func47, Try.ntmps47
  go_wp2_with fail
  refine (greatSpec_any _ _ _ x HX.out).mono ?_
  rintro e w2 ⟨b, rfl, hb, hb2⟩
  have HB2 := Lib.hid (HB.out.trans (hb2.mono HB.out.size))
  have HQ := Lib.hid hb
  clear hb hb2
  go_wp2
  go_ret
  exact ⟨b, rfl, HQ.out, HB2.out⟩

def RootSmall (r : Root) : Prop := r.spec.spans.length ≤ 30 ∧ r.spec.sets.length ≤ 20
structure ReqSmall (q : List Root) : Prop where
  len : q.length ≤ 40
  each : ∀ r ∈ q, RootSmall r

set_option maxHeartbeats 1600000 in
set_option maxRecDepth 100000 in
theorem great08_any (w : World) (vq : Value) (q : List Root) (h : RowD rootK w vq q) :
    Calls Try.prog 19 #[.agg #[vq]] w (SomeG (fun b => b = false → ReqSmall q) w) := by
  obtain ⟨A, L, c, rfl⟩ := h.sl
  have hbx := Bxs.one w #[.slice A L c] 37
  have HX := Lib.hid hbx
  have HQ := Lib.hid h
  have HL := Lib.hid h.len
  have hc := h.cap
  clear h hbx
  by_cases hbig : 40 < L
  · go_enter Try.func19, Try.ntmps19
    go_wp2_with fail
    all_goals first
      | (go_ret; exact ⟨true, rfl, by simp, HX.out.bel⟩)
      | (exfalso; omega)
  · have e0 : ¬ (40 : Int) < (L : Int) := by omega
    go_enter Try.func19, Try.ntmps19
    go_wp2
    go_loopw [11] (fun i wr => ∃ k : Nat, k ≤ L ∧ i = .int .i64 k ∧ Hid (∀ j, j < k → RootSmall (nth q j)) ∧ Bxs w wr [(#[.slice A L c], 37)]) (fun i _ => L - (intOf i).toNat)
    case atStart => exact ⟨0, Nat.zero_le _, rfl, Lib.hid (fun j hj => by omega), HX.out⟩
    case round =>
      clear HX
      obtain ⟨k, hk, rfl, hall, hx⟩ := hrel
      have HX := Lib.hid hx
      by_cases hlt : k < L
      · have x0 := hx.get0 0 (v := .slice A L c) rfl rfl
        obtain ⟨b, off, u1, u2, rfl, hb, hsp, hline, c0, c1, c2, c3⟩ := root_at (HQ.out.below hx.bel (Nat.le_refl _)) hlt
        have HSP := Lib.hid hsp
        clear hsp hx
        go_wp2_with fail
        refine (greatSpecUp_any _ _ _ _ HSP.out).mono ?_
        rintro e w2 ⟨b3, rfl, hb3, hb2⟩
        have HX2 := Lib.hid (HX.out.step hb2)
        clear hb2
        cases b3 with
        | true =>
          clear hb3
          go_wp2
          go_ret
          exact ⟨true, rfl, by simp, HX2.out.bel⟩
        | false =>
          have hn : Hid (∀ j, j < k + 1 → RootSmall (nth q j)) := Lib.hid (fun j hj => by
            by_cases e : j = k
            · rw [e]; exact hb3 rfl
            · exact hall.out j (by omega))
          clear hb3
          go_wp2
          go_roundw
          case rel => exact ⟨k + 1, by omega, by go_num, hn, HX2.out⟩
          case measure => simp [intOf]; omega
      · obtain rfl : k = L := by omega
        have HALL := Lib.hid (show ReqSmall q from ⟨by rw [← HL.out]; omega, all_to (fun j hj => hall.out j (by rw [HL.out]; exact hj))⟩)
        clear hx
        go_wp2
        go_ret
        exact ⟨false, rfl, fun _ => HALL.out, HX.out.bel⟩
end Go.Proofs.Ytggejmojbebhfaa.Rc
