/- A request's first problem. -/
import Derived.Test.YtggejmojbebhfaaRcRecipe
namespace Go.Proofs.Ytggejmojbebhfaa.Rc
open Go.RowKit

def rootProb (x : Rec) (r : Root) : Int × Int := (wishCode x r.spec, r.line)
def reqProb (x : Rec) (q : List Root) : Int × Int := if q.length = 0 then (11, 0) else if 8 < q.length then (1, (nth q 8).line) else firstP (rootProb x) q
theorem reqProb_nil {x : Rec} {q : List Root} (h : q.length = 0) : reqProb x q = (11, 0) := by unfold reqProb; rw [if_pos h]
theorem reqProb_many {x : Rec} {q : List Root} (h : 8 < q.length) : reqProb x q = (1, (nth q 8).line) := by unfold reqProb; rw [if_neg (by omega), if_pos h]
theorem reqProb_few {x : Rec} {q : List Root} (h : ¬ q.length = 0) (h2 : ¬ 8 < q.length) : reqProb x q = firstP (rootProb x) q := by unfold reqProb; rw [if_neg h, if_neg h2]

set_option maxRecDepth 100000 in
set_option maxHeartbeats 3200000 in
theorem request_any (w : World) (v1 v2 vq : Value) (x : Rec) (q : List Root) (h : IsRec w v1 v2 x) (hq : RowD rootK w vq q) :
    Calls Try.prog 20 #[.agg #[v1, v2], .agg #[vq]] w (GivesP (reqProb x q) w) := by
  obtain ⟨A1, L1, c1, A2, L2, c2, rfl, rfl, hL1, hL2, hc1, hm1, hc2, hm2⟩ := rec_box h
  obtain ⟨A3, L3, c3, rfl⟩ := hq.sl
  have HX := Lib.hid (Bxs.three w #[.slice A1 L1 c1, .slice A2 L2 c2] 25 #[.slice A3 L3 c3] 37 #[.int .u8 0, .int .i64 0] 29)
  have HR := Lib.hid h
  have HQ := Lib.hid hq
  have HL := Lib.hid hq.len
  have hcq := hq.cap
  obtain ⟨rr, hrr⟩ : ∃ r, reqProb x q = r := ⟨_, rfl⟩
  rw [hrr]
  have HRR := Lib.hid hrr
  clear h hL1 hL2 hrr hq
  by_cases h0 : L3 = 0
  · subst h0
    have HE := Lib.hid (show rr = (11, 0) by rw [← HRR.out]; exact reqProb_nil HL.out.symm)
    go_enter Try.func20, Try.ntmps20
    have z0 := HX.out.get 2 0 (v := .int .u8 0) rfl rfl
    have z1 := HX.out.get 2 1 (v := .int .i64 0) rfl rfl
    have g0 := HX.out.free 2 0 rfl
    have g1 := HX.out.free 2 1 rfl
    go_wp2
    refine bodyPost_ret (v := .agg #[.int .u8 11, .int .i64 0]) (by simp [results, Try.results20, go_sem]) rfl ⟨agg_ret HE.out, ((below_alloc' w _).alloc (by simp only [World.size_alloc]; omega) _).alloc (by simp only [World.size_alloc]; omega) _⟩
  · have k0 : ((L3 : Int) == 0) = false := by simp; omega
    by_cases hm : 8 < L3
    · obtain ⟨b, off, u1, u2, rfl, hb, hs, hw, p0, p1, p2, p3⟩ := root_at (HQ.out.below HX.out.bel (Nat.le_refl _)) hm
      have HE := Lib.hid (show rr = (1, (nth q 8).line) by rw [← HRR.out]; exact reqProb_many (by rw [← HL.out]; exact hm))
      have k1 : (8 : Int) < (L3 : Int) := by omega
      clear hb hs hw p0 p1 p2
      go_enter Try.func20, Try.ntmps20
      have z0 := HX.out.get 2 0 (v := .int .u8 0) rfl rfl
      have z1 := HX.out.get 2 1 (v := .int .i64 0) rfl rfl
      have g0 := HX.out.free 2 0 rfl
      have g1 := HX.out.free 2 1 rfl
      go_wp2
      refine bodyPost_ret (v := .agg #[.int .u8 1, .int .i64 (nth q 8).line]) (by simp [results, Try.results20, go_sem]) rfl ⟨agg_ret HE.out, ((below_alloc' w _).alloc (by simp only [World.size_alloc]; omega) _).alloc (by simp only [World.size_alloc]; omega) _⟩
    · have k1 : ¬ (8 : Int) < (L3 : Int) := by omega
      have HR1 := Lib.hid (show rr = firstP (rootProb x) q by rw [← HRR.out]; exact reqProb_few (by rw [← HL.out]; exact h0) (by rw [← HL.out]; exact hm))
      clear HRR
      go_enter Try.func20, Try.ntmps20
      go_wp2
      go_loopw [26] (fun i wr => ∃ k : Nat, k ≤ L3 ∧ i = .int .i64 k ∧ Hid (∀ j, j < k → wishCode x (nth q j).spec = 0) ∧ Bxs w wr [(#[.slice A1 L1 c1, .slice A2 L2 c2], 25), (#[.slice A3 L3 c3], 37), (#[.int .u8 0, .int .i64 0], 29)]) (fun i _ => L3 - (intOf i).toNat)
      case atStart => exact ⟨0, Nat.zero_le _, rfl, Lib.hid (fun j hj => by omega), HX.out⟩
      case round =>
        clear HX
        obtain ⟨k, hk, rfl, hall, hx⟩ := hrel
        have HX := Lib.hid hx
        by_cases hlt : k < L3
        · obtain ⟨b, off, u1, u2, rfl, hb, hs, hw, p0, p1, p2, p3⟩ := root_at (HQ.out.below hx.bel (Nat.le_refl _)) hlt
          obtain ⟨B1, M1, d1, rfl⟩ := hs.spans.sl
          obtain ⟨B2, M2, d2, rfl⟩ := hs.sets.sl
          have hkl : k < q.length := by rw [← HL.out]; exact hlt
          generalize hpp : nth q k = r at hs hw p0 p1 p2 p3
          have HPP := Lib.hid hpp
          have HKL := Lib.hid hkl
          have hbd := Boxed.new wr #[.string r.spec.name, .slice B1 M1 d1, .slice B2 M2 d2, .int .i64 r.line] 75
          have hx1 := hx.step hbd.bel
          have hs1 := hs.below hbd.bel (Nat.le_refl _)
          have q0 := cell_alloc_l (.cells #[.string r.spec.name, .slice B1 M1 d1, .slice B2 M2 d2, .int .i64 r.line] 75) (hx.get0 0 (v := .slice A1 L1 c1) rfl rfl)
          have q1 := cell_alloc_l (.cells #[.string r.spec.name, .slice B1 M1 d1, .slice B2 M2 d2, .int .i64 r.line] 75) (hx.get0 1 (v := .slice A2 L2 c2) rfl rfl)
          generalize hw1 : wr.alloc (.cells #[.string r.spec.name, .slice B1 M1 d1, .slice B2 M2 d2, .int .i64 r.line] 75) = w1 at hbd hx1 hs1
          have HW1 := Lib.hid hw1
          have HBD := Lib.hid hbd
          have HX1 := Lib.hid hx1
          have HS1 := Lib.hid hs1
          obtain ⟨c, hc⟩ : ∃ c, wishCode x r.spec = c := ⟨_, rfl⟩
          have HC := Lib.hid hc
          clear hx hpp hkl hbd hx1 hs hs1 hw1 hc HX hb hw
          go_wp2_with fail
          rw [HW1.out]
          refine (wishCode_is _ _ _ _ _ x r.spec (HR.out.below HX1.out.bel (Nat.le_refl _)) HS1.out c HC.out).mono ?_
          rintro e w2 ⟨rfl, hb2⟩
          have HX2 := Lib.hid (HX1.out.step hb2)
          have HB2 := Lib.hid (HBD.out.step hb2)
          clear hb2 q0 q1 p0 p1 p2 p3
          by_cases hc0 : c = 0
          · subst hc0
            have hn : Hid (∀ j, j < k + 1 → wishCode x (nth q j).spec = 0) := Lib.hid (fun j hj => by
              by_cases e : j = k
              · rw [e, HPP.out]; exact HC.out
              · exact hall.out j (by omega))
            go_wp2
            go_roundw
            case rel => exact ⟨k + 1, by omega, by go_num, hn, HX2.out⟩
            case measure => simp [intOf]; omega
          · obtain ⟨f1, f2⟩ := int_ne hc0
            have HE := Lib.hid (show rr = (c, r.line) by
              rw [HR1.out, firstP_hit (f := rootProb x) HKL.out hall.out (by rw [HPP.out]; show wishCode x r.spec ≠ 0; rw [HC.out]; exact hc0), HPP.out]
              exact Prod.ext HC.out rfl)
            have t1 := HB2.out.get 3 (v := .int .i64 r.line) rfl
            clear hc0
            have z0 := HX2.out.get 2 0 (v := .int .u8 0) rfl rfl
            have z1 := HX2.out.get 2 1 (v := .int .i64 0) rfl rfl
            have g0 := HX2.out.free 2 0 rfl
            have g1 := HX2.out.free 2 1 rfl
            go_wp2
            refine bodyPost_ret (v := .agg #[.int .u8 c, .int .i64 r.line]) (by simp [results, Try.results20, go_sem, World.cell?_setCell_same', z0, z1]) rfl ⟨agg_ret HE.out, ((HX2.out.bel.setCell (by show w.heap.size ≤ w.heap.size + 2; omega) _).setCell (by show w.heap.size ≤ w.heap.size + 2; omega) _)⟩
        · obtain rfl : L3 = k := by omega
          have HE := Lib.hid (show rr = (0, 0) by rw [HR1.out]; exact firstP_miss (f := rootProb x) (fun j hj => hall.out j (by rw [HL.out]; exact hj)))
          clear hx
          have z0 := HX.out.get 2 0 (v := .int .u8 0) rfl rfl
          have z1 := HX.out.get 2 1 (v := .int .i64 0) rfl rfl
          have g0 := HX.out.free 2 0 rfl
          have g1 := HX.out.free 2 1 rfl
          go_wp2
          refine bodyPost_ret (v := .agg #[.int .u8 0, .int .i64 0]) (by simp [results, Try.results20, go_sem, World.cell?_setCell_same', z0, z1]) rfl ⟨agg_ret HE.out, ((HX.out.bel.setCell (by show w.heap.size ≤ w.heap.size + 2; omega) _).setCell (by show w.heap.size ≤ w.heap.size + 2; omega) _)⟩
theorem request_is (w : World) (v1 v2 vq : Value) (x : Rec) (q : List Root) (h : IsRec w v1 v2 x) (hq : RowD rootK w vq q) (r : Int × Int) (hr : reqProb x q = r) :
    Calls Try.prog 20 #[.agg #[v1, v2], .agg #[vq]] w fun e w' => e = .returned (.agg #[.int .u8 r.1, .int .i64 r.2]) ∧ Below w.heap.size w w' := by subst hr; exact request_any w v1 v2 vq x q h hq
end Go.Proofs.Ytggejmojbebhfaa.Rc
