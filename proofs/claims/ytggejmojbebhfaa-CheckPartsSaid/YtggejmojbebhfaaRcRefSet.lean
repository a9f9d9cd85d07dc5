/- The document's word on settings of a package. -/
import Derived.Test.YtggejmojbebhfaaRcBxs
import Derived.Lib.QuietBelow
namespace Go.Proofs.Ytggejmojbebhfaa.Rc
open Go.RowKit

set_option maxRecDepth 100000 in
set_option maxHeartbeats 3200000 in
theorem refSettings_any (w : World) (v1 v2 v3 v4 v5 v6 u : Value) (p : Pkg) (l : List Set1) (hp : IsPkg w v1 v2 v3 v4 v5 v6 p) (hl : RowD setK w u l) :
    Calls Try.prog 74 #[.agg #[.string p.name, .int .i64 p.line, v1, v2, v3, v4, v5, v6], u] w fun e w' => e = .returned (.bool (settsB p l)) ∧ Below w.heap.size w w' := by
  obtain ⟨⟨a1, n1, k1, rfl⟩, ⟨a2, n2, k2, rfl⟩, ⟨a3, n3, k3, rfl⟩, ⟨a4, n4, k4, rfl⟩, ⟨a5, n5, k5, rfl⟩, ⟨a6, n6, k6, rfl⟩⟩ := hp.sls
  obtain ⟨B, M, d, rfl, hM, hd1, hd2⟩ := hl.open'
  unfold maxLen at hd2
  obtain ⟨hk1, hk2⟩ := hp.vars.cap
  have HX := Lib.hid (Bxs.one w #[.string p.name, .int .i64 p.line, .slice a1 n1 k1, .slice a2 n2 k2, .slice a3 n3 k3, .slice a4 n4 k4, .slice a5 n5 k5, .slice a6 n6 k6] 45)
  have HL := Lib.hid hl
  have HM := Lib.hid hM
  have HV := Lib.hid hp.vars
  have HN2 := Lib.hid hp.vars.len
  obtain ⟨rr, hrr⟩ : ∃ r, settsB p l = r := ⟨_, rfl⟩
  rw [hrr]
  have HRR := Lib.hid hrr
  clear hp hl hM hrr
  go_enter Try.func74, Try.ntmps74
  go_wp2
  go_loopw [10] (fun i wr => ∃ k : Nat, k ≤ M ∧ i = .int .i64 k ∧ Hid ((l.take k).all (settB p.vars) = true) ∧ Bxs w wr [(#[.string p.name, .int .i64 p.line, .slice a1 n1 k1, .slice a2 n2 k2, .slice a3 n3 k3, .slice a4 n4 k4, .slice a5 n5 k5, .slice a6 n6 k6], 45)]) (fun i _ => M - (intOf i).toNat)
  case atStart => exact ⟨0, Nat.zero_le _, rfl, Lib.hid (by simp), HX.out⟩
  case round =>
    clear HX
    obtain ⟨k, hk, rfl, hall, hx⟩ := hrel
    have HX := Lib.hid hx
    by_cases hlt : k < M
    · have hkl : k < l.length := by rw [← HM.out]; exact hlt
      have HSN := Lib.hid (all_snoc hkl (settB p.vars))
      have HAT := Lib.hid (fun h => all_at (l := l) (p := settB p.vars) hkl h)
      have x3 := hx.get0 3 (v := .slice a2 n2 k2) rfl rfl
      clear hx hkl
      go_wp2
      clear x3
      go_loopw [6, 16] (fun t i wr => ∃ (m : Nat) (y : Bool), m ≤ n2 ∧ i = .int .i64 m ∧ t = .bool y ∧ Hid (y = (p.vars.take m).any fun v => settP v (nth l k).1 (nth l k).2) ∧ Bxs w wr [(#[.string p.name, .int .i64 p.line, .slice a1 n1 k1, .slice a2 n2 k2, .slice a3 n3 k3, .slice a4 n4 k4, .slice a5 n5 k5, .slice a6 n6 k6], 45)]) (fun _ i _ => n2 - (intOf i).toNat)
      case atStart => exact ⟨0, false, Nat.zero_le _, rfl, rfl, Lib.hid (by simp), HX.out⟩
      case round =>
        clear HX
        obtain ⟨m, y, hm, rfl, rfl, hy, hx⟩ := hrel
        have HX2 := Lib.hid hx
        by_cases hlm : m < n2
        · have hml : m < p.vars.length := by rw [← HN2.out]; exact hlm
          have HAS := Lib.hid (any_snoc hml (fun v => settP v (nth l k).1 (nth l k).2))
          cases y with
          | true =>
            have hn' : Hid (true = (p.vars.take (m + 1)).any fun v => settP v (nth l k).1 (nth l k).2) := Lib.hid (by rw [HAS.out, ← hy.out]; rfl)
            clear hx hml
            go_wp2_with fail
            go_quiet (fail)
            go_wp2
            go_roundw
            case rel => exact ⟨m + 1, true, by omega, by go_num, rfl, hn', HX2.out.drewN _⟩
            case measure => simp [intOf]; omega
          | false =>
            obtain ⟨b, off, u1, rfl, hb, hs, hr, d0, d1⟩ := var_at (HV.out.below hx.bel (Nat.le_refl _)) hlm
            obtain ⟨b2, off2, rfl, hb2, hs1, hs2, c0, c1⟩ := set_at (HL.out.below hx.bel (Nat.le_refl _)) hlt
            obtain ⟨Bv, Mv, dv, rfl⟩ := hr.sl
            have x3 := hx.get0 3 (v := .slice (some ⟨b, off, none⟩) n2 k2) rfl rfl
            have g0 : (0 : Int) ≤ (m : Int) := by omega
            have g1 : (m : Int) < (n2 : Int) := by omega
            have g2 : (0 : Int) ≤ (k : Int) := by omega
            have g3 : (k : Int) < (M : Int) := by omega
            clear hx hml hs hs1 hs2
            cases he : eqS (nth p.vars m).1 (nth l k).1 with
            | false =>
              have hn' : Hid (false = (p.vars.take (m + 1)).any fun v => settP v (nth l k).1 (nth l k).2) := Lib.hid (by rw [HAS.out, ← hy.out]; unfold settP; rw [he]; rfl)
              have f1 : ((nth p.vars m).1.toList == (nth l k).1.toList) = false := he
              clear he hr
              go_wp2_with fail
              go_quiet (fail)
              go_wp2
              go_roundw
              case rel => exact ⟨m + 1, false, by omega, by go_num, rfl, hn', HX2.out.drewN _⟩
              case measure => simp [intOf]; omega
            | true =>
              have f1 : ((nth p.vars m).1.toList == (nth l k).1.toList) = true := he
              obtain ⟨q, hq⟩ : ∃ q, hasS (nth p.vars m).2 (nth l k).2 = q := ⟨_, rfl⟩
              have hn' : Hid (q = (p.vars.take (m + 1)).any fun v => settP v (nth l k).1 (nth l k).2) := Lib.hid (by rw [HAS.out, ← hy.out]; unfold settP; rw [he, hq]; rfl)
              have CQ := Lib.hid (fun n => refHas_is (wr.drewN n) (.slice Bv Mv dv) _ (nth l k).2 (hr.below (below_draws (Below.refl wr.heap.size wr) n) (Nat.le_refl _)) q hq)
              clear he hr hq
              go_wp2_with fail
              go_quiet ((go_at_call 43; exact quiet_eq (CQ.out _)))
              go_wp2
              go_roundw
              case rel => exact ⟨m + 1, q, by omega, by go_num, rfl, hn', HX2.out.drewN _⟩
              case measure => simp [intOf]; omega
        · obtain rfl : n2 = m := by omega
          have HQ := Lib.hid (show settB p.vars (nth l k) = y by
            have h := hy.out
            rw [HN2.out, List.take_length] at h
            exact h.symm)
          clear hx
          cases y with
          | true =>
            have hn' : Hid ((l.take (k + 1)).all (settB p.vars) = true) := Lib.hid (by rw [HSN.out, hall.out, HQ.out]; rfl)
            go_wp2
            go_roundw
            case rel => exact ⟨k + 1, by omega, by go_num, hn', HX2.out⟩
            case measure => simp [intOf]; omega
          | false =>
            have HE := Lib.hid (show rr = false by rw [← HRR.out]; exact HAT.out HQ.out)
            go_wp2
            go_ret
            exact ⟨ret_bool HE.out.symm, HX2.out.bel⟩
    · obtain rfl : M = k := by omega
      have HE := Lib.hid (show rr = true by
        have h := hall.out
        rw [HM.out, List.take_length] at h
        rw [← HRR.out]; exact h)
      clear hx
      go_wp2
      go_ret
      exact ⟨ret_bool HE.out.symm, HX.out.bel⟩
theorem refSettings_is (w : World) (v1 v2 v3 v4 v5 v6 u : Value) (p : Pkg) (l : List Set1) (hp : IsPkg w v1 v2 v3 v4 v5 v6 p) (hl : RowD setK w u l) (b : Bool) (hb : settsB p l = b) :
    Calls Try.prog 74 #[.agg #[.string p.name, .int .i64 p.line, v1, v2, v3, v4, v5, v6], u] w fun e w' => e = .returned (.bool b) ∧ Below w.heap.size w w' := by subst hb; exact refSettings_any w v1 v2 v3 v4 v5 v6 u p l hp hl

set_option maxRecDepth 100000 in
set_option maxHeartbeats 1600000 in
theorem refTwice_any (w : World) (v : Value) (l : List ByteArray) (h : RowD strK w v l) :
    Calls Try.prog 71 #[v] w fun e w' => e = .returned (.bool (twiceB l)) ∧ Below w.heap.size w w' := by
  obtain ⟨A, L, c, rfl, hL, h1, h2⟩ := h.open'
  unfold maxLen at h2
  have H := Lib.hid h
  have HL := Lib.hid hL
  clear h hL
  go_enter Try.func71, Try.ntmps71
  go_wp2
  go_loopw [7] (fun i wr => ∃ k q : Nat, k ≤ L ∧ i = .int .i64 k ∧ Hid ((List.range k).any (fun i => hasS (l.take i) (nth l i)) = false) ∧ wr = w.drewN q) (fun i _ => L - (intOf i).toNat)
  case atStart => exact ⟨0, 0, Nat.zero_le _, rfl, Lib.hid (by simp), rfl⟩
  case round =>
    obtain ⟨k, q, hk, rfl, hall, rfl⟩ := hrel
    by_cases hlt : k < L
    · have HS := Lib.hid (range_any_snoc k (fun i => hasS (l.take i) (nth l i)))
      have hkl : k < l.length := by rw [← HL.out]; exact hlt
      have HKL := Lib.hid hkl
      clear hkl
      go_wp2
      go_loopw [4] (fun i wr => ∃ m q : Nat, m ≤ k ∧ i = .int .i64 m ∧ Hid (((l.take k).take m).any (eqS (nth l k)) = false) ∧ wr = w.drewN q) (fun i _ => k - (intOf i).toNat)
      case atStart => exact ⟨0, _, Nat.zero_le _, rfl, Lib.hid (by simp), rfl⟩
      case round =>
        obtain ⟨m, q2, hm, rfl, hal2, rfl⟩ := hrel
        by_cases hlm : m < k
        · obtain ⟨b, off, e0, hb, hs, c0⟩ := str_at H.out hlt
          obtain ⟨b', off', e1, hb', hs', c1⟩ := str_at H.out (show m < L by omega)
          have e2 := e0.symm.trans e1
          injection e2 with e2
          injection e2 with e2 e3
          subst e2 e3 e0
          have hmk : m < (l.take k).length := by rw [List.length_take]; have := HKL.out; omega
          have HAS := Lib.hid (any_snoc hmk (eqS (nth l k)))
          have HNT := Lib.hid (nth_take (l := l) hlm)
          have HTW := Lib.hid (fun (h : eqS (nth l k) (nth (l.take k) m) = true) => show twiceB l = true from List.any_eq_true.2 ⟨k, List.mem_range.2 HKL.out, any_at hmk h⟩)
          have g0 : (0 : Int) ≤ (m : Int) := by omega
          have g1 : (m : Int) < (L : Int) := by omega
          have g2 : (0 : Int) ≤ (k : Int) := by omega
          have g3 : (k : Int) < (L : Int) := by omega
          clear hs hs' hmk e1
          cases he : eqS (nth l k) (nth l m) with
          | true =>
            have f1 : ((nth l k).toList == (nth l m).toList) = true := he
            have HE := Lib.hid (show twiceB l = true from HTW.out (by rw [HNT.out]; exact he))
            clear he
            go_wp2_with fail
            go_quiet (fail)
            go_wp2
            go_ret
            exact ⟨ret_bool HE.out.symm, below_draws (below_draws (Below.refl _ _) _) _⟩
          | false =>
            have f1 : ((nth l k).toList == (nth l m).toList) = false := he
            have hn' : Hid (((l.take k).take (m + 1)).any (eqS (nth l k)) = false) := Lib.hid (by rw [HAS.out, hal2.out, HNT.out, he]; rfl)
            clear he
            go_wp2_with fail
            go_quiet (fail)
            go_wp2
            go_roundw
            case rel => exact ⟨m + 1, _, by omega, by go_num, hn', rfl⟩
            case measure => simp [intOf]; omega
        · obtain rfl : k = m := by omega
          have hn' : Hid ((List.range (k + 1)).any (fun i => hasS (l.take i) (nth l i)) = false) := Lib.hid (by
            have h := hal2.out
            rw [List.take_of_length_le (by rw [List.length_take]; omega)] at h
            rw [HS.out, hall.out]; exact h)
          go_wp2
          go_roundw
          case rel => exact ⟨k + 1, q2, by omega, by go_num, hn', rfl⟩
          case measure => simp [intOf]; omega
    · obtain rfl : L = k := by omega
      have Hv := Lib.hid (show twiceB l = false by
        have := hall.out
        rwa [HL.out] at this)
      go_wp2
      go_ret
      exact ⟨ret_bool Hv.out.symm, below_draws (Below.refl _ _) _⟩
theorem refTwice_is (w : World) (v : Value) (l : List ByteArray) (h : RowD strK w v l) (b : Bool) (hb : twiceB l = b) :
    Calls Try.prog 71 #[v] w fun e w' => e = .returned (.bool b) ∧ Below w.heap.size w w' := by subst hb; exact refTwice_any w v l h
end Go.Proofs.Ytggejmojbebhfaa.Rc
