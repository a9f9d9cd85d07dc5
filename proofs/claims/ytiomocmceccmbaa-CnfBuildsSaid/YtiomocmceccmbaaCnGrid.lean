/- Same, SameAll; Clauses; New, One; the chapter's example. -/
import Derived.Test.YtiomocmceccmbaaCnMost
namespace Go.Proofs.Ytiomocmceccmbaa.Cn
open Go.RowKit

theorem same_any (w : World) (ba bb : Nat) (a b : Value) (xs ys : List Int) (hx : Row w ba a xs) (hy : Row w bb b ys) :
    Calls Try.prog 10 #[a, b] w fun e w' => e = .returned (.bool (decide (xs = ys))) ∧ ∃ n, w' = w.drewN n := by
  obtain ⟨r, hr⟩ : ∃ r, decide (xs = ys) = r := ⟨_, rfl⟩
  rw [hr]
  have HRR := Lib.hid hr
  have HX := Lib.hid hx
  have HY := Lib.hid hy
  obtain ⟨A, L, c, rfl, hL, h1, h2, _⟩ := hx.open'
  obtain ⟨A', L', c', rfl, hL', h1', h2', _⟩ := hy.open'
  unfold maxLen at h2 h2'
  have HL := Lib.hid hL
  have HL' := Lib.hid hL'
  clear hr hx hy hL hL'
  by_cases hne : L = L'
  · subst hne
    go_enter Try.func10, Try.ntmps10
    go_wp2
    go_loopw [13] (fun i wr => ∃ k q, i = .int .i64 (k : Nat) ∧ k ≤ L ∧ (∀ j, j < k → nthI xs j = nthI ys j) ∧ wr = w.drewN q) (fun i _ => L - (intOf i).toNat)
    case atStart => exact ⟨0, 0, rfl, by omega, fun j hj => by omega, rfl⟩
    case round =>
      obtain ⟨k, q, rfl, hk, hall, rfl⟩ := hrel
      have HA := Lib.hid hall
      clear hall
      by_cases hkl : k < L
      · obtain ⟨b1, o1, rfl, hc1⟩ := HX.out.at (by omega)
        obtain ⟨b2, o2, rfl, hc2⟩ := HY.out.at (by omega)
        obtain ⟨x, hx⟩ : ∃ x, nthI xs k = x := ⟨_, rfl⟩
        obtain ⟨y, hy⟩ : ∃ y, nthI ys k = y := ⟨_, rfl⟩
        have c1 := hc1 k hkl
        have c2 := hc2 k hkl
        rw [hx] at c1
        rw [hy] at c2
        have HXX := Lib.hid hx
        have HYY := Lib.hid hy
        clear hx hy hc1 hc2
        have i1 : (0 : Int) ≤ (k : Int) := by omega
        have i2 : (k : Int) < (L : Int) := by omega
        by_cases hxy : x = y
        · subst hxy
          go_wp2_with fail
          go_quiet (fail)
          go_wp2
          go_roundw
          case rel => exact ⟨k + 1, _, by first | rfl | go_num, by omega, fun j hj => by
              by_cases e : j = k
              · rw [e, HXX.out, HYY.out]
              · exact HA.out j (by omega), by first | rfl | rw [World.drewN_drewN]⟩
          case measure => simp [intOf]; omega
        · have g1 : (x == y) = false := by simpa using hxy
          go_wp2_with fail
          go_quiet (fail)
          go_wp2
          go_ret
          have hr : r = false := by
            rw [← HRR.out, decide_eq_false_iff_not]
            intro e
            exact hxy (by rw [← HXX.out, ← HYY.out, e])
          rw [hr]
          exact ⟨rfl, _, by first | rfl | rw [World.drewN_drewN]⟩
      · have hkL : k = L := by omega
        subst hkL
        go_wp2
        go_ret
        have hr : r = true := by
          rw [← HRR.out, decide_eq_true_iff]
          apply List.ext_getElem?
          intro i
          by_cases hi : i < k
          · rw [nthI_get (by rw [← HL.out]; exact hi), nthI_get (by rw [← HL'.out]; exact hi), HA.out i hi]
          · rw [List.getElem?_eq_none (by rw [← HL.out]; omega), List.getElem?_eq_none (by rw [← HL'.out]; omega)]
        rw [hr]
        exact ⟨rfl, q, rfl⟩
  · have hr : r = false := by
      rw [← HRR.out, decide_eq_false_iff_not]
      intro e
      exact hne (by rw [HL.out, HL'.out, e])
    subst hr
    have g1 : ((L : Int) == (L' : Int)) = false := by simp; omega
    clear HRR
    go_enter Try.func10, Try.ntmps10
    go_wp2
    go_ret
    exact ⟨rfl, 0, rfl⟩

/-- Rows of numbers that can be read. -/
def Grid (w : World) (v : Value) (ls : List (List Int)) : Prop :=
  ∃ A c vs, v = .slice A ls.length c ∧ ls.length ≤ c ∧ c ≤ maxLen ∧ (ls = [] ∨ ∃ b off, A = some ⟨b, off, none⟩ ∧ b < w.heap.size ∧ ∀ (j : Nat) (u : Value), vs[j]? = some u → w.cell? ⟨b, off + j, none⟩ = some u) ∧ RowsOf w 0 (fun _ => False) vs ls

def nthL (ls : List (List Int)) (j : Nat) : List Int := ls.getD j []
theorem nthL_get {ls : List (List Int)} {j : Nat} (h : j < ls.length) : ls[j]? = some (nthL ls j) := by unfold nthL; simp [List.getD_eq_getElem?_getD, h]

theorem Grid.below {w w' : World} {v : Value} {ls : List (List Int)} (h : Grid w v ls) (hb : Below w.heap.size w w') : Grid w' v ls := by
  obtain ⟨A, c, vs, e, h1, h2, h3, h4⟩ := h
  exact ⟨A, c, vs, e, h1, h2, h3.imp id fun ⟨b, off, ha, hlt, hc⟩ => ⟨b, off, ha, Nat.lt_of_lt_of_le hlt hb.size, fun j u hu => (hb.cell (p := ⟨b, off + j, none⟩) hlt).trans (hc j u hu)⟩, h4.below hb⟩

theorem Grid.open' {w : World} {v : Value} {ls : List (List Int)} (h : Grid w v ls) : ∃ A L c, v = .slice A L c ∧ L = ls.length ∧ L ≤ c ∧ c ≤ maxLen := by
  obtain ⟨A, c, vs, e, h1, h2, h3, h4⟩ := h
  exact ⟨A, _, c, e, rfl, h1, h2⟩

theorem Grid.at {w : World} {L c : Nat} {A : Option Addr} {ls : List (List Int)} (h : Grid w (.slice A L c) ls) {j : Nat} (hj : j < L) : ∃ b off A1 L1 c1, A = some ⟨b, off, none⟩ ∧ w.cell? ⟨b, off + j, none⟩ = some (.slice A1 L1 c1) ∧ Row w 0 (.slice A1 L1 c1) (nthL ls j) := by
  obtain ⟨A', c', vs, e, h1, h2, h3, h4⟩ := h
  injection e with e1 e2 e3
  subst e1; subst e2; subst e3
  rcases h3 with rfl | ⟨b, off, ha, hlt, hc⟩
  · simp at hj
  · have hv : j < vs.length := by rw [← h4.1]; exact hj
    obtain ⟨r1, _⟩ := h4.2 j _ _ (List.getElem?_eq_getElem hv) (nthL_get hj)
    have hcell := hc j _ (List.getElem?_eq_getElem hv)
    obtain ⟨A1, L1, c1, e, _⟩ := r1.open'
    rw [e] at r1 hcell
    exact ⟨b, off, A1, L1, c1, ha, hcell, r1⟩

theorem sameAll_any (w : World) (a b : Value) (xs ys : List (List Int)) (hx : Grid w a xs) (hy : Grid w b ys) :
    Calls Try.prog 24 #[a, b] w fun e w' => e = .returned (.bool (decide (xs = ys))) ∧ ∃ n, w' = w.drewN n := by
  obtain ⟨r, hr⟩ : ∃ r, decide (xs = ys) = r := ⟨_, rfl⟩
  rw [hr]
  have HRR := Lib.hid hr
  have HX := Lib.hid hx
  have HY := Lib.hid hy
  obtain ⟨A, L, c, rfl, hL, h1, h2⟩ := hx.open'
  obtain ⟨A', L', c', rfl, hL', h1', h2'⟩ := hy.open'
  unfold maxLen at h2 h2'
  have HL := Lib.hid hL
  have HL' := Lib.hid hL'
  clear hr hx hy hL hL'
  by_cases hne : L = L'
  · subst hne
    go_enter Try.func24, Try.ntmps24
    go_wp2
    go_loopw [13] (fun i wr => ∃ (k : Nat), i = .int .i64 (k : Nat) ∧ k ≤ L ∧ (∀ j, j < k → nthL xs j = nthL ys j) ∧ ∃ q, wr = w.drewN q) (fun i _ => L - (intOf i).toNat)
    case atStart => exact ⟨0, rfl, by omega, fun j hj => by omega, 0, rfl⟩
    case round =>
      obtain ⟨k, rfl, hk, hall, hq⟩ := hrel
      have hbq : Below w.heap.size w wr := by obtain ⟨q, rfl⟩ := hq; exact below_draws (Below.refl _ _) q
      have HQ := Lib.hid hq
      have HA := Lib.hid hall
      clear hall hq
      by_cases hkl : k < L
      · obtain ⟨b1, o1, A1, L1, cc1, rfl, c1, r1⟩ := (HX.out.below hbq).at hkl
        obtain ⟨b2, o2, A2, L2, cc2, rfl, c2, r2⟩ := (HY.out.below hbq).at hkl
        have HR1 := Lib.hid r1
        have HR2 := Lib.hid r2
        obtain ⟨s, hs⟩ : ∃ s, decide (nthL xs k = nthL ys k) = s := ⟨_, rfl⟩
        have HS := Lib.hid hs
        have i1 : (0 : Int) ≤ (k : Int) := by omega
        have i2 : (k : Int) < (L : Int) := by omega
        have K := Lib.hid (fun nq : Nat => by
          have := same_any (wr.drewN nq) 0 0 _ _ _ _ HR1.out HR2.out
          rw [HS.out] at this
          exact Calls.quiet_of this)
        clear r1 r2 hs hbq
        go_wp2_with fail
        cases s with
        | true =>
          go_quiet ((go_at_call 10; exact K.out _))
          go_wp2
          go_roundw
          case rel => exact ⟨k + 1, by first | rfl | go_num, by omega, fun j hj => by
              by_cases e : j = k
              · rw [e]; exact of_decide_eq_true HS.out
              · exact HA.out j (by omega), by obtain ⟨q, hq⟩ := HQ.out; rw [hq]; exact ⟨_, World.drewN_drewN _ _ _⟩⟩
          case measure => simp [intOf]; omega
        | false =>
          go_quiet ((go_at_call 10; exact K.out _))
          go_wp2
          go_ret
          have hr : r = false := by
            rw [← HRR.out, decide_eq_false_iff_not]
            intro e
            exact of_decide_eq_false HS.out (by rw [e])
          rw [hr]
          exact ⟨rfl, by obtain ⟨q, hq⟩ := HQ.out; rw [hq]; exact ⟨_, World.drewN_drewN _ _ _⟩⟩
      · have hkL : k = L := by omega
        subst hkL
        go_wp2
        go_ret
        have hr : r = true := by
          rw [← HRR.out, decide_eq_true_iff]
          apply List.ext_getElem?
          intro i
          by_cases hi : i < k
          · rw [nthL_get (by rw [← HL.out]; exact hi), nthL_get (by rw [← HL'.out]; exact hi), HA.out i hi]
          · rw [List.getElem?_eq_none (by rw [← HL.out]; omega), List.getElem?_eq_none (by rw [← HL'.out]; omega)]
        rw [hr]
        exact ⟨rfl, HQ.out⟩
  · have hr : r = false := by
      rw [← HRR.out, decide_eq_false_iff_not]
      intro e
      exact hne (by rw [HL.out, HL'.out, e])
    subst hr
    have g1 : ((L : Int) == (L' : Int)) = false := by simp; omega
    clear HRR
    go_enter Try.func24, Try.ntmps24
    go_wp2
    go_ret
    exact ⟨rfl, 0, rfl⟩

end Go.Proofs.Ytiomocmceccmbaa.Cn
