/- The document's Unusual. -/
import Derived.Test.YtaahdhpljlkfjaaGreatZg26
namespace Go.Proofs.YtaahdhpljlkfjaaGreat.Va
open Go.RowKit

def usP (x : Set1) (v : Var) : Bool := eqS v.1 x.1 && decide (0 < v.2.length) && eqS (nthS v.2 0) x.2
theorem hasT_usual (x : Set1) : ∀ (l : List Var), hasT (usualB l) x = l.any (usP x)
  | [] => rfl
  | (a, vs) :: r => by
    have ih := hasT_usual x r
    rw [List.any_cons, ← ih]
    unfold usualB hasT
    cases vs with
    | nil => simp [usP]
    | cons y ys =>
      rw [List.filterMap_cons]
      simp only [List.any_cons]
      congr 1
      unfold eqT usP
      rw [eqS_comm x.1 a, eqS_comm x.2 y]
      simp [nthS]

set_option maxRecDepth 100000 in
set_option maxHeartbeats 3200000 in
theorem refUnusual_any (w : World) (v u : Value) (l : List Var) (s : List Set1) (h : Vars w v l) (hs : Sets w u s) :
    Calls Tryz.prog 29 #[v, u] w fun e w' => e = .returned (.int .i64 ((unusualB (usualB l) s : Nat) : Int)) ∧ Below w.heap.size w w' := by
  obtain ⟨A, L, c, rfl, hL, h1, h2, h3⟩ := h.open'
  obtain ⟨As, Ls, cs, rfl, hLs, hs1, hs2, hs3⟩ := hs.open'
  unfold maxLen at h2 hs2
  have HL := Lib.hid hL
  have HLs := Lib.hid hLs
  have H3 := Lib.hid h3
  have HS3 := Lib.hid hs3
  clear h hs hL hLs h3 hs3
  go_enter Tryz.func29, Tryz.ntmps29
  go_wp2
  go_loopw [5, 11] (fun t i wr => ∃ k m : Nat, k ≤ Ls ∧ i = .int .i64 k ∧ t = .int .i64 m ∧ m ≤ k ∧ Hid (m = unusualB (usualB l) (s.take k)) ∧ Below w.heap.size w wr) (fun _ i _ => Ls - (intOf i).toNat)
  case atStart => exact ⟨0, 0, Nat.zero_le _, rfl, rfl, Nat.le_refl _, Lib.hid (by simp [unusualB]), Below.refl _ _⟩
  case round =>
    obtain ⟨k, m, hk, rfl, rfl, hm, hme, hbw⟩ := hrel
    have HBW := Lib.hid hbw
    by_cases hlt : k < Ls
    · obtain ⟨bs, os, rfl, hbs, hcs⟩ := HS3.out (by omega)
      have s1 := (hcs k hlt).1
      have s2 := (hcs k hlt).2.1
      have S1 := Lib.hid s1
      have S2 := Lib.hid s2
      have HBS := Lib.hid hbs
      have hkl : k < s.length := by rw [← HLs.out]; exact hlt
      have HSN := Lib.hid (unusual_snoc hkl (usualB l))
      have k0 : (0 : Int) ≤ (k : Int) := by omega
      have k1 : (k : Int) < (Ls : Int) := by omega
      clear hcs s1 s2 hbs hkl hbw
      go_wp2
      go_loopw [7, 16] (fun f i wx => ∃ (j : Nat) (x : Bool), j ≤ L ∧ i = .int .i64 j ∧ f = .bool x ∧ Hid ((l.take j).any (usP (nthT s k)) = x) ∧ Below w.heap.size w wx) (fun _ i _ => L - (intOf i).toNat)
      case atStart => exact ⟨0, false, Nat.zero_le _, rfl, rfl, Lib.hid (by simp), HBW.out⟩
      case round =>
        clear HBW
        obtain ⟨j, x, hj, rfl, rfl, hx, hbw2⟩ := hrel
        have HB2 := Lib.hid hbw2
        by_cases hjl : j < L
        · have hjl2 : j < l.length := by rw [← HL.out]; exact hjl
          have HSV := Lib.hid (any_snocV hjl2 (usP (nthT s k)))
          clear hjl2
          cases x with
          | true =>
            have hn : Hid ((l.take (j + 1)).any (usP (nthT s k)) = true) := Lib.hid (by rw [HSV.out, hx.out]; rfl)
            clear hbw2
            go_wp2_with fail
            go_quiet (fail)
            go_wp2
            go_roundw
            case rel => exact ⟨j + 1, true, by omega, by go_num, rfl, hn, below_draws HB2.out _⟩
            case measure => simp [intOf]; omega
          | false =>
            obtain ⟨b, off, rfl, hb, hc⟩ := H3.out (by omega)
            obtain ⟨g1, ⟨u, g2, g3⟩, g4⟩ := hc j hjl
            obtain ⟨A1, L1, c1, rfl, hL1, g5, g6, g7⟩ := g3.open'
            have HL1 := Lib.hid hL1
            have G7 := Lib.hid g7
            have j0 : (0 : Int) ≤ (j : Int) := by omega
            have j1 : (j : Int) < (L : Int) := by omega
            have q1 := (hbw2.cell (p := ⟨b, off + j * 2, none⟩) hb).trans g1
            have q2 := (hbw2.cell (p := ⟨b, off + j * 2 + 1, none⟩) hb).trans g2
            have q3 := (hbw2.cell (p := ⟨bs, os + k * 2, none⟩) HBS.out).trans S1.out
            have q4 := (hbw2.cell (p := ⟨bs, os + k * 2 + 1, none⟩) HBS.out).trans S2.out
            have HNX := Lib.hid (fun (y : Bool) (hy : usP (nthT s k) (nthV l j) = y) => show (l.take (j + 1)).any (usP (nthT s k)) = y by rw [HSV.out, hx.out, hy]; rfl)
            unfold maxLen at g6
            clear hc g1 g2 g3 hL1 g7
            cases he : eqS (nthV l j).1 (nthT s k).1 with
            | false =>
              have hn : Hid ((l.take (j + 1)).any (usP (nthT s k)) = false) := Lib.hid (HNX.out false (by unfold usP; rw [he]; rfl))
              have e2 : ((nthV l j).1.toList == (nthT s k).1.toList) = false := he
              clear he hbw2
              go_wp2_with fail
              go_quiet (fail)
              go_wp2
              go_roundw
              case rel => exact ⟨j + 1, false, by omega, by go_num, rfl, hn, below_draws HB2.out _⟩
              case measure => simp [intOf]; omega
            | true =>
              have e2 : ((nthV l j).1.toList == (nthT s k).1.toList) = true := he
              by_cases h0 : L1 = 0
              · subst h0
                have hn : Hid ((l.take (j + 1)).any (usP (nthT s k)) = false) := Lib.hid (HNX.out false (by unfold usP; rw [he, ← HL1.out]; rfl))
                have e3 : decide ((0 : Int) < ((0 : Nat) : Int)) = false := by simp
                clear he hbw2
                go_wp2_with fail
                go_quiet (fail)
                go_wp2
                go_roundw
                case rel => exact ⟨j + 1, false, by omega, by go_num, rfl, hn, below_draws HB2.out _⟩
                case measure => simp [intOf]; omega
              · have hpos : (0 : Int) < (L1 : Int) := by omega
                have hdp : decide (0 < (nthV l j).2.length) = true := by rw [decide_eq_true_iff, ← HL1.out]; omega
                obtain ⟨b1, o1, rfl, hb1, hc1⟩ := G7.out (by omega)
                have r1 := (hc1 0 (by omega)).1
                rw [Nat.add_zero] at r1
                have q5 := (hbw2.cell (p := ⟨b1, o1, none⟩) hb1).trans r1
                have e3 : decide (0 < L1) = true := by simp; omega
                clear hc1 r1
                cases he' : eqS (nthS (nthV l j).2 0) (nthT s k).2 with
                | false =>
                  have hn : Hid ((l.take (j + 1)).any (usP (nthT s k)) = false) := Lib.hid (HNX.out false (by unfold usP; rw [he, hdp, he']; rfl))
                  have e4 : ((nthS (nthV l j).2 0).toList == (nthT s k).2.toList) = false := he'
                  clear he he' hdp hbw2 h0
                  go_wp2_with fail
                  go_quiet (fail)
                  go_wp2
                  go_roundw
                  case rel => exact ⟨j + 1, false, by omega, by go_num, rfl, hn, below_draws HB2.out _⟩
                  case measure => simp [intOf]; omega
                | true =>
                  have hn : Hid ((l.take (j + 1)).any (usP (nthT s k)) = true) := Lib.hid (HNX.out true (by unfold usP; rw [he, hdp, he']; rfl))
                  have e4 : ((nthS (nthV l j).2 0).toList == (nthT s k).2.toList) = true := he'
                  clear he he' hdp hbw2 h0
                  go_wp2_with fail
                  go_quiet (fail)
                  go_wp2
                  go_roundw
                  case rel => exact ⟨j + 1, true, by omega, by go_num, rfl, hn, below_draws HB2.out _⟩
                  case measure => simp [intOf]; omega
        · obtain rfl : j = L := by omega
          have HX := Lib.hid (show hasT (usualB l) (nthT s k) = x by
            have := hx.out
            rw [HL.out, List.take_length] at this
            rw [hasT_usual]; exact this)
          clear hbw2
          cases x with
          | true =>
            have hn : Hid (m = unusualB (usualB l) (s.take (k + 1))) := Lib.hid (by rw [HSN.out, ← hme.out, HX.out]; rfl)
            go_wp2
            go_roundw
            case rel => exact ⟨k + 1, m, by omega, by go_num, rfl, by omega, hn, HB2.out⟩
            case measure => simp [intOf]; omega
          | false =>
            have hn : Hid (m + 1 = unusualB (usualB l) (s.take (k + 1))) := Lib.hid (by rw [HSN.out, ← hme.out, HX.out]; rfl)
            go_wp2
            go_roundw
            case rel => exact ⟨k + 1, m + 1, by omega, by go_num, by go_num, by omega, hn, HB2.out⟩
            case measure => simp [intOf]; omega
    · obtain rfl : k = Ls := by omega
      have Hv := Lib.hid (show m = unusualB (usualB l) s by
        have := hme.out
        rwa [HLs.out, List.take_length] at this)
      clear hbw
      go_wp2
      go_ret
      exact ⟨by rw [← Hv.out]; rfl, HBW.out⟩

/-- The usual settings are of variants that may be, and none of them is unusual. -/
theorem usual_get {l : List Var} (h : ∀ v ∈ l, 0 < v.2.length) : (usualB l).length = l.length ∧ ∀ j, j < l.length → nthT (usualB l) j = ((nthV l j).1, nthS (nthV l j).2 0) := by
  have e : usualB l = l.map fun v => (v.1, nthS v.2 0) := by
    induction l with
    | nil => rfl
    | cons v r ih =>
      have hr := ih (fun x hx => h x (by simp [hx]))
      have hv := h v (by simp)
      obtain ⟨a, vs⟩ := v
      cases vs with
      | nil => simp at hv
      | cons y ys =>
        unfold usualB at hr ⊢
        rw [List.filterMap_cons]
        simp only [List.map_cons]
        rw [hr]
        simp [nthS]
  refine ⟨by rw [e]; simp, fun j hj => ?_⟩
  rw [e]
  unfold nthT nthV
  rw [List.getElem?_map, List.getElem?_eq_getElem hj]; rfl
theorem usual_legal {l : List Var} (h : ∀ v ∈ l, 0 < v.2.length) : legalB l (usualB l) = true := by
  obtain ⟨h1, h2⟩ := usual_get h
  unfold legalB
  rw [h1]
  simp only [decide_true, Bool.true_and]
  refine List.all_eq_true.2 fun j hj => ?_
  have hj' : j < l.length := by simpa using hj
  unfold legalP
  rw [h2 j hj', eqS_iff.2 rfl, Bool.true_and]
  exact any_atS (h _ (nthV_mem hj')) (eqS_iff.2 rfl)
theorem usual_none (l : List Set1) : unusualB l l = 0 := by
  unfold unusualB
  rw [List.countP_eq_zero]
  intro x hx
  have : hasT l x = true := List.any_eq_true.2 ⟨x, hx, by unfold eqT; rw [eqS_iff.2 rfl, eqS_iff.2 rfl]; rfl⟩
  simp [this]

end Go.Proofs.YtaahdhpljlkfjaaGreat.Va
