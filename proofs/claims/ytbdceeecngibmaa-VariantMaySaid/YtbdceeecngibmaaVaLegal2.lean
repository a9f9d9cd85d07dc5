/- The program's Legal and Unusual. -/
import Derived.Test.YtbdceeecngibmaaVaLegal
import Derived.Test.YtbdceeecngibmaaVaAmong
import Derived.Test.YtbdceeecngibmaaVaPick
namespace Go.Proofs.Ytbdceeecngibmaa.Va
open Go.RowKit

set_option maxRecDepth 100000 in
set_option maxHeartbeats 800000 in
theorem legalC_any (w : World) (n : ByteArray) (u : Value) (l : List ByteArray) (x y : ByteArray) (h : Strs w u l) :
    Calls Try.prog 38 #[.agg #[.string n, u], .agg #[.string x, .string y]] w fun e w' => e = .returned (.bool (eqS n x && hasS l y)) ∧ Below w.heap.size w w' := by
  have hb0 : Below w.heap.size w ((w.alloc (.cells #[.string n, u] 35)).alloc (.cells #[.string x, .string y] 37)) := ((Below.refl _ _).alloc (Nat.le_refl _) _).alloc (by simp) _
  have H := Lib.hid (h.below hb0 (Nat.le_refl _))
  have HB0 := Lib.hid hb0
  obtain ⟨A, L, c, rfl, h2⟩ := h.open'
  clear h hb0 h2
  cases he : eqS n x with
  | false =>
    have e2 : (n.toList == x.toList) = false := he
    clear he
    go_enter Try.func38, Try.ntmps38
    go_wp2
    refine bodyPost_ret (v := .bool false) (by simp [results, Try.results38, go_sem]) rfl ⟨rfl, HB0.out⟩
  | true =>
    have e2 : (n.toList == x.toList) = true := he
    clear he
    obtain ⟨b, hb⟩ : ∃ b, hasS l y = b := ⟨_, rfl⟩
    have HH := Lib.hid hb
    clear hb
    go_enter Try.func38, Try.ntmps38
    go_wp2_with (go_at_call 39; refine (contains_is _ _ l y H.out b HH.out).mono ?_; rintro e w' ⟨rfl, rfl⟩)
    refine bodyPost_ret (v := .bool b) (by simp [results, Try.results38, go_sem]) rfl ⟨by rw [HH.out]; rfl, HB0.out⟩

set_option maxRecDepth 100000 in
set_option maxHeartbeats 1600000 in
theorem legal_any (w : World) (v u : Value) (l : List Var) (s : List Set1) (h : Vars w v l) (hs : Sets w u s) :
    Calls Try.prog 37 #[v, u, .func (.func 38) #[] #[]] w fun e w' => e = .returned (.bool (legalB l s)) ∧ Below w.heap.size w w' := by
  obtain ⟨A, L, c, rfl, hL, h1, h2, h3⟩ := h.open'
  obtain ⟨As, Ls, cs, rfl, hLs, hs1, hs2, hs3⟩ := hs.open'
  unfold maxLen at h2 hs2
  have HL := Lib.hid hL
  have HLs := Lib.hid hLs
  have H3 := Lib.hid h3
  have HS3 := Lib.hid hs3
  clear h hL h3 hs hLs hs3
  by_cases hne : L = Ls
  · subst hne
    have HV := Lib.hid (show legalB l s = (List.range l.length).all (legalP l s) by
      unfold legalB
      have e : decide (l.length = s.length) = true := by rw [decide_eq_true_iff]; exact HL.out.symm.trans HLs.out
      rw [e]; rfl)
    have e1 : ((L : Int) != (L : Int)) = false := by simp
    go_enter Try.func37, Try.ntmps37
    go_wp2
    clear e1
    go_loopw [17] (fun i wr => ∃ k : Nat, k ≤ L ∧ i = .int .i64 k ∧ Hid ((List.range k).all (legalP l s) = true) ∧ Below w.heap.size w wr) (fun i _ => L - (intOf i).toNat)
    case atStart => exact ⟨0, Nat.zero_le _, rfl, Lib.hid (by simp), Below.refl _ _⟩
    case round =>
      obtain ⟨k, hk, rfl, hall, hbw⟩ := hrel
      by_cases hlt : k < L
      · obtain ⟨b, off, rfl, hb, hc⟩ := H3.out (by omega)
        obtain ⟨bs, os, rfl, hbs, hcs⟩ := HS3.out (by omega)
        obtain ⟨g1, ⟨u, g2, g3⟩, g4⟩ := hc k hlt
        obtain ⟨s1, s2, s3, s4⟩ := hcs k hlt
        have g3' := g3
        obtain ⟨A1, L1, c1, rfl, g5⟩ := g3'.open'
        have hbwz := hbw.size
        have q1 := (hbw.cell (p := ⟨b, off + k * 2, none⟩) hb).trans g1
        have q2 := (hbw.cell (p := ⟨b, off + k * 2 + 1, none⟩) hb).trans g2
        have q3 := cell_alloc_l (.cells #[.string (nthV l k).1, .slice A1 L1 c1] 35) ((hbw.cell (p := ⟨bs, os + k * 2, none⟩) hbs).trans s1)
        have q4 := cell_alloc_l (.cells #[.string (nthV l k).1, .slice A1 L1 c1] 35) ((hbw.cell (p := ⟨bs, os + k * 2 + 1, none⟩) hbs).trans s2)
        have hbA : Below w.heap.size w ((wr.alloc (.cells #[.string (nthV l k).1, .slice A1 L1 c1] 35)).alloc (.cells #[.string (nthT s k).1, .string (nthT s k).2] 37)) := (hbw.alloc hbw.size _).alloc (by simp; omega) _
        have G3 := Lib.hid (g3.below hbA (Nat.le_refl _))
        have HBA := Lib.hid hbA
        have hkl : k < l.length := by rw [← HL.out]; exact hlt
        have k0 : (0 : Int) ≤ (k : Int) := by omega
        have k1 : (k : Int) < (L : Int) := by omega
        have HP := Lib.hid (show legalP l s k = (eqS (nthV l k).1 (nthT s k).1 && hasS (nthV l k).2 (nthT s k).2) from rfl)
        have HF := Lib.hid (fun (hp : legalP l s k = false) => show legalB l s = false from HV.out.trans (range_false hkl hp))
        clear hc hcs g1 g2 g3 g3' g5 s1 s2 hbw hbA hkl
        go_wp2_with fail
        refine (legalC_any _ _ _ (nthV l k).2 _ _ G3.out).mono ?_
        rintro e w3 ⟨rfl, hb3⟩
        have HB3 := Lib.hid (HBA.out.trans (hb3.mono HBA.out.size))
        clear hb3 q1 q2 q3 q4
        cases hh : (eqS (nthV l k).1 (nthT s k).1 && hasS (nthV l k).2 (nthT s k).2) with
        | false =>
          have Hv := Lib.hid (HF.out (by rw [HP.out, hh]))
          clear hh
          go_wp2
          go_ret
          exact ⟨by rw [Hv.out]; rfl, HB3.out⟩
        | true =>
          have hn : Hid ((List.range (k + 1)).all (legalP l s) = true) := Lib.hid (by rw [range_snoc, hall.out, HP.out, hh]; rfl)
          clear hh
          go_wp2
          go_roundw
          case rel => exact ⟨k + 1, by omega, by go_num, hn, HB3.out⟩
          case measure => simp [intOf]; omega
      · obtain rfl : k = L := by omega
        have Hv := Lib.hid (show legalB l s = true by
          have := hall.out
          rw [HL.out] at this
          rw [HV.out]; exact this)
        go_wp2
        go_ret
        exact ⟨by rw [Hv.out]; rfl, hbw⟩
  · have e1 : ((L : Int) != (Ls : Int)) = true := by simp; omega
    have Hv := Lib.hid (show legalB l s = false by
      unfold legalB
      have e : decide (l.length = s.length) = false := by rw [decide_eq_false_iff_not, ← HL.out, ← HLs.out]; exact hne
      rw [e]; rfl)
    go_enter Try.func37, Try.ntmps37
    go_wp2
    go_ret
    exact ⟨by rw [Hv.out]; rfl, Below.refl _ _⟩

theorem vLegal_any (w : World) (v u : Value) (l : List Var) (s : List Set1) (h : Vars w v l) (hs : Sets w u s) :
    Calls Try.prog 17 #[v, u] w fun e w' => e = .returned (.bool (legalB l s)) ∧ Below w.heap.size w w' := by
  have HH := Lib.hid (legal_any w v u l s h hs)
  clear h hs
  go_enter Try.func17, Try.ntmps17
  go_wp2_with fail
  refine HH.out.mono ?_
  rintro e w' ⟨rfl, hb⟩
  go_wp2
  go_ret
  exact ⟨rfl, hb⟩

def unusualB (us s : List Set1) : Nat := s.countP fun x => !hasT us x
theorem unusual_snoc {s : List Set1} {k : Nat} (hk : k < s.length) (us : List Set1) : unusualB us (s.take (k + 1)) = unusualB us (s.take k) + (if hasT us (nthT s k) then 0 else 1) := by
  unfold unusualB
  rw [List.take_succ_eq_append_getElem hk, List.countP_append, nthT_lt hk]
  congr 1
  cases h : hasT us s[k] <;> simp [h]
theorem unusual_le (us s : List Set1) (k : Nat) : unusualB us (s.take k) ≤ k := by
  unfold unusualB
  exact Nat.le_trans List.countP_le_length (by rw [List.length_take]; omega)

set_option maxRecDepth 100000 in
set_option maxHeartbeats 1600000 in
theorem unusual_any (w : World) (v u : Value) (l : List Var) (s : List Set1) (h : Vars w v l) (hs : Sets w u s) (hl : l.length ≤ 60000) :
    Calls Try.prog 19 #[v, u] w fun e w' => e = .returned (.int .i64 ((unusualB (usualB l) s : Nat) : Int)) ∧ Below w.heap.size w w' := by
  have hsm := h.small
  have husm : ∀ x ∈ usualB l, x.1.size ≤ maxLen ∧ x.2.size ≤ maxLen := by
    intro x hx
    unfold usualB at hx
    rw [List.mem_filterMap] at hx
    obtain ⟨y, hy, e⟩ := hx
    obtain ⟨m1, m2⟩ := hsm y hy
    split at e
    · cases e
    · rename_i z r hz
      injection e with e
      subst e
      exact ⟨m1, m2 z (by rw [hz]; simp)⟩
  have HUS := Lib.hid husm
  obtain ⟨As, Ls, cs, rfl, hLs, hs1, hs2, hs3⟩ := hs.open'
  unfold maxLen at hs2
  have HLs := Lib.hid hLs
  have HS3 := Lib.hid hs3
  have HC := Lib.hid (usual_any w v l h hl)
  clear h hs hLs hs3 hsm husm hl
  go_enter Try.func19, Try.ntmps19
  go_wp2_with fail
  refine HC.out.mono ?_
  rintro e w1 ⟨A, n, c, rfl, hown, hb1⟩
  have HU := Lib.hid (hown.sets HUS.out)
  have HB1 := Lib.hid hb1
  clear hown hb1
  go_wp2_with fail
  refine (among_any w1 _ (usualB l) HU.out).mono ?_
  rintro e w2 ⟨rfl, hz2, hp2, hb2⟩
  have HU2 := Lib.hid (HU.out.below hb2 (Nat.le_refl _))
  have HP2 := Lib.hid hp2
  have HB2 := Lib.hid (HB1.out.trans (hb2.mono HB1.out.size))
  have hz : w1.heap.size < w2.heap.size := by omega
  clear hz2 hp2 hb2
  go_wp2
  go_loopw [6, 14] (fun t i wr => ∃ k m : Nat, k ≤ Ls ∧ i = .int .i64 k ∧ t = .int .i64 m ∧ m ≤ k ∧ Hid (m = unusualB (usualB l) (s.take k)) ∧ Below w2.heap.size w2 wr) (fun _ i _ => Ls - (intOf i).toNat)
  case atStart => exact ⟨0, 0, Nat.zero_le _, rfl, rfl, Nat.le_refl _, Lib.hid (by simp [unusualB]), Below.refl _ _⟩
  case round =>
    obtain ⟨k, m, hk, rfl, rfl, hm, hme, hbw⟩ := hrel
    have HBW := Lib.hid hbw
    have HBT := Lib.hid (HB2.out.trans (hbw.mono HB2.out.size))
    by_cases hlt : k < Ls
    · obtain ⟨b, off, rfl, hb, hc⟩ := HS3.out (by omega)
      have c0 := (HBT.out.cell (p := ⟨b, off + k * 2, none⟩) hb).trans (hc k hlt).1
      have c1 := (HBT.out.cell (p := ⟨b, off + k * 2 + 1, none⟩) hb).trans (hc k hlt).2.1
      have hkl : k < s.length := by rw [← HLs.out]; exact hlt
      have HSN := Lib.hid (unusual_snoc hkl (usualB l))
      have hbA : Below w2.heap.size w2 (wr.alloc (.cells #[.string (nthT s k).1, .string (nthT s k).2] 37)) := hbw.alloc hbw.size _
      have HP3 := Lib.hid ((hbA.cell (p := ⟨w1.heap.size, 0, none⟩) hz).trans HP2.out)
      have HU3 := Lib.hid (HU2.out.below hbA (Nat.le_refl _))
      have HBA := Lib.hid hbA
      clear hc hbw hkl hbA
      go_wp2_with fail
      refine (amongC_any _ _ (usualB l) _ _ w1.heap.size HU3.out HP3.out).mono ?_
      rintro e w3 ⟨rfl, hb3⟩
      have HB3 := Lib.hid (HBA.out.trans (hb3.mono HBA.out.size))
      clear hb3 c0 c1
      cases hh : hasT (usualB l) ((nthT s k).1, (nthT s k).2) with
      | false =>
        have hn : Hid (m + 1 = unusualB (usualB l) (s.take (k + 1))) := Lib.hid (by rw [HSN.out, ← hme.out, show nthT s k = ((nthT s k).1, (nthT s k).2) from rfl, hh]; rfl)
        clear hh
        go_wp2
        go_roundw
        case rel => exact ⟨k + 1, m + 1, by omega, by go_num, by go_num, by omega, hn, HB3.out⟩
        case measure => simp [intOf]; omega
      | true =>
        have hn : Hid (m = unusualB (usualB l) (s.take (k + 1))) := Lib.hid (by rw [HSN.out, ← hme.out, show nthT s k = ((nthT s k).1, (nthT s k).2) from rfl, hh]; rfl)
        clear hh
        go_wp2
        go_roundw
        case rel => exact ⟨k + 1, m, by omega, by go_num, rfl, by omega, hn, HB3.out⟩
        case measure => simp [intOf]; omega
    · obtain rfl : k = Ls := by omega
      have Hv := Lib.hid (show m = unusualB (usualB l) s by
        have := hme.out
        rwa [HLs.out, List.take_length] at this)
      clear hbw
      go_wp2
      go_ret
      exact ⟨by rw [← Hv.out]; rfl, HBT.out⟩

end Go.Proofs.Ytbdceeecngibmaa.Va
