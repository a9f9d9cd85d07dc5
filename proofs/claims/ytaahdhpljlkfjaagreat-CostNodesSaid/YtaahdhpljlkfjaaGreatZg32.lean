/- The document's Has, Meets, Same. -/
import Derived.Test.YtaahdhpljlkfjaaGreatZg25
import Derived.Test.YtaahdhpljlkfjaaGreatZg31
namespace Go.Proofs.YtaahdhpljlkfjaaGreat.Va
open Go.RowKit

set_option maxRecDepth 100000 in
set_option maxHeartbeats 800000 in
theorem refHas_any (w : World) (v : Value) (l : List Set1) (x y : ByteArray) (h : Sets w v l) :
    Calls Tryz.prog 108 #[v, .agg #[.string x, .string y]] w fun e w' => e = .returned (.bool (hasT l (x, y))) ∧ Below w.heap.size w w' := by
  obtain ⟨A, L, c, rfl, hL, h1, h2, h3⟩ := h.open'
  unfold maxLen at h2
  have HL := Lib.hid hL
  have H3 := Lib.hid h3
  have hb0 : Below w.heap.size w (w.alloc (.cells #[.string x, .string y] 94)) := (Below.refl _ _).alloc (Nat.le_refl _) _
  have hnew := heap_alloc_new w (.cells #[.string x, .string y] 94)
  have HB0 := Lib.hid hb0
  have HNEW := Lib.hid hnew
  clear h hL h3 hb0 hnew
  go_enter Tryz.func108, Tryz.ntmps108
  go_wp2
  go_loopw [8] (fun i wr => ∃ k : Nat, k ≤ L ∧ i = .int .i64 k ∧ Hid ((l.take k).any (eqT (x, y)) = false) ∧ Below (w.heap.size + 1) (w.alloc (.cells #[.string x, .string y] 94)) wr) (fun i _ => L - (RowKit.intOf i).toNat)
  case atStart => exact ⟨0, Nat.zero_le _, rfl, Lib.hid (by simp), Below.refl _ _⟩
  case round =>
    obtain ⟨k, hk, rfl, hall, hbw⟩ := hrel
    have HBW := Lib.hid hbw
    by_cases hlt : k < L
    · obtain ⟨b, off, rfl, hb, hc⟩ := H3.out (by omega)
      have c0 := (hbw.cell (p := ⟨b, off + k * 2, none⟩) (by simp; omega)).trans ((HB0.out.cell (p := ⟨b, off + k * 2, none⟩) hb).trans (hc k hlt).1)
      have c1 := (hbw.cell (p := ⟨b, off + k * 2 + 1, none⟩) (by simp; omega)).trans ((HB0.out.cell (p := ⟨b, off + k * 2 + 1, none⟩) hb).trans (hc k hlt).2.1)
      have x0 := (hbw.cell (p := ⟨w.heap.size, 0, none⟩) (by simp)).trans (cells_get HNEW.out 0 (v := .string x) rfl)
      have x1 := (hbw.cell (p := ⟨w.heap.size, 1, none⟩) (by simp)).trans (cells_get HNEW.out 1 (v := .string y) rfl)
      have hkl : k < l.length := by rw [← HL.out]; exact hlt
      have HS := Lib.hid (any_snocT hkl (eqT (x, y)))
      have k0 : (0 : Int) ≤ (k : Int) := by omega
      have k1 : (k : Int) < (L : Int) := by omega
      clear hc hbw
      cases he : eqS x (nthT l k).1 with
      | false =>
        have hn : Hid ((l.take (k + 1)).any (eqT (x, y)) = false) := Lib.hid (by rw [HS.out, hall.out]; unfold eqT; rw [he]; rfl)
        have e2 : ((nthT l k).1.toList == x.toList) = false := by rw [Bool.beq_comm]; exact he
        clear he hkl
        go_wp2_with fail
        go_quiet (fail)
        go_wp2
        go_roundw
        case rel => exact ⟨k + 1, by omega, by go_num, hn, below_draws HBW.out _⟩
        case measure => simp [RowKit.intOf]; omega
      | true =>
        have e2 : ((nthT l k).1.toList == x.toList) = true := by rw [Bool.beq_comm]; exact he
        cases he' : eqS y (nthT l k).2 with
        | false =>
          have hn : Hid ((l.take (k + 1)).any (eqT (x, y)) = false) := Lib.hid (by rw [HS.out, hall.out]; unfold eqT; rw [he, he']; rfl)
          have e3 : ((nthT l k).2.toList == y.toList) = false := by rw [Bool.beq_comm]; exact he'
          clear he he' hkl
          go_wp2_with fail
          go_quiet (fail)
          go_wp2
          go_roundw
          case rel => exact ⟨k + 1, by omega, by go_num, hn, below_draws HBW.out _⟩
          case measure => simp [RowKit.intOf]; omega
        | true =>
          have Hv := Lib.hid (show hasT l (x, y) = true from any_atT hkl (by unfold eqT; rw [he, he']; rfl))
          have e3 : ((nthT l k).2.toList == y.toList) = true := by rw [Bool.beq_comm]; exact he'
          clear he he' hkl
          go_wp2_with fail
          go_quiet (fail)
          go_wp2
          go_ret
          exact ⟨by rw [Hv.out]; rfl, HB0.out.trans (below_draws (HBW.out.mono (by omega)) _)⟩
    · obtain rfl : k = L := by omega
      have Hv := Lib.hid (show hasT l (x, y) = false by
        have := hall.out
        rw [HL.out, List.take_length] at this
        exact this)
      clear hbw
      go_wp2
      go_ret
      exact ⟨by rw [Hv.out]; rfl, HB0.out.trans (HBW.out.mono (by omega))⟩


set_option maxRecDepth 100000 in
set_option maxHeartbeats 800000 in
theorem refMeets_any (w : World) (v u : Value) (s wish : List Set1) (h : Sets w v s) (hw : Sets w u wish) :
    Calls Tryz.prog 87 #[v, u] w fun e w' => e = .returned (.bool (meetsB s wish)) ∧ Below w.heap.size w w' := by
  obtain ⟨A, L, c, rfl, hL, h1, h2, h3⟩ := hw.open'
  unfold maxLen at h2
  have HL := Lib.hid hL
  have H3 := Lib.hid h3
  have HS := Lib.hid h
  obtain ⟨As, Ls, cs, rfl, hs2⟩ := h.open'
  clear h hL h3 hw hs2
  go_enter Tryz.func87, Tryz.ntmps87
  go_wp2
  go_loopw [8] (fun i wr => ∃ k : Nat, k ≤ L ∧ i = .int .i64 k ∧ Hid (meetsB s (wish.take k) = true) ∧ Below w.heap.size w wr) (fun i _ => L - (RowKit.intOf i).toNat)
  case atStart => exact ⟨0, Nat.zero_le _, rfl, Lib.hid (by simp [meetsB]), Below.refl _ _⟩
  case round =>
    obtain ⟨k, hk, rfl, hall, hbw⟩ := hrel
    have HBW := Lib.hid hbw
    by_cases hlt : k < L
    · obtain ⟨b, off, rfl, hb, hc⟩ := H3.out (by omega)
      have c0 := (hbw.cell (p := ⟨b, off + k * 2, none⟩) hb).trans (hc k hlt).1
      have c1 := (hbw.cell (p := ⟨b, off + k * 2 + 1, none⟩) hb).trans (hc k hlt).2.1
      have hkl : k < wish.length := by rw [← HL.out]; exact hlt
      have HSN := Lib.hid (meets_snoc hkl s)
      have HKL := Lib.hid hkl
      have HS2 := Lib.hid (HS.out.below hbw (Nat.le_refl _))
      have k0 : (0 : Int) ≤ (k : Int) := by omega
      have k1 : (k : Int) < (L : Int) := by omega
      clear hc hbw hkl
      cases hh : hasT s (nthT wish k) with
      | false =>
        have hv : meetsB s wish = false := by
          unfold meetsB
          rw [List.all_eq_false]
          exact ⟨nthT wish k, nthT_mem HKL.out, by simp [hh]⟩
        have HV := Lib.hid hv
        have HH := Lib.hid (show hasT s ((nthT wish k).1, (nthT wish k).2) = false from hh)
        clear hv hh
        go_wp2_with fail
        refine (refHas_any _ _ s _ _ HS2.out).mono ?_
        rw [HH.out]
        rintro e w3 ⟨rfl, hb3⟩
        have HB3 := Lib.hid (HBW.out.trans (hb3.mono HBW.out.size))
        clear hb3
        go_wp2
        go_ret
        exact ⟨by rw [HV.out]; rfl, HB3.out⟩
      | true =>
        have HN := Lib.hid (show meetsB s (wish.take (k + 1)) = true by rw [HSN.out, hall.out, hh]; rfl)
        have HH := Lib.hid (show hasT s ((nthT wish k).1, (nthT wish k).2) = true from hh)
        clear hh
        go_wp2_with fail
        refine (refHas_any _ _ s _ _ HS2.out).mono ?_
        rw [HH.out]
        rintro e w3 ⟨rfl, hb3⟩
        have HB3 := Lib.hid (HBW.out.trans (hb3.mono HBW.out.size))
        clear hb3
        go_wp2
        go_roundw
        case rel => exact ⟨k + 1, by omega, by go_num, HN, HB3.out⟩
        case measure => simp [RowKit.intOf]; omega
    · obtain rfl : k = L := by omega
      have HV := Lib.hid (show meetsB s wish = true by
        have := hall.out
        rw [HL.out, List.take_length] at this
        exact this)
      clear hbw
      go_wp2
      go_ret
      exact ⟨by rw [HV.out]; rfl, HBW.out⟩

end Go.Proofs.YtaahdhpljlkfjaaGreat.Va

/- Is a node as a wish says? Both. -/
namespace Go.Proofs.YtaahdhpljlkfjaaGreat.Rc
open Go.RowKit

set_option maxRecDepth 100000 in
set_option maxHeartbeats 1600000 in
theorem holds_is (w : World) (u1 u2 s1 s2 : Value) (n : Node) (s : Spec) (hn : IsNode w u1 u2 n) (hs : IsSpec w s1 s2 s) (b : Bool) (hb : holdsB n s = b) :
    Calls Tryz.prog 76 #[.agg #[.string n.name, .string n.ver, u1, u2], .agg #[.string s.name, s1, s2]] w fun e w' => e = .returned (.bool b) ∧ Below w.heap.size w w' := by
  obtain ⟨A1, L1, c1, rfl⟩ := hn.sets.sl
  obtain ⟨A2, L2, c2, rfl⟩ := hn.needs.sl
  obtain ⟨A3, L3, c3, rfl⟩ := hs.spans.sl
  obtain ⟨A4, L4, c4, rfl⟩ := hs.sets.sl
  have HX := Lib.hid (Bxs.two w #[.string n.name, .string n.ver, .slice A1 L1 c1, .slice A2 L2 c2] 63 #[.string s.name, .slice A3 L3 c3, .slice A4 L4 c4] 59)
  have HN := Lib.hid hn
  have HS := Lib.hid hs
  obtain ⟨p, hp⟩ : ∃ p, Ver.hasL s.spans n.ver.data.toList = p := ⟨_, rfl⟩
  obtain ⟨r, hr⟩ : ∃ r, Va.meetsB n.sets s.sets = r := ⟨_, rfl⟩
  have hv : b = (p && r) := by rw [← hb, ← hp, ← hr]; rfl
  have HP := Lib.hid hp
  have HR := Lib.hid hr
  clear hn hs hp hr hb
  go_enter Tryz.func76, Tryz.ntmps76
  have a1 := HX.out.get 0 1 (v := .string n.ver) rfl rfl
  have a2 := HX.out.get 0 2 (v := .slice A1 L1 c1) rfl rfl
  have b1 := HX.out.get 1 1 (v := .slice A3 L3 c3) rfl rfl
  have b2 := HX.out.get 1 2 (v := .slice A4 L4 c4) rfl rfl
  rw [Nat.add_zero] at a1 a2
  go_wp2_with fail
  refine (Ver.hasL_is _ _ s.spans n.ver (HS.out.spans.below HX.out.bel (Nat.le_refl _)) p HP.out).mono ?_
  rintro e w1 ⟨rfl, hb1⟩
  have HX1 := Lib.hid (HX.out.step hb1)
  clear hb1 a1 a2 b1 b2
  cases p with
  | false =>
    obtain rfl : b = false := hv
    go_wp2
    go_ret
    exact ⟨rfl, HX1.out.bel⟩
  | true =>
    obtain rfl : b = r := by rw [hv]; rfl
    have a2 := HX1.out.get 0 2 (v := .slice A1 L1 c1) rfl rfl
    have b2 := HX1.out.get 1 2 (v := .slice A4 L4 c4) rfl rfl
    rw [Nat.add_zero] at a2
    clear hv
    go_wp2_with fail
    refine (Va.meets_any _ _ _ n.sets s.sets (to_sets (HN.out.sets.below HX1.out.bel (Nat.le_refl _))) (to_sets (HS.out.sets.below HX1.out.bel (Nat.le_refl _)))).mono ?_
    rintro e w2 ⟨rfl, hb2⟩
    have HX2 := Lib.hid (HX1.out.step hb2)
    rw [HR.out]
    clear hb2
    go_wp2
    go_ret
    exact ⟨rfl, HX2.out.bel⟩

set_option maxRecDepth 100000 in
set_option maxHeartbeats 1600000 in
theorem refHolds_is (w : World) (u1 u2 s1 s2 : Value) (n : Node) (s : Spec) (hn : IsNode w u1 u2 n) (hs : IsSpec w s1 s2 s) (b : Bool) (hb : holdsB n s = b) :
    Calls Tryz.prog 58 #[.agg #[.string n.name, .string n.ver, u1, u2], .agg #[.string s.name, s1, s2]] w fun e w' => e = .returned (.bool b) ∧ Below w.heap.size w w' := by
  obtain ⟨A1, L1, c1, rfl⟩ := hn.sets.sl
  obtain ⟨A2, L2, c2, rfl⟩ := hn.needs.sl
  obtain ⟨A3, L3, c3, rfl⟩ := hs.spans.sl
  obtain ⟨A4, L4, c4, rfl⟩ := hs.sets.sl
  have HX := Lib.hid (Bxs.two w #[.string n.name, .string n.ver, .slice A1 L1 c1, .slice A2 L2 c2] 63 #[.string s.name, .slice A3 L3 c3, .slice A4 L4 c4] 59)
  have HN := Lib.hid hn
  have HS := Lib.hid hs
  obtain ⟨p, hp⟩ : ∃ p, Ver.hasL s.spans n.ver.data.toList = p := ⟨_, rfl⟩
  obtain ⟨r, hr⟩ : ∃ r, Va.meetsB n.sets s.sets = r := ⟨_, rfl⟩
  have hv : b = (p && r) := by rw [← hb, ← hp, ← hr]; rfl
  have HP := Lib.hid hp
  have HR := Lib.hid hr
  clear hn hs hp hr hb
  go_enter Tryz.func58, Tryz.ntmps58
  have a1 := HX.out.get 0 1 (v := .string n.ver) rfl rfl
  have a2 := HX.out.get 0 2 (v := .slice A1 L1 c1) rfl rfl
  have b1 := HX.out.get 1 1 (v := .slice A3 L3 c3) rfl rfl
  have b2 := HX.out.get 1 2 (v := .slice A4 L4 c4) rfl rfl
  rw [Nat.add_zero] at a1 a2
  go_wp2_with fail
  refine (Ver.refHasL_is _ _ s.spans n.ver (HS.out.spans.below HX.out.bel (Nat.le_refl _)) p HP.out).mono ?_
  rintro e w1 ⟨rfl, hb1⟩
  have HX1 := Lib.hid (HX.out.step hb1)
  clear hb1 a1 a2 b1 b2
  cases p with
  | false =>
    obtain rfl : b = false := hv
    go_wp2
    go_ret
    exact ⟨rfl, HX1.out.bel⟩
  | true =>
    obtain rfl : b = r := by rw [hv]; rfl
    have a2 := HX1.out.get 0 2 (v := .slice A1 L1 c1) rfl rfl
    have b2 := HX1.out.get 1 2 (v := .slice A4 L4 c4) rfl rfl
    rw [Nat.add_zero] at a2
    clear hv
    go_wp2_with fail
    refine (Va.refMeets_any _ _ _ n.sets s.sets (to_sets (HN.out.sets.below HX1.out.bel (Nat.le_refl _))) (to_sets (HS.out.sets.below HX1.out.bel (Nat.le_refl _)))).mono ?_
    rintro e w2 ⟨rfl, hb2⟩
    have HX2 := Lib.hid (HX1.out.step hb2)
    rw [HR.out]
    clear hb2
    go_wp2
    go_ret
    exact ⟨rfl, HX2.out.bel⟩
end Go.Proofs.YtaahdhpljlkfjaaGreat.Rc
