/- Is a number in a row? Both. -/
import Derived.Test.YtaahdhpljlkfjaaGreatZg27
import Derived.Test.YtaahdhpljlkfjaaGreatZg12
import Derived.Test.YtaahdhpljlkfjaaGreatZg11
import Derived.Test.YtaahdhpljlkfjaaGreatZg31
namespace Go.Proofs.YtaahdhpljlkfjaaGreat.Rc
open Go.RowKit

set_option maxRecDepth 100000 in
theorem has10_is (w : World) (v : Value) (l : List Int) (n : Int) (h : RowD intK w v l) (b : Bool) (hb : decide (n ∈ l) = b) :
    Calls Tryz.prog 55 #[v, .int .i64 n] w fun e w' => e = .returned (.bool b) ∧ w = w' := by
  obtain ⟨A, L, c, rfl⟩ := h.sl
  have H := Lib.hid h
  have HL := Lib.hid h.len
  have hc := h.cap
  have HB := Lib.hid hb
  clear h hb
  go_enter Tryz.func55, Tryz.ntmps55
  go_wp2
  go_loop [8] (fun i => ∃ k : Nat, k ≤ L ∧ i = .int .i64 k ∧ Hid (n ∉ l.take k)) (fun i => L - (RowKit.intOf i).toNat)
  case atStart => exact ⟨0, Nat.zero_le _, rfl, Lib.hid (by simp)⟩
  case round =>
    obtain ⟨k, hk, rfl, HN⟩ := hrel
    by_cases hlt : k < L
    · have hkl : k < l.length := by rw [← HL.out]; exact hlt
      obtain ⟨b', off, rfl, hb', _, c0⟩ := int_at H.out hlt
      obtain ⟨m, hm⟩ : ∃ m, nth l k = m := ⟨_, rfl⟩
      rw [hm] at c0
      have HM := Lib.hid hm
      have HKL := Lib.hid hkl
      clear hm hkl
      by_cases he : m = n
      · subst he
        have HV := Lib.hid (show b = true by rw [← HB.out, ← HM.out]; simpa using nth_mem HKL.out)
        go_wp2
        go_ret
        exact ⟨ret_bool HV.out.symm, rfl⟩
      · have e1 : (m == n) = false := by simpa using he
        have HNN := Lib.hid (show n ∉ l.take (k + 1) by
          rw [take_snoc HKL.out, List.mem_append, HM.out]
          have h0 := HN.out
          have h1 : ¬ n = m := fun e => he e.symm
          simp [h0, h1])
        go_wp2
        go_round
        case rel => exact ⟨k + 1, by omega, by go_num, HNN⟩
        case measure => simp [RowKit.intOf]; omega
    · obtain rfl : k = L := by omega
      have HV := Lib.hid (show b = false by
        rw [← HB.out]
        have h0 := HN.out
        rw [HL.out, List.take_length] at h0
        simpa using h0)
      go_wp2
      go_ret
      exact ⟨ret_bool HV.out.symm, rfl⟩
end Go.Proofs.YtaahdhpljlkfjaaGreat.Rc

/- What a name may be: both. -/
namespace Go.Proofs.YtaahdhpljlkfjaaGreat.Rc
open Go.RowKit

theorem OwnV.one {α : Type} {e : TypeId} {enc : α → Value} {w : World} {base X : Nat} {x : α} (h : w.heap[X]? = some (.cells #[enc x] e (0, 0))) (hb : base ≤ X) : OwnV e enc w base (.slice (some ⟨X, 0, none⟩) 1 1) [x] :=
  ⟨rfl, .inr ⟨X, 1, #[enc x], rfl, hb, h, by simp, by simp [maxLen], rfl, rfl⟩⟩

set_option maxRecDepth 100000 in
theorem targets_any (w : World) (v1 v2 : Value) (x : Rec) (s : ByteArray) (h : IsRec w v1 v2 x) (hl : x.pkgs.length ≤ 1000) :
    Calls Tryz.prog 40 #[.agg #[v1, v2], .string s] w (GivesI (targs x s) w) := by
  have HI := Lib.hid (InBox.new h)
  have HL := Lib.hid hl
  obtain ⟨A1, L1, c1, A2, L2, c2, rfl, rfl, hr⟩ := rec_box h
  obtain ⟨n, hn⟩ : ∃ n, findR x s = n := ⟨_, rfl⟩
  have HN := Lib.hid hn
  obtain ⟨k, hk⟩ : ∃ k, knownB x s = k := ⟨_, rfl⟩
  have h0 : decide (0 ≤ n) = k := by rw [← hn, ← hk]; exact idx_any (fun p => nameIs p s) x.pkgs
  clear hr h hn hl
  cases k with
  | true =>
    rw [targs_known hk, HN.out]
    clear hk
    go_enter Tryz.func40, Tryz.ntmps40
    go_wp2_with fail
    refine (find_is _ _ _ x s HI.out.isr n HN.out).mono ?_
    rintro e w' ⟨rfl, hb⟩
    have HI2 := Lib.hid (HI.out.step hb)
    clear hb
    go_wp2
    all_goals first | (go_ret; exact ⟨_, _, _, rfl, OwnV.one (heap_alloc_new _ _) HI2.out.bel.size, (HI2.out.alloc _).bel⟩) | (exfalso; simp at h0; omega)
  | false =>
    rw [targs_not hk]
    clear hk
    go_enter Tryz.func40, Tryz.ntmps40
    go_wp2_with fail
    refine (find_is _ _ _ x s HI.out.isr n HN.out).mono ?_
    rintro e w' ⟨rfl, hb⟩
    have HI2 := Lib.hid (HI.out.step hb)
    have d0 := HI2.out.c0
    have d1 := HI2.out.c1
    clear hb
    go_wp2_with fail
    refine (providers_any _ _ _ x s HI2.out.isr HL.out).mono ?_
    rintro e w2 ⟨A, L, c, rfl, hown, hb⟩
    have HO := Lib.hid (hown.base HI2.out.bel.size)
    have HI3 := Lib.hid (HI2.out.step hb)
    clear hb d0 d1 hown
    go_wp2
    go_ret
    exact ⟨_, _, _, rfl, HO.out, HI3.out.bel⟩

set_option maxRecDepth 100000 in
theorem refTargets_any (w : World) (v1 v2 : Value) (x : Rec) (s : ByteArray) (h : IsRec w v1 v2 x) (hl : x.pkgs.length ≤ 1000) :
    Calls Tryz.prog 56 #[.agg #[v1, v2], .string s] w (GivesI (targs x s) w) := by
  have HI := Lib.hid (InBox.new h)
  have HL := Lib.hid hl
  obtain ⟨A1, L1, c1, A2, L2, c2, rfl, rfl, hr⟩ := rec_box h
  obtain ⟨n, hn⟩ : ∃ n, findR x s = n := ⟨_, rfl⟩
  have HN := Lib.hid hn
  obtain ⟨k, hk⟩ : ∃ k, knownB x s = k := ⟨_, rfl⟩
  have h0 : decide (0 ≤ n) = k := by rw [← hn, ← hk]; exact idx_any (fun p => nameIs p s) x.pkgs
  clear hr h hn hl
  cases k with
  | true =>
    rw [targs_known hk, HN.out]
    clear hk
    go_enter Tryz.func56, Tryz.ntmps56
    go_wp2_with fail
    refine (refFind_is _ _ _ x s HI.out.isr n HN.out).mono ?_
    rintro e w' ⟨rfl, hb⟩
    have HI2 := Lib.hid (HI.out.step hb)
    clear hb
    go_wp2
    all_goals first | (go_ret; exact ⟨_, _, _, rfl, OwnV.one (heap_alloc_new _ _) HI2.out.bel.size, (HI2.out.alloc _).bel⟩) | (exfalso; simp at h0; omega)
  | false =>
    rw [targs_not hk]
    clear hk
    go_enter Tryz.func56, Tryz.ntmps56
    go_wp2_with fail
    refine (refFind_is _ _ _ x s HI.out.isr n HN.out).mono ?_
    rintro e w' ⟨rfl, hb⟩
    have HI2 := Lib.hid (HI.out.step hb)
    have d0 := HI2.out.c0
    have d1 := HI2.out.c1
    clear hb
    go_wp2_with fail
    refine (refProviders_any _ _ _ x s HI2.out.isr HL.out).mono ?_
    rintro e w2 ⟨A, L, c, rfl, hown, hb⟩
    have HO := Lib.hid (hown.base HI2.out.bel.size)
    have HI3 := Lib.hid (HI2.out.step hb)
    clear hb d0 d1 hown
    go_wp2
    go_ret
    exact ⟨_, _, _, rfl, HO.out, HI3.out.bel⟩
end Go.Proofs.YtaahdhpljlkfjaaGreat.Rc

/- May a root mean a package? The document. -/
namespace Go.Proofs.YtaahdhpljlkfjaaGreat.Rc
open Go.RowKit

set_option maxRecDepth 100000 in
set_option maxHeartbeats 1600000 in
theorem refRooted_is (w : World) (v1 v2 vq : Value) (x : Rec) (q : List Root) (i : Int) (h : IsRec w v1 v2 x) (hq : RowD rootK w vq q) (hl : x.pkgs.length ≤ 1000) (b : Bool) (hb : rootedB x q i = b) :
    Calls Tryz.prog 28 #[.agg #[v1, v2], .agg #[vq], .int .i64 i] w fun e w' => e = .returned (.bool b) ∧ Below w.heap.size w w' := by
  obtain ⟨A1, L1, c1, A2, L2, c2, rfl, rfl, hL1, hL2, hc1, hm1, hc2, hm2⟩ := rec_box h
  obtain ⟨A3, L3, c3, rfl⟩ := hq.sl
  have HX0 := Lib.hid (Bxs.two w #[.slice A1 L1 c1, .slice A2 L2 c2] 25 #[.slice A3 L3 c3] 28)
  have HR := Lib.hid h
  have HQ := Lib.hid hq
  have HL := Lib.hid hq.len
  have hcq := hq.cap
  have HB := Lib.hid hb
  have HLL := Lib.hid hl
  clear h hL1 hL2 hq hb hl
  go_enter Tryz.func28, Tryz.ntmps28
  go_wp2
  go_loopw [11] (fun j wr => ∃ k : Nat, k ≤ L3 ∧ j = .int .i64 k ∧ Hid ((q.take k).any (meansB x i) = false) ∧ Hid (Bxs w wr [(#[.slice A1 L1 c1, .slice A2 L2 c2], 25), (#[.slice A3 L3 c3], 28)])) (fun j _ => L3 - (RowKit.intOf j).toNat)
  case atStart => exact ⟨0, Nat.zero_le _, rfl, Lib.hid (by simp), HX0⟩
  case round =>
    clear HX0
    obtain ⟨k, hk, rfl, HA, HX⟩ := hrel
    by_cases hlt : k < L3
    · obtain ⟨bb, off, u1, u2, rfl, hbb, -, -, p0, -, -, -⟩ := root_at (HQ.out.below HX.out.bel (Nat.le_refl _)) hlt
      have hkl : k < q.length := by rw [← HL.out]; exact hlt
      have HS := Lib.hid (any_snoc hkl (meansB x i))
      have HT := Lib.hid (fun h => any_at (p := meansB x i) hkl h)
      obtain ⟨r, hr⟩ : ∃ r, nth q k = r := ⟨_, rfl⟩
      rw [hr] at p0 HS HT
      obtain ⟨p, hp⟩ : ∃ p, decide (i ∈ targs x r.spec.name) = p := ⟨_, rfl⟩
      have HP := Lib.hid hp
      have HMP := Lib.hid (show meansB x i r = p from hp)
      have HXd := Lib.hid HX.out.drew
      have x0 := HX.out.get 0 0 (v := .slice A1 L1 c1) rfl rfl
      have x1 := HX.out.get 0 1 (v := .slice A2 L2 c2) rfl rfl
      have x2 := HX.out.get 1 0 (v := .slice (some ⟨bb, off, none⟩) L3 c3) rfl rfl
      rw [Nat.add_zero] at x0 x1
      have g0 : (0 : Int) ≤ (k : Int) := by omega
      have g1 : (k : Int) < (L3 : Int) := by omega
      clear hr hkl hp
      go_wp2_with fail
      go_region_held3 (fun w' => w'.cell? ⟨w.heap.size, 0, none⟩ = some (.slice A1 L1 c1) ∧ w'.cell? ⟨w.heap.size, 1, none⟩ = some (.slice A2 L2 c2) ∧ w'.cell? ⟨w.heap.size + 1, 0, none⟩ = some (.slice (some ⟨bb, off, none⟩) L3 c3) ∧ w'.cell? ⟨bb, off + k * 4, none⟩ = some (.string r.spec.name)) (go_keep) ((first
        | (go_at_call 56; refine (refTargets_any _ _ _ x _ (HR.out.below HXd.out.bel (Nat.le_refl _)) HLL.out).mono ?_; rintro e w2 ⟨A4, L4, c4, rfl, hown, hb2⟩; have HX2 := Lib.hid (HXd.out.step hb2); have HT2 := Lib.hid (targs_row hown HLL.out); have y0 := HX2.out.get 0 0 (v := .slice A1 L1 c1) rfl rfl; have y1 := HX2.out.get 0 1 (v := .slice A2 L2 c2) rfl rfl; have y2 := HX2.out.get 1 0 (v := .slice (some ⟨bb, off, none⟩) L3 c3) rfl rfl; rw [Nat.add_zero] at y0 y1; have y3 := (hb2.cell (p := ⟨bb, off + k * 4, none⟩) hbb).trans p0; clear hown hb2)
        | (go_at_call 55; refine (has10_is _ _ _ i HT2.out p HP.out).mono ?_; rintro e w3 ⟨rfl, rfl⟩)))
      clear x0 x1 x2 y0 y1 y2 y3 p0
      cases p with
      | true =>
        have HV := Lib.hid (show b = true by rw [← HB.out]; exact HT.out HMP.out)
        go_wp2
        go_ret
        exact ⟨ret_bool HV.out.symm, HX2.out.bel⟩
      | false =>
        have HN := Lib.hid (show (q.take (k + 1)).any (meansB x i) = false by rw [HS.out, HA.out, HMP.out]; rfl)
        go_wp2
        go_roundw
        case rel => exact ⟨k + 1, by omega, by go_num, HN, HX2⟩
        case measure => simp [RowKit.intOf]; omega
    · obtain rfl : k = L3 := by omega
      have HV := Lib.hid (show b = false by rw [← HB.out]; have := HA.out; rw [HL.out, List.take_length] at this; exact this)
      go_wp2
      go_ret
      exact ⟨ret_bool HV.out.symm, HX.out.bel⟩
end Go.Proofs.YtaahdhpljlkfjaaGreat.Rc
