/- What is wrong with a package by itself. -/
import Derived.Test.YtggejmojbebhfaaRcTwice
import Derived.Test.YtggejmojbebhfaaRcWish
import Derived.Test.YtggejmojbebhfaaVaRefMay
namespace Go.Proofs.Ytggejmojbebhfaa.Rc
open Go.RowKit

/-- Two blocks of the call's own that stay as they are. -/
structure TwoB (w0 w1 : World) (cs : Array Value) (S : TypeId) (ds : Array Value) (T : TypeId) : Prop where
  bel : Below w0.heap.size w0 w1
  b1 : w1.heap[w0.heap.size]? = some (.cells cs S (0, 0))
  b2 : w1.heap[w0.heap.size + 1]? = some (.cells ds T (0, 0))
section
variable {w0 w1 w2 : World} {cs ds : Array Value} {S T : TypeId}
theorem TwoB.new (w : World) (cs : Array Value) (S : TypeId) (ds : Array Value) (T : TypeId) : TwoB w ((w.alloc (.cells cs S)).alloc (.cells ds T)) cs S ds T := ⟨(two_boxes w cs ds S T).1.bel, (two_boxes w cs ds S T).1.blk, (two_boxes w cs ds S T).2.blk⟩
theorem TwoB.step (h : TwoB w0 w1 cs S ds T) (hb : Below w1.heap.size w1 w2) : TwoB w0 w2 cs S ds T := ⟨h.bel.trans (hb.mono h.bel.size), heap_below h.b1 hb, heap_below h.b2 hb⟩
theorem TwoB.get1 (h : TwoB w0 w1 cs S ds T) (j : Nat) {v : Value} (hv : cs[j]? = some v) : w1.cell? ⟨w0.heap.size, j, none⟩ = some v := cells_get h.b1 j hv
theorem TwoB.get2 (h : TwoB w0 w1 cs S ds T) (j : Nat) {v : Value} (hv : ds[j]? = some v) : w1.cell? ⟨w0.heap.size + 1, j, none⟩ = some v := cells_get h.b2 j hv
end

theorem rels_small {w : World} {v : Value} {l : List Rel} (h : RowD relK w v l) : ∀ r ∈ l, r.1.size ≤ maxLen := by
  obtain ⟨A, L, c, rfl⟩ := h.sl
  intro r hr
  obtain ⟨i, hi, rfl⟩ := List.mem_iff_getElem.1 hr
  obtain ⟨_, _, _, _, hs, _⟩ := rel_at h (j := i) (by rw [h.len]; exact hi)
  rwa [nth_lt hi] at hs
theorem vmay_is (w : World) (v : Value) (l : List Var) (h : RowD varK w v l) (b : Bool) (hb : Va.mayB l = b) :
    Calls Try.prog 66 #[v] w fun e w' => e = .returned (.bool b) ∧ Below w.heap.size w w' := by subst hb; exact Va.may_any w v l (to_vars h)

set_option maxRecDepth 100000 in
set_option maxHeartbeats 3200000 in
theorem packageCode_any (w : World) (v1 v2 : Value) (x : Rec) (i : Nat) (h : IsRec w v1 v2 x) (hi : i < x.pkgs.length) :
    Calls Try.prog 36 #[.agg #[v1, v2], .int .i64 (i : Int)] w fun e w' => e = .returned (.int .u8 (pkgCode x i)) ∧ Below w.heap.size w w' := by
  obtain ⟨A1, L1, c1, A2, L2, c2, rfl, rfl, hL1, hL2, hc1, hm1, hc2, hm2⟩ := rec_box h
  have hiL : i < L1 := by omega
  obtain ⟨b, off, e1, e2, e3, e4, e5, e6, rfl, hbl, hp, p0, p1, p2, p3, p4, p5, p6, p7⟩ := pkg_at h.pkgs hiL
  obtain ⟨⟨a1, n1, k1, rfl⟩, ⟨a2, n2, k2, rfl⟩, ⟨a3, n3, k3, rfl⟩, ⟨a4, n4, k4, rfl⟩, ⟨a5, n5, k5, rfl⟩, ⟨a6, n6, k6, rfl⟩⟩ := hp.sls
  unfold pkgCode
  generalize hnp : nth x.pkgs i = p at hp p0 p1 p2 p3 p4 p5 p6 p7
  have ht := TwoB.new w #[.slice (some ⟨b, off, none⟩) L1 c1, .slice A2 L2 c2] 25 #[.string p.name, .int .i64 p.line, .slice a1 n1 k1, .slice a2 n2 k2, .slice a3 n3 k3, .slice a4 n4 k4, .slice a5 n5 k5, .slice a6 n6 k6] 45
  obtain ⟨n, hn⟩ : ∃ n, findR x p.name = n := ⟨_, rfl⟩
  obtain ⟨q1, hq1⟩ : ∃ q, decide (n < (i : Int)) = q := ⟨_, rfl⟩
  obtain ⟨q2, hq2⟩ : ∃ q, provB x p.name = q := ⟨_, rfl⟩
  obtain ⟨q3, hq3⟩ : ∃ q, decide (p.rels.length = 0) = q := ⟨_, rfl⟩
  obtain ⟨q4, hq4⟩ : ∃ q, tooManyB p = q := ⟨_, rfl⟩
  obtain ⟨q5, hq5⟩ : ∃ q, twiceB (p.rels.map (·.1)) = q := ⟨_, rfl⟩
  obtain ⟨q6, hq6⟩ : ∃ q, Va.mayB p.vars = q := ⟨_, rfl⟩
  obtain ⟨q7, hq7⟩ : ∃ q, twiceB p.prov = q := ⟨_, rfl⟩
  obtain ⟨q8, hq8⟩ : ∃ q, twiceB p.files = q := ⟨_, rfl⟩
  rw [hn, hq1, hq2, hq3, hq4, hq5, hq6, hq7, hq8]
  have HN := Lib.hid hn
  have HQ2 := Lib.hid hq2
  have HQ4 := Lib.hid hq4
  have HQ5 := Lib.hid hq5
  have HQ6 := Lib.hid hq6
  have HQ7 := Lib.hid hq7
  have HQ8 := Lib.hid hq8
  have hq3' : ((n1 : Int) == 0) = q3 := by rw [← hq3, hp.rels.len, Bool.eq_iff_iff]; simp
  have HR := Lib.hid h
  have HP := Lib.hid hp
  have HT := Lib.hid ht
  have k0 : (0 : Int) ≤ (i : Int) := by omega
  have kk1 : (i : Int) < (L1 : Int) := by omega
  clear h hp ht hL1 hL2 hn hq2 hq3 hq4 hq5 hq6 hq7 hq8 hnp hi
  go_enter Try.func36, Try.ntmps36
  go_wp2_with fail
  refine (find_is _ _ _ x p.name (HR.out.below HT.out.bel (Nat.le_refl _)) n HN.out).mono ?_
  rintro e w1 ⟨rfl, hb⟩
  have HT1 := Lib.hid (HT.out.step hb)
  clear hb p0 p1 p2 p3 p4 p5 p6 p7
  cases q1 with
  | true =>
    go_wp2
    go_ret
    exact ⟨rfl, HT1.out.bel⟩
  | false =>
  have x0 := HT1.out.get1 0 (v := .slice (some ⟨b, off, none⟩) L1 c1) rfl
  have x1 := HT1.out.get1 1 (v := .slice A2 L2 c2) rfl
  have y0 := HT1.out.get2 0 (v := .string p.name) rfl
  go_wp2_with fail
  refine (provided_is _ _ _ x p.name (HR.out.below HT1.out.bel (Nat.le_refl _)) q2 HQ2.out).mono ?_
  rintro e w2 ⟨rfl, hb⟩
  have HT2 := Lib.hid (HT1.out.step hb)
  clear hb x0 x1 y0
  cases q2 with
  | true =>
    go_wp2
    go_ret
    exact ⟨rfl, HT2.out.bel⟩
  | false =>
  have y2 := HT2.out.get2 2 (v := .slice a1 n1 k1) rfl
  cases q3 with
  | true =>
    go_wp2
    go_ret
    exact ⟨rfl, HT2.out.bel⟩
  | false =>
  have y0 := HT2.out.get2 0 (v := .string p.name) rfl
  have y1 := HT2.out.get2 1 (v := .int .i64 p.line) rfl
  have y3 := HT2.out.get2 3 (v := .slice a2 n2 k2) rfl
  have y4 := HT2.out.get2 4 (v := .slice a3 n3 k3) rfl
  have y5 := HT2.out.get2 5 (v := .slice a4 n4 k4) rfl
  have y6 := HT2.out.get2 6 (v := .slice a5 n5 k5) rfl
  have y7 := HT2.out.get2 7 (v := .slice a6 n6 k6) rfl
  go_wp2_with fail
  refine (tooMany_is _ _ _ _ _ _ _ p (HP.out.below HT2.out.bel (Nat.le_refl _)) q4 HQ4.out).mono ?_
  rintro e w3 ⟨rfl, hb⟩
  have HT3 := Lib.hid (HT2.out.step hb)
  clear hb y0 y1 y2 y3 y4 y5 y6 y7
  cases q4 with
  | true =>
    go_wp2
    go_ret
    exact ⟨rfl, HT3.out.bel⟩
  | false =>
  have HLR := Lib.hid (show p.rels.length ≤ 1000 by
    have := HQ4.out
    unfold tooManyB at this
    rw [decide_eq_false_iff_not] at this; omega)
  have y0 := HT3.out.get2 0 (v := .string p.name) rfl
  have y1 := HT3.out.get2 1 (v := .int .i64 p.line) rfl
  have y2 := HT3.out.get2 2 (v := .slice a1 n1 k1) rfl
  have y3 := HT3.out.get2 3 (v := .slice a2 n2 k2) rfl
  have y4 := HT3.out.get2 4 (v := .slice a3 n3 k3) rfl
  have y5 := HT3.out.get2 5 (v := .slice a4 n4 k4) rfl
  have y6 := HT3.out.get2 6 (v := .slice a5 n5 k5) rfl
  have y7 := HT3.out.get2 7 (v := .slice a6 n6 k6) rfl
  go_wp2_with fail
  refine (versions_any _ _ _ _ _ _ _ p (HP.out.below HT3.out.bel (Nat.le_refl _)) HLR.out).mono ?_
  rintro e w4 ⟨A, L, c, rfl, hown, hb⟩
  have HT4 := Lib.hid (HT3.out.step hb)
  have HV4 := Lib.hid (hown.row (K := strK) rfl (fun s hs => by
    obtain ⟨r, hr, rfl⟩ := List.mem_map.1 hs
    exact ⟨rfl, (rels_small HP.out.rels) r hr⟩))
  clear hb hown y0 y1 y2 y3 y4 y5 y6 y7
  go_wp2_with fail
  refine (twice_is _ _ _ HV4.out q5 HQ5.out).mono ?_
  rintro e w4 ⟨rfl, rfl⟩
  cases q5 with
  | true =>
    go_wp2
    go_ret
    exact ⟨rfl, HT4.out.bel⟩
  | false =>
  have y3 := HT4.out.get2 3 (v := .slice a2 n2 k2) rfl
  go_wp2_with fail
  refine (vmay_is _ _ _ (HP.out.vars.below HT4.out.bel (Nat.le_refl _)) q6 HQ6.out).mono ?_
  rintro e w5 ⟨rfl, hb⟩
  have HT5 := Lib.hid (HT4.out.step hb)
  clear hb y3
  cases q6 with
  | false =>
    go_wp2
    go_ret
    exact ⟨rfl, HT5.out.bel⟩
  | true =>
  have y4 := HT5.out.get2 4 (v := .slice a3 n3 k3) rfl
  have y7 := HT5.out.get2 7 (v := .slice a6 n6 k6) rfl
  go_wp2_with fail
  refine (twice_is _ _ _ (HP.out.prov.below HT5.out.bel (Nat.le_refl _)) q7 HQ7.out).mono ?_
  rintro e w5 ⟨rfl, rfl⟩
  cases q7 with
  | true =>
    go_wp2
    go_ret
    exact ⟨rfl, HT5.out.bel⟩
  | false =>
  go_wp2_with fail
  refine (twice_is _ _ _ (HP.out.files.below HT5.out.bel (Nat.le_refl _)) q8 HQ8.out).mono ?_
  rintro e w5 ⟨rfl, rfl⟩
  cases q8 with
  | true =>
    go_wp2
    go_ret
    exact ⟨rfl, HT5.out.bel⟩
  | false =>
    go_wp2
    go_ret
    exact ⟨rfl, HT5.out.bel⟩
theorem packageCode_is (w : World) (v1 v2 : Value) (x : Rec) (i : Nat) (h : IsRec w v1 v2 x) (hi : i < x.pkgs.length) (c : Int) (hc : pkgCode x i = c) :
    Calls Try.prog 36 #[.agg #[v1, v2], .int .i64 (i : Int)] w fun e w' => e = .returned (.int .u8 c) ∧ Below w.heap.size w w' := by subst hc; exact packageCode_any w v1 v2 x i h hi
end Go.Proofs.Ytggejmojbebhfaa.Rc
