/- CheckNames' walk. -/
import Derived.Test.YtggejmojbebhfaaRcCheckLaw
import Derived.Deep.RegionHeld3
namespace Go.Proofs.Ytggejmojbebhfaa.Rc
open Go.RowKit Go.Sort

theorem provs_wf {w : World} {x : Rec} {s : ByteArray} (hl : x.pkgs.length ≤ 1000) : ∀ n ∈ provs x s, intK.is w [encI n] n := by
  intro n hn
  unfold provs at hn
  obtain ⟨i, hi, rfl⟩ := List.mem_map.1 hn
  have := List.mem_range.1 (List.mem_filter.1 hi).1
  refine ⟨rfl, ?_⟩
  simp only [Lit.wf, Bool.and_eq_true, decide_eq_true_eq]
  constructor
  · show (-9223372036854775808 : Int) ≤ _; omega
  · show _ ≤ (9223372036854775807 : Int); omega
theorem int_at {w : World} {A : Option Addr} {L c : Nat} {l : List Int} (h : RowD intK w (.slice A L c) l) {j : Nat} (hj : j < L) :
    ∃ b off, A = some ⟨b, off, none⟩ ∧ b < w.heap.size ∧ w.cell? ⟨b, off + j, none⟩ = some (.int .i64 (nth l j)) := by
  obtain ⟨b, off, cs, ha, hb, ⟨rfl, h1⟩, hc⟩ := h.at hj
  exact ⟨b, off, ha, hb, by have := hc 0 (by decide); rw [show intK.n = 1 from rfl, Nat.mul_one] at this; exact this⟩

set_option maxRecDepth 100000 in
set_option maxHeartbeats 3200000 in
theorem checkNames_any (w : World) (v1 v2 : Value) (x : Rec) (s : ByteArray) (h : IsRec w v1 v2 x) :
    Calls Try.prog 4 #[.agg #[v1, v2], .string s] w fun e w' => e = .returned (.bool true) ∧ Below w.heap.size w w' := by
  have HI := Lib.hid (InBox.new h)
  obtain ⟨A1, L1, c1, A2, L2, c2, rfl, rfl, hr⟩ := rec_box h
  clear hr h
  go_enter Try.func4, Try.ntmps4
  go_wp2_with fail
  refine (great07_any _ _ _ x HI.out.isr).mono ?_
  rintro e w1 ⟨b, rfl, hs, hb⟩
  have HI1 := Lib.hid (HI.out.step hb)
  clear hb
  cases b with
  | true =>
    clear hs
    go_wp2_with fail
    refine (fixed9_any _).mono ?_
    rintro e w2 ⟨rfl, hb⟩
    have HB := Lib.hid (HI1.out.bel.trans (hb.mono HI1.out.bel.size))
    clear hb
    go_wp2
    go_ret
    exact ⟨rfl, HB.out⟩
  | false =>
  have hl : x.pkgs.length ≤ 1000 := Nat.le_trans (hs rfl).pkgs (by omega)
  have HL := Lib.hid hl
  clear hs hl
  by_cases hn : 1000 < s.size
  · have k0 : (1000 : Int) < (s.size : Int) := by omega
    clear hn
    go_wp2_with fail
    refine (fixed9_any _).mono ?_
    rintro e w2 ⟨rfl, hb⟩
    have HB := Lib.hid (HI1.out.bel.trans (hb.mono HI1.out.bel.size))
    clear hb
    go_wp2
    go_ret
    exact ⟨rfl, HB.out⟩
  · have k0 : ¬ (1000 : Int) < (s.size : Int) := by omega
    have hd := (⟨HI1.out.box.drewN 1, HI1.out.isr0⟩ : InBox w w1.drew _ _ _ x)
    have HC1 := Lib.hid (providers_any w1.drew _ _ x s hd.isr HL.out)
    have HD := Lib.hid hd
    have x0 := HI1.out.c0
    have x1 := HI1.out.c1
    clear hn hd
    go_wp2_with fail
    go_region_held3 (fun w' => w'.cell? ⟨w.heap.size, 0, none⟩ = some (.slice A1 L1 c1) ∧ w'.cell? ⟨w.heap.size, 1, none⟩ = some (.slice A2 L2 c2)) (go_keep) ((first | (go_at_call 13; refine HC1.out.mono ?_; rintro e w2 ⟨A3, L3, c3, rfl, hown3, hb3⟩; have HI2 := Lib.hid (HD.out.step hb3); have HO3 := Lib.hid hown3; have HC2 := Lib.hid (refProviders_any w2 _ _ x s HI2.out.isr HL.out); have o0 := HI2.out.c0; have o1 := HI2.out.c1; clear hb3 hown3) | (go_at_call 14; refine HC2.out.mono ?_; rintro e w3 ⟨A4, L4, c4, rfl, hown4, hb4⟩; have HI3 := Lib.hid (HI2.out.step hb4); have HO4 := Lib.hid hown4; have HO33 := Lib.hid (HO3.out.below hb4); have u0 := HI3.out.c0; have u1 := HI3.out.c1; clear hb4 hown4)))
    have hr3 := HO33.out.row (K := intK) rfl (provs_wf HL.out)
    have hr4 := HO4.out.row (K := intK) rfl (provs_wf HL.out)
    obtain rfl : L3 = L4 := hr3.len.trans hr4.len.symm
    obtain ⟨hc3, hm3⟩ := hr3.cap
    have HR3 := Lib.hid hr3
    have HR4 := Lib.hid hr4
    clear o0 o1 u0 u1 x0 x1 hr3 hr4 HO3 HO4 HO33 HC1 HC2
    go_wp2
    go_loopw [29] (fun i wr => ∃ k : Nat, k ≤ L3 ∧ i = .int .i64 k ∧ Below w3.heap.size w3 wr) (fun i _ => L3 - (intOf i).toNat)
    case atStart => exact ⟨0, Nat.zero_le _, rfl, Below.refl _ _⟩
    case round =>
      obtain ⟨k, hk, rfl, hbw⟩ := hrel
      have HBW := Lib.hid hbw
      by_cases hlt : k < L3
      · obtain ⟨b3, o3, rfl, hb3, d3⟩ := int_at (HR3.out.below hbw (Nat.le_refl _)) hlt
        obtain ⟨b4, o4, rfl, hb4, d4⟩ := int_at (HR4.out.below hbw (Nat.le_refl _)) hlt
        have g0 : (0 : Int) ≤ (k : Int) := by omega
        have g1 : (k : Int) < (L3 : Int) := by omega
        clear hbw
        go_wp2_with fail
        go_quiet (fail)
        go_wp2
        go_roundw
        case rel => exact ⟨k + 1, by omega, by go_num, below_draws HBW.out _⟩
        case measure => simp [intOf]; omega
      · obtain rfl : L3 = k := by omega
        obtain ⟨n, hn⟩ : ∃ n, findR x s = n := ⟨_, rfl⟩
        obtain ⟨v, hv⟩ : ∃ v, virtB x s = v := ⟨_, rfl⟩
        have HN := Lib.hid hn
        have HV := Lib.hid hv
        have hq := HI3.out.step hbw
        have HI4 := Lib.hid hq
        have x0 := cell_regrown hq.c0
        have x1 := cell_regrown hq.c1
        have C1 := Lib.hid (show ∀ d os, Calls Try.prog 10 #[] (grow (redrawn wr d) os) fun e w'' => e = .returned (.bool true) ∧ ∃ p : Regrown, w'' = grow (redrawn wr p.d) p.os from
          fun d os => Calls.regrown_of (fixed9_any _))
        have C2 := Lib.hid (show ∀ d os, Calls Try.prog 15 #[.agg #[.slice A1 L1 c1, .slice A2 L2 c2], .string s] (grow (redrawn wr d) os) fun e w'' => e = .returned (.int .i64 n) ∧ ∃ p : Regrown, w'' = grow (redrawn wr p.d) p.os from
          fun d os => Calls.regrown_of (find_is _ _ _ x s (HI4.out.isr.below (below_regrown wr d os) (Nat.le_refl _)) n HN.out))
        have C3 := Lib.hid (show ∀ d os, Calls Try.prog 16 #[.agg #[.slice A1 L1 c1, .slice A2 L2 c2], .string s] (grow (redrawn wr d) os) fun e w'' => e = .returned (.int .i64 n) ∧ ∃ p : Regrown, w'' = grow (redrawn wr p.d) p.os from
          fun d os => Calls.regrown_of (refFind_is _ _ _ x s (HI4.out.isr.below (below_regrown wr d os) (Nat.le_refl _)) n HN.out))
        have C4 := Lib.hid (show ∀ d os, Calls Try.prog 17 #[.agg #[.slice A1 L1 c1, .slice A2 L2 c2], .string s] (grow (redrawn wr d) os) fun e w'' => e = .returned (.bool v) ∧ ∃ p : Regrown, w'' = grow (redrawn wr p.d) p.os from
          fun d os => Calls.regrown_of (virtual_is _ _ _ x s (HI4.out.isr.below (below_regrown wr d os) (Nat.le_refl _)) v HV.out))
        have C5 := Lib.hid (show ∀ d os, Calls Try.prog 18 #[.agg #[.slice A1 L1 c1, .slice A2 L2 c2], .string s] (grow (redrawn wr d) os) fun e w'' => e = .returned (.bool v) ∧ ∃ p : Regrown, w'' = grow (redrawn wr p.d) p.os from
          fun d os => Calls.regrown_of (refVirtual_is _ _ _ x s (HI4.out.isr.below (below_regrown wr d os) (Nat.le_refl _)) HL.out v HV.out))
        clear hq hn hv hbw
        go_wp2_with fail
        refine wp_region_quiet_below (by kernel_rfl) (by kernel_rfl) ?_
        repeat (go_big_quiet_step (first | (go_at_call 10; with_reducible exact C1.out _ _) | (go_at_call 15; with_reducible exact C2.out _ _) | (go_at_call 16; with_reducible exact C3.out _ _) | (go_at_call 17; with_reducible exact C4.out _ _) | (go_at_call 18; with_reducible exact C5.out _ _)))
        refine wpQuiet_nil ?_
        intro _ hw'
        obtain ⟨⟨dq, osq⟩, hw''⟩ := hw'
        subst hw''
        have HG := Lib.hid (HI4.out.bel.trans ((below_regrown wr dq osq).mono HI4.out.bel.size))
        clear x0 x1
        go_wp2
        go_ret
        exact ⟨rfl, HG.out⟩
theorem checkNames_w (cs : List Value) (x : Rec) (s : ByteArray) (_hs : s.size ≤ maxLen) (w : World) (h : recK.is w cs x) :
    Calls Try.prog 4 #[.agg cs.toArray, .string s] w fun e w' => e = .returned (.bool true) ∧ Below w.heap.size w w' := by
  obtain ⟨v1, v2, rfl, h⟩ := h
  exact checkNames_any w v1 v2 x s h
end Go.Proofs.Ytggejmojbebhfaa.Rc
