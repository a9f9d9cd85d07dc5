/- SpanOnes. -/
import Derived.Test.YtgncikkfkmiejaaSpan9
import Derived.Test.YtgncikkfkmiejaaSpan5
import Derived.Lib.QuietBelow
namespace Go.Proofs.Ytgncikkfkmiejaa.Ver
open Go.RowKit Go.Sort

set_option maxRecDepth 100000 in
set_option maxHeartbeats 8000000 in
theorem spanOnes_any (v : ByteArray) (_hv : v.size ≤ maxLen) (u : ByteArray) (_hu : u.size ≤ maxLen) (alo ahi blo bhi : ByteArray) (w : World) :
    Calls Try.prog 8 #[.string v, .string u, .agg #[.string alo, .string ahi], .agg #[.string blo, .string bhi]] w fun e w' => e = .returned (.bool true) ∧ Below w.heap.size w w' := by
  obtain ⟨hb0, p0_0, p1_0⟩ := two_new w alo ahi blo bhi 23
  by_cases h3 : 3000 < v.size
  · have g1 : (3000 : Int) < v.size := by omega
    clear h3
    go_enter Try.func8, Try.ntmps8
    go_wp2_with fail
    refine (fixed_any _).mono ?_
    rintro e w1 ⟨rfl, h1⟩
    have hb1 := hb0.trans (h1.mono hb0.size)
    have p0_1 := p0_0.below h1
    have c0_1 := p0_1.1
    have d0_1 := p0_1.2.1
    have f0_1 := p0_1.2.2.1
    have g0_1 := p0_1.2.2.2
    have p1_1 := p1_0.below h1
    have c1_1 := p1_1.1
    have d1_1 := p1_1.2.1
    have f1_1 := p1_1.2.2.1
    have g1_1 := p1_1.2.2.2
    go_wp2
    go_ret
    exact ⟨rfl, hb1⟩
  have g1 : ¬ (3000 : Int) < v.size := by omega
  clear h3
  by_cases h3 : 3000 < u.size
  · have g2 : (3000 : Int) < u.size := by omega
    clear h3
    go_enter Try.func8, Try.ntmps8
    go_wp2_with fail
    refine (fixed_any _).mono ?_
    rintro e w1 ⟨rfl, h1⟩
    have hb1 := hb0.trans (h1.mono hb0.size)
    have p0_1 := p0_0.below h1
    have c0_1 := p0_1.1
    have d0_1 := p0_1.2.1
    have f0_1 := p0_1.2.2.1
    have g0_1 := p0_1.2.2.2
    have p1_1 := p1_0.below h1
    have c1_1 := p1_1.1
    have d1_1 := p1_1.2.1
    have f1_1 := p1_1.2.2.1
    have g1_1 := p1_1.2.2.2
    go_wp2
    go_ret
    exact ⟨rfl, hb1⟩
  have g2 : ¬ (3000 : Int) < u.size := by omega
  clear h3
  go_enter Try.func8, Try.ntmps8
  go_wp2_with fail
  refine (sgreat_is alo ahi _).mono ?_
  rintro e w1 ⟨rfl | ⟨rfl, _, _⟩, h1⟩
  · skip
    have hb1 := hb0.trans (h1.mono hb0.size)
    have p0_1 := p0_0.below h1
    have c0_1 := p0_1.1
    have d0_1 := p0_1.2.1
    have f0_1 := p0_1.2.2.1
    have g0_1 := p0_1.2.2.2
    have p1_1 := p1_0.below h1
    have c1_1 := p1_1.1
    have d1_1 := p1_1.2.1
    have f1_1 := p1_1.2.2.1
    have g1_1 := p1_1.2.2.2
    go_wp2_with fail
    refine (fixed_any _).mono ?_
    rintro e w2 ⟨rfl, h2⟩
    have hb2 := hb1.trans (h2.mono hb1.size)
    have p0_2 := p0_1.below h2
    have c0_2 := p0_2.1
    have d0_2 := p0_2.2.1
    have f0_2 := p0_2.2.2.1
    have g0_2 := p0_2.2.2.2
    have p1_2 := p1_1.below h2
    have c1_2 := p1_2.1
    have d1_2 := p1_2.2.1
    have f1_2 := p1_2.2.2.1
    have g1_2 := p1_2.2.2.2
    go_wp2
    go_ret
    exact ⟨rfl, hb2⟩
  have hb1 := hb0.trans (h1.mono hb0.size)
  have p0_1 := p0_0.below h1
  have c0_1 := p0_1.1
  have d0_1 := p0_1.2.1
  have f0_1 := p0_1.2.2.1
  have g0_1 := p0_1.2.2.2
  have p1_1 := p1_0.below h1
  have c1_1 := p1_1.1
  have d1_1 := p1_1.2.1
  have f1_1 := p1_1.2.2.1
  have g1_1 := p1_1.2.2.2
  go_wp2_with fail
  refine (sgreat_is blo bhi _).mono ?_
  rintro e w2 ⟨rfl | ⟨rfl, _, _⟩, h2⟩
  · skip
    have hb2 := hb1.trans (h2.mono hb1.size)
    have p0_2 := p0_1.below h2
    have c0_2 := p0_2.1
    have d0_2 := p0_2.2.1
    have f0_2 := p0_2.2.2.1
    have g0_2 := p0_2.2.2.2
    have p1_2 := p1_1.below h2
    have c1_2 := p1_2.1
    have d1_2 := p1_2.2.1
    have f1_2 := p1_2.2.2.1
    have g1_2 := p1_2.2.2.2
    go_wp2_with fail
    refine (fixed_any _).mono ?_
    rintro e w3 ⟨rfl, h3⟩
    have hb3 := hb2.trans (h3.mono hb2.size)
    have p0_3 := p0_2.below h3
    have c0_3 := p0_3.1
    have d0_3 := p0_3.2.1
    have f0_3 := p0_3.2.2.1
    have g0_3 := p0_3.2.2.2
    have p1_3 := p1_2.below h3
    have c1_3 := p1_3.1
    have d1_3 := p1_3.2.1
    have f1_3 := p1_3.2.2.1
    have g1_3 := p1_3.2.2.2
    go_wp2
    go_ret
    exact ⟨rfl, hb3⟩
  have hb2 := hb1.trans (h2.mono hb1.size)
  have p0_2 := p0_1.below h2
  have c0_2 := p0_2.1
  have d0_2 := p0_2.2.1
  have f0_2 := p0_2.2.2.1
  have g0_2 := p0_2.2.2.2
  have p1_2 := p1_1.below h2
  have c1_2 := p1_2.1
  have d1_2 := p1_2.2.1
  have f1_2 := p1_2.2.2.1
  have g1_2 := p1_2.2.2.2
  go_wp2_with fail
  have hn := below_new w2 (.cells #[.string v, .string v] 23)
  have pn := pair_new w2 v v 23
  have HB3 := Lib.hid (hb2.trans (hn.mono hb2.size))
  have P03 := Lib.hid (p0_2.below hn)
  have P13 := Lib.hid (p1_2.below hn)
  have PN := Lib.hid pn
  clear hn pn hb0 hb1 hb2 p0_0 p1_0 p0_1 p1_1 p0_2 p1_2 c0_1 d0_1 f0_1 g0_1 c1_1 d1_1 f1_1 g1_1 c0_2 d0_2 f0_2 g0_2 c1_2 d1_2 f1_2 g1_2 h1 h2
  obtain ⟨x, hx⟩ : ∃ x, shas v.data.toList v.data.toList u.data.toList = x := ⟨_, rfl⟩
  obtain ⟨y, hy⟩ : ∃ y, shas (⟨#[]⟩ : ByteArray).data.toList (⟨#[]⟩ : ByteArray).data.toList u.data.toList = y := ⟨_, rfl⟩
  obtain ⟨q, hq⟩ : ∃ q, smay v.data.toList v.data.toList = q := ⟨_, rfl⟩
  have Hx := Lib.hid hx
  have Hy := Lib.hid hy
  have Hq := Lib.hid hq
  have hone : v.data.toList.isEmpty = false → q = true → (v.toList == u.toList) = x := by
    intro h1 h2
    rw [Lib.toList_data, Lib.toList_data, ← hx, shas_one (by intro e; rw [e] at h1; cases h1) (hq.trans h2), Bool.eq_iff_iff]; simp
  clear hx hy hq
  obtain ⟨wi, hwi⟩ : ∃ b, swithin alo.data.toList ahi.data.toList blo.data.toList bhi.data.toList = b := ⟨_, rfl⟩
  obtain ⟨ha, hha⟩ : ∃ b, shas alo.data.toList ahi.data.toList u.data.toList = b := ⟨_, rfl⟩
  obtain ⟨ma, hma⟩ : ∃ b, smay alo.data.toList ahi.data.toList = b := ⟨_, rfl⟩
  have Hwb := Lib.hid (show wi = true → ha = true → shas blo.data.toList bhi.data.toList u.data.toList = true from fun h1 h2 => swithin_has (hwi.trans h1) (hha.trans h2))
  have Hwe := Lib.hid (show ma = true → swithin alo.data.toList ahi.data.toList (⟨#[]⟩ : ByteArray).data.toList (⟨#[]⟩ : ByteArray).data.toList = true from fun h => swithin_all (hma.trans h))
  have Hws := Lib.hid (show ma = true → swithin alo.data.toList ahi.data.toList alo.data.toList ahi.data.toList = true from fun h => swithin_self (hma.trans h))
  have Hwi := Lib.hid hwi
  have Hha := Lib.hid hha
  have Hma := Lib.hid hma
  clear hwi hha hma
  generalize hW : w2.alloc (.cells #[.string v, .string v] 23) = w3 at *
  obtain ⟨s, hs⟩ : ∃ s, w2.heap.size = s := ⟨_, rfl⟩
  rw [hs] at PN ⊢
  clear hs hW
  have k0 := cell_regrown PN.out.1
  have k1 := cell_regrown PN.out.2.1
  have cM : ∀ d os, Calls Try.prog 12 #[.agg #[.string v, .string v]] (grow (redrawn w3 d) os) fun e w'' => e = .returned (.bool q) ∧ ∃ p : Regrown, w'' = grow (redrawn w3 p.d) p.os := fun d os => Calls.regrown_of (refSMay_is v v _ Hq.out _)
  have cH : ∀ d os, Calls Try.prog 14 #[.agg #[.string v, .string v], .string u] (grow (redrawn w3 d) os) fun e w'' => e = .returned (.bool x) ∧ ∃ p : Regrown, w'' = grow (redrawn w3 p.d) p.os := fun d os => Calls.regrown_of (refHas_is v v u _ Hx.out _)
  have cS : ∀ d os, Calls Try.prog 13 #[.agg #[.string v, .string v], .string u] (grow (redrawn w3 d) os) fun e w'' => e = .returned (.bool x) ∧ ∃ p : Regrown, w'' = grow (redrawn w3 p.d) p.os := fun d os => Calls.regrown_of (spanHas_is v v u _ Hx.out _)
  have cE : ∀ d os, Calls Try.prog 14 #[.agg #[.string ⟨#[]⟩, .string ⟨#[]⟩], .string u] (grow (redrawn w3 d) os) fun e w'' => e = .returned (.bool y) ∧ ∃ p : Regrown, w'' = grow (redrawn w3 p.d) p.os := fun d os => Calls.regrown_of (refHas_is ⟨#[]⟩ ⟨#[]⟩ u _ Hy.out _)
  have cF : ∀ d os, Calls Try.prog 13 #[.agg #[.string ⟨#[]⟩, .string ⟨#[]⟩], .string u] (grow (redrawn w3 d) os) fun e w'' => e = .returned (.bool y) ∧ ∃ p : Regrown, w'' = grow (redrawn w3 p.d) p.os := fun d os => Calls.regrown_of (spanHas_is ⟨#[]⟩ ⟨#[]⟩ u _ Hy.out _)
  have CM := Lib.hid cM
  have CH := Lib.hid cH
  have CS := Lib.hid cS
  have CE := Lib.hid cE
  have CF := Lib.hid cF
  clear cM cH cS cE cF
  rcases empty_or v with ⟨e1, e2, e3⟩ | ⟨e1, e2, e3⟩
  · clear hone e3
    refine wp_region_quiet_below (by kernel_rfl) (by kernel_rfl) ?_
    repeat (go_big_quiet_step (first | (go_at_call 12; with_reducible exact CM.out _ _) | (go_at_call 14; first | with_reducible exact CH.out _ _ | with_reducible exact CE.out _ _) | (go_at_call 13; first | with_reducible exact CS.out _ _ | with_reducible exact CF.out _ _)))
    refine wpQuiet_nil ?_
    intro _ hw'
    obtain ⟨⟨dq, osq⟩, hw''⟩ := hw'
    subst hw''
    have hgr := below_regrown w3 dq osq
    have hb4 := HB3.out.trans (hgr.mono HB3.out.size)
    have p0_4 := P03.out.below hgr
    have p1_4 := P13.out.below hgr
    generalize grow (redrawn w3 dq) osq = w4 at *
    clear hgr k0 k1
    go_wp2_with fail
    refine (fixed_any _).mono ?_
    rintro e w5 ⟨rfl, h5⟩
    have hb5 := hb4.trans (h5.mono hb4.size)
    have p0_5 := p0_4.below h5
    have c0_5 := p0_5.1
    have d0_5 := p0_5.2.1
    have f0_5 := p0_5.2.2.1
    have g0_5 := p0_5.2.2.2
    have p1_5 := p1_4.below h5
    have c1_5 := p1_5.1
    have d1_5 := p1_5.2.1
    have f1_5 := p1_5.2.2.1
    have g1_5 := p1_5.2.2.2
    go_wp2_with fail
    refine (within_is alo ahi blo bhi wi Hwi.out _).mono ?_
    rintro e w6 ⟨rfl, h6⟩
    have hb6 := hb5.trans (h6.mono hb5.size)
    have p0_6 := p0_5.below h6
    have c0_6 := p0_6.1
    have d0_6 := p0_6.2.1
    have f0_6 := p0_6.2.2.1
    have g0_6 := p0_6.2.2.2
    have p1_6 := p1_5.below h6
    have c1_6 := p1_6.1
    have d1_6 := p1_6.2.1
    have f1_6 := p1_6.2.2.1
    have g1_6 := p1_6.2.2.2
    cases wi with
    | false =>
      go_wp2_with fail
      refine (refSMay_is alo ahi ma Hma.out _).mono ?_
      rintro e w7 ⟨rfl, h7⟩
      have hb7 := hb6.trans (h7.mono hb6.size)
      have p0_7 := p0_6.below h7
      have c0_7 := p0_7.1
      have d0_7 := p0_7.2.1
      have f0_7 := p0_7.2.2.1
      have g0_7 := p0_7.2.2.2
      have p1_7 := p1_6.below h7
      have c1_7 := p1_7.1
      have d1_7 := p1_7.2.1
      have f1_7 := p1_7.2.2.1
      have g1_7 := p1_7.2.2.2
      cases ma with
      | false =>
        go_wp2
        go_ret
        exact ⟨rfl, hb7⟩
      | true =>
        go_wp2_with fail
        refine (within_is alo ahi ⟨#[]⟩ ⟨#[]⟩ true (Hwe.out (by trivial)) _).mono ?_
        rintro e w8 ⟨rfl, h8⟩
        have hb8 := hb7.trans (h8.mono hb7.size)
        have p0_8 := p0_7.below h8
        have c0_8 := p0_8.1
        have d0_8 := p0_8.2.1
        have f0_8 := p0_8.2.2.1
        have g0_8 := p0_8.2.2.2
        have p1_8 := p1_7.below h8
        have c1_8 := p1_8.1
        have d1_8 := p1_8.2.1
        have f1_8 := p1_8.2.2.1
        have g1_8 := p1_8.2.2.2
        go_wp2_with fail
        refine (within_is alo ahi alo ahi true (Hws.out (by trivial)) _).mono ?_
        rintro e w9 ⟨rfl, h9⟩
        have hb9 := hb8.trans (h9.mono hb8.size)
        have p0_9 := p0_8.below h9
        have c0_9 := p0_9.1
        have d0_9 := p0_9.2.1
        have f0_9 := p0_9.2.2.1
        have g0_9 := p0_9.2.2.2
        have p1_9 := p1_8.below h9
        have c1_9 := p1_9.1
        have d1_9 := p1_9.2.1
        have f1_9 := p1_9.2.2.1
        have g1_9 := p1_9.2.2.2
        go_wp2
        go_ret
        exact ⟨rfl, hb9⟩
    | true =>
      go_wp2_with fail
      refine (spanHas_is alo ahi u ha Hha.out _).mono ?_
      rintro e w7 ⟨rfl, h7⟩
      have hb7 := hb6.trans (h7.mono hb6.size)
      have p0_7 := p0_6.below h7
      have c0_7 := p0_7.1
      have d0_7 := p0_7.2.1
      have f0_7 := p0_7.2.2.1
      have g0_7 := p0_7.2.2.2
      have p1_7 := p1_6.below h7
      have c1_7 := p1_7.1
      have d1_7 := p1_7.2.1
      have f1_7 := p1_7.2.2.1
      have g1_7 := p1_7.2.2.2
      cases ha with
      | false =>
        go_wp2_with fail
        refine (refSMay_is alo ahi ma Hma.out _).mono ?_
        rintro e w8 ⟨rfl, h8⟩
        have hb8 := hb7.trans (h8.mono hb7.size)
        have p0_8 := p0_7.below h8
        have c0_8 := p0_8.1
        have d0_8 := p0_8.2.1
        have f0_8 := p0_8.2.2.1
        have g0_8 := p0_8.2.2.2
        have p1_8 := p1_7.below h8
        have c1_8 := p1_8.1
        have d1_8 := p1_8.2.1
        have f1_8 := p1_8.2.2.1
        have g1_8 := p1_8.2.2.2
        cases ma with
        | false =>
          go_wp2
          go_ret
          exact ⟨rfl, hb8⟩
        | true =>
          go_wp2_with fail
          refine (within_is alo ahi ⟨#[]⟩ ⟨#[]⟩ true (Hwe.out (by trivial)) _).mono ?_
          rintro e w9 ⟨rfl, h9⟩
          have hb9 := hb8.trans (h9.mono hb8.size)
          have p0_9 := p0_8.below h9
          have c0_9 := p0_9.1
          have d0_9 := p0_9.2.1
          have f0_9 := p0_9.2.2.1
          have g0_9 := p0_9.2.2.2
          have p1_9 := p1_8.below h9
          have c1_9 := p1_9.1
          have d1_9 := p1_9.2.1
          have f1_9 := p1_9.2.2.1
          have g1_9 := p1_9.2.2.2
          go_wp2_with fail
          refine (within_is alo ahi alo ahi true (Hws.out (by trivial)) _).mono ?_
          rintro e w10 ⟨rfl, h10⟩
          have hb10 := hb9.trans (h10.mono hb9.size)
          have p0_10 := p0_9.below h10
          have c0_10 := p0_10.1
          have d0_10 := p0_10.2.1
          have f0_10 := p0_10.2.2.1
          have g0_10 := p0_10.2.2.2
          have p1_10 := p1_9.below h10
          have c1_10 := p1_10.1
          have d1_10 := p1_10.2.1
          have f1_10 := p1_10.2.2.1
          have g1_10 := p1_10.2.2.2
          go_wp2
          go_ret
          exact ⟨rfl, hb10⟩
      | true =>
        go_wp2_with fail
        refine (spanHas_is blo bhi u true (Hwb.out (by trivial) (by trivial)) _).mono ?_
        rintro e w8 ⟨rfl, h8⟩
        have hb8 := hb7.trans (h8.mono hb7.size)
        have p0_8 := p0_7.below h8
        have c0_8 := p0_8.1
        have d0_8 := p0_8.2.1
        have f0_8 := p0_8.2.2.1
        have g0_8 := p0_8.2.2.2
        have p1_8 := p1_7.below h8
        have c1_8 := p1_8.1
        have d1_8 := p1_8.2.1
        have f1_8 := p1_8.2.2.1
        have g1_8 := p1_8.2.2.2
        go_wp2_with fail
        refine (refSMay_is alo ahi ma Hma.out _).mono ?_
        rintro e w9 ⟨rfl, h9⟩
        have hb9 := hb8.trans (h9.mono hb8.size)
        have p0_9 := p0_8.below h9
        have c0_9 := p0_9.1
        have d0_9 := p0_9.2.1
        have f0_9 := p0_9.2.2.1
        have g0_9 := p0_9.2.2.2
        have p1_9 := p1_8.below h9
        have c1_9 := p1_9.1
        have d1_9 := p1_9.2.1
        have f1_9 := p1_9.2.2.1
        have g1_9 := p1_9.2.2.2
        cases ma with
        | false =>
          go_wp2
          go_ret
          exact ⟨rfl, hb9⟩
        | true =>
          go_wp2_with fail
          refine (within_is alo ahi ⟨#[]⟩ ⟨#[]⟩ true (Hwe.out (by trivial)) _).mono ?_
          rintro e w10 ⟨rfl, h10⟩
          have hb10 := hb9.trans (h10.mono hb9.size)
          have p0_10 := p0_9.below h10
          have c0_10 := p0_10.1
          have d0_10 := p0_10.2.1
          have f0_10 := p0_10.2.2.1
          have g0_10 := p0_10.2.2.2
          have p1_10 := p1_9.below h10
          have c1_10 := p1_10.1
          have d1_10 := p1_10.2.1
          have f1_10 := p1_10.2.2.1
          have g1_10 := p1_10.2.2.2
          go_wp2_with fail
          refine (within_is alo ahi alo ahi true (Hws.out (by trivial)) _).mono ?_
          rintro e w11 ⟨rfl, h11⟩
          have hb11 := hb10.trans (h11.mono hb10.size)
          have p0_11 := p0_10.below h11
          have c0_11 := p0_11.1
          have d0_11 := p0_11.2.1
          have f0_11 := p0_11.2.2.1
          have g0_11 := p0_11.2.2.2
          have p1_11 := p1_10.below h11
          have c1_11 := p1_11.1
          have d1_11 := p1_11.2.1
          have f1_11 := p1_11.2.2.1
          have g1_11 := p1_11.2.2.2
          go_wp2
          go_ret
          exact ⟨rfl, hb11⟩
  cases q with
  | false =>
    clear hone
    refine wp_region_quiet_below (by kernel_rfl) (by kernel_rfl) ?_
    repeat (go_big_quiet_step (first | (go_at_call 12; with_reducible exact CM.out _ _) | (go_at_call 14; first | with_reducible exact CH.out _ _ | with_reducible exact CE.out _ _) | (go_at_call 13; first | with_reducible exact CS.out _ _ | with_reducible exact CF.out _ _)))
    refine wpQuiet_nil ?_
    intro _ hw'
    obtain ⟨⟨dq, osq⟩, hw''⟩ := hw'
    subst hw''
    have hgr := below_regrown w3 dq osq
    have hb4 := HB3.out.trans (hgr.mono HB3.out.size)
    have p0_4 := P03.out.below hgr
    have p1_4 := P13.out.below hgr
    generalize grow (redrawn w3 dq) osq = w4 at *
    clear hgr k0 k1
    go_wp2_with fail
    refine (fixed_any _).mono ?_
    rintro e w5 ⟨rfl, h5⟩
    have hb5 := hb4.trans (h5.mono hb4.size)
    have p0_5 := p0_4.below h5
    have c0_5 := p0_5.1
    have d0_5 := p0_5.2.1
    have f0_5 := p0_5.2.2.1
    have g0_5 := p0_5.2.2.2
    have p1_5 := p1_4.below h5
    have c1_5 := p1_5.1
    have d1_5 := p1_5.2.1
    have f1_5 := p1_5.2.2.1
    have g1_5 := p1_5.2.2.2
    go_wp2_with fail
    refine (within_is alo ahi blo bhi wi Hwi.out _).mono ?_
    rintro e w6 ⟨rfl, h6⟩
    have hb6 := hb5.trans (h6.mono hb5.size)
    have p0_6 := p0_5.below h6
    have c0_6 := p0_6.1
    have d0_6 := p0_6.2.1
    have f0_6 := p0_6.2.2.1
    have g0_6 := p0_6.2.2.2
    have p1_6 := p1_5.below h6
    have c1_6 := p1_6.1
    have d1_6 := p1_6.2.1
    have f1_6 := p1_6.2.2.1
    have g1_6 := p1_6.2.2.2
    cases wi with
    | false =>
      go_wp2_with fail
      refine (refSMay_is alo ahi ma Hma.out _).mono ?_
      rintro e w7 ⟨rfl, h7⟩
      have hb7 := hb6.trans (h7.mono hb6.size)
      have p0_7 := p0_6.below h7
      have c0_7 := p0_7.1
      have d0_7 := p0_7.2.1
      have f0_7 := p0_7.2.2.1
      have g0_7 := p0_7.2.2.2
      have p1_7 := p1_6.below h7
      have c1_7 := p1_7.1
      have d1_7 := p1_7.2.1
      have f1_7 := p1_7.2.2.1
      have g1_7 := p1_7.2.2.2
      cases ma with
      | false =>
        go_wp2
        go_ret
        exact ⟨rfl, hb7⟩
      | true =>
        go_wp2_with fail
        refine (within_is alo ahi ⟨#[]⟩ ⟨#[]⟩ true (Hwe.out (by trivial)) _).mono ?_
        rintro e w8 ⟨rfl, h8⟩
        have hb8 := hb7.trans (h8.mono hb7.size)
        have p0_8 := p0_7.below h8
        have c0_8 := p0_8.1
        have d0_8 := p0_8.2.1
        have f0_8 := p0_8.2.2.1
        have g0_8 := p0_8.2.2.2
        have p1_8 := p1_7.below h8
        have c1_8 := p1_8.1
        have d1_8 := p1_8.2.1
        have f1_8 := p1_8.2.2.1
        have g1_8 := p1_8.2.2.2
        go_wp2_with fail
        refine (within_is alo ahi alo ahi true (Hws.out (by trivial)) _).mono ?_
        rintro e w9 ⟨rfl, h9⟩
        have hb9 := hb8.trans (h9.mono hb8.size)
        have p0_9 := p0_8.below h9
        have c0_9 := p0_9.1
        have d0_9 := p0_9.2.1
        have f0_9 := p0_9.2.2.1
        have g0_9 := p0_9.2.2.2
        have p1_9 := p1_8.below h9
        have c1_9 := p1_9.1
        have d1_9 := p1_9.2.1
        have f1_9 := p1_9.2.2.1
        have g1_9 := p1_9.2.2.2
        go_wp2
        go_ret
        exact ⟨rfl, hb9⟩
    | true =>
      go_wp2_with fail
      refine (spanHas_is alo ahi u ha Hha.out _).mono ?_
      rintro e w7 ⟨rfl, h7⟩
      have hb7 := hb6.trans (h7.mono hb6.size)
      have p0_7 := p0_6.below h7
      have c0_7 := p0_7.1
      have d0_7 := p0_7.2.1
      have f0_7 := p0_7.2.2.1
      have g0_7 := p0_7.2.2.2
      have p1_7 := p1_6.below h7
      have c1_7 := p1_7.1
      have d1_7 := p1_7.2.1
      have f1_7 := p1_7.2.2.1
      have g1_7 := p1_7.2.2.2
      cases ha with
      | false =>
        go_wp2_with fail
        refine (refSMay_is alo ahi ma Hma.out _).mono ?_
        rintro e w8 ⟨rfl, h8⟩
        have hb8 := hb7.trans (h8.mono hb7.size)
        have p0_8 := p0_7.below h8
        have c0_8 := p0_8.1
        have d0_8 := p0_8.2.1
        have f0_8 := p0_8.2.2.1
        have g0_8 := p0_8.2.2.2
        have p1_8 := p1_7.below h8
        have c1_8 := p1_8.1
        have d1_8 := p1_8.2.1
        have f1_8 := p1_8.2.2.1
        have g1_8 := p1_8.2.2.2
        cases ma with
        | false =>
          go_wp2
          go_ret
          exact ⟨rfl, hb8⟩
        | true =>
          go_wp2_with fail
          refine (within_is alo ahi ⟨#[]⟩ ⟨#[]⟩ true (Hwe.out (by trivial)) _).mono ?_
          rintro e w9 ⟨rfl, h9⟩
          have hb9 := hb8.trans (h9.mono hb8.size)
          have p0_9 := p0_8.below h9
          have c0_9 := p0_9.1
          have d0_9 := p0_9.2.1
          have f0_9 := p0_9.2.2.1
          have g0_9 := p0_9.2.2.2
          have p1_9 := p1_8.below h9
          have c1_9 := p1_9.1
          have d1_9 := p1_9.2.1
          have f1_9 := p1_9.2.2.1
          have g1_9 := p1_9.2.2.2
          go_wp2_with fail
          refine (within_is alo ahi alo ahi true (Hws.out (by trivial)) _).mono ?_
          rintro e w10 ⟨rfl, h10⟩
          have hb10 := hb9.trans (h10.mono hb9.size)
          have p0_10 := p0_9.below h10
          have c0_10 := p0_10.1
          have d0_10 := p0_10.2.1
          have f0_10 := p0_10.2.2.1
          have g0_10 := p0_10.2.2.2
          have p1_10 := p1_9.below h10
          have c1_10 := p1_10.1
          have d1_10 := p1_10.2.1
          have f1_10 := p1_10.2.2.1
          have g1_10 := p1_10.2.2.2
          go_wp2
          go_ret
          exact ⟨rfl, hb10⟩
      | true =>
        go_wp2_with fail
        refine (spanHas_is blo bhi u true (Hwb.out (by trivial) (by trivial)) _).mono ?_
        rintro e w8 ⟨rfl, h8⟩
        have hb8 := hb7.trans (h8.mono hb7.size)
        have p0_8 := p0_7.below h8
        have c0_8 := p0_8.1
        have d0_8 := p0_8.2.1
        have f0_8 := p0_8.2.2.1
        have g0_8 := p0_8.2.2.2
        have p1_8 := p1_7.below h8
        have c1_8 := p1_8.1
        have d1_8 := p1_8.2.1
        have f1_8 := p1_8.2.2.1
        have g1_8 := p1_8.2.2.2
        go_wp2_with fail
        refine (refSMay_is alo ahi ma Hma.out _).mono ?_
        rintro e w9 ⟨rfl, h9⟩
        have hb9 := hb8.trans (h9.mono hb8.size)
        have p0_9 := p0_8.below h9
        have c0_9 := p0_9.1
        have d0_9 := p0_9.2.1
        have f0_9 := p0_9.2.2.1
        have g0_9 := p0_9.2.2.2
        have p1_9 := p1_8.below h9
        have c1_9 := p1_9.1
        have d1_9 := p1_9.2.1
        have f1_9 := p1_9.2.2.1
        have g1_9 := p1_9.2.2.2
        cases ma with
        | false =>
          go_wp2
          go_ret
          exact ⟨rfl, hb9⟩
        | true =>
          go_wp2_with fail
          refine (within_is alo ahi ⟨#[]⟩ ⟨#[]⟩ true (Hwe.out (by trivial)) _).mono ?_
          rintro e w10 ⟨rfl, h10⟩
          have hb10 := hb9.trans (h10.mono hb9.size)
          have p0_10 := p0_9.below h10
          have c0_10 := p0_10.1
          have d0_10 := p0_10.2.1
          have f0_10 := p0_10.2.2.1
          have g0_10 := p0_10.2.2.2
          have p1_10 := p1_9.below h10
          have c1_10 := p1_10.1
          have d1_10 := p1_10.2.1
          have f1_10 := p1_10.2.2.1
          have g1_10 := p1_10.2.2.2
          go_wp2_with fail
          refine (within_is alo ahi alo ahi true (Hws.out (by trivial)) _).mono ?_
          rintro e w11 ⟨rfl, h11⟩
          have hb11 := hb10.trans (h11.mono hb10.size)
          have p0_11 := p0_10.below h11
          have c0_11 := p0_11.1
          have d0_11 := p0_11.2.1
          have f0_11 := p0_11.2.2.1
          have g0_11 := p0_11.2.2.2
          have p1_11 := p1_10.below h11
          have c1_11 := p1_11.1
          have d1_11 := p1_11.2.1
          have f1_11 := p1_11.2.2.1
          have g1_11 := p1_11.2.2.2
          go_wp2
          go_ret
          exact ⟨rfl, hb11⟩
  | true =>
    have e4 := hone e3 rfl
    clear hone e3
    refine wp_region_quiet_below (by kernel_rfl) (by kernel_rfl) ?_
    repeat (go_big_quiet_step (first | (go_at_call 12; with_reducible exact CM.out _ _) | (go_at_call 14; first | with_reducible exact CH.out _ _ | with_reducible exact CE.out _ _) | (go_at_call 13; first | with_reducible exact CS.out _ _ | with_reducible exact CF.out _ _)))
    refine wpQuiet_nil ?_
    intro _ hw'
    obtain ⟨⟨dq, osq⟩, hw''⟩ := hw'
    subst hw''
    have hgr := below_regrown w3 dq osq
    have hb4 := HB3.out.trans (hgr.mono HB3.out.size)
    have p0_4 := P03.out.below hgr
    have p1_4 := P13.out.below hgr
    generalize grow (redrawn w3 dq) osq = w4 at *
    clear hgr k0 k1
    go_wp2_with fail
    refine (fixed_any _).mono ?_
    rintro e w5 ⟨rfl, h5⟩
    have hb5 := hb4.trans (h5.mono hb4.size)
    have p0_5 := p0_4.below h5
    have c0_5 := p0_5.1
    have d0_5 := p0_5.2.1
    have f0_5 := p0_5.2.2.1
    have g0_5 := p0_5.2.2.2
    have p1_5 := p1_4.below h5
    have c1_5 := p1_5.1
    have d1_5 := p1_5.2.1
    have f1_5 := p1_5.2.2.1
    have g1_5 := p1_5.2.2.2
    go_wp2_with fail
    refine (within_is alo ahi blo bhi wi Hwi.out _).mono ?_
    rintro e w6 ⟨rfl, h6⟩
    have hb6 := hb5.trans (h6.mono hb5.size)
    have p0_6 := p0_5.below h6
    have c0_6 := p0_6.1
    have d0_6 := p0_6.2.1
    have f0_6 := p0_6.2.2.1
    have g0_6 := p0_6.2.2.2
    have p1_6 := p1_5.below h6
    have c1_6 := p1_6.1
    have d1_6 := p1_6.2.1
    have f1_6 := p1_6.2.2.1
    have g1_6 := p1_6.2.2.2
    cases wi with
    | false =>
      go_wp2_with fail
      refine (refSMay_is alo ahi ma Hma.out _).mono ?_
      rintro e w7 ⟨rfl, h7⟩
      have hb7 := hb6.trans (h7.mono hb6.size)
      have p0_7 := p0_6.below h7
      have c0_7 := p0_7.1
      have d0_7 := p0_7.2.1
      have f0_7 := p0_7.2.2.1
      have g0_7 := p0_7.2.2.2
      have p1_7 := p1_6.below h7
      have c1_7 := p1_7.1
      have d1_7 := p1_7.2.1
      have f1_7 := p1_7.2.2.1
      have g1_7 := p1_7.2.2.2
      cases ma with
      | false =>
        go_wp2
        go_ret
        exact ⟨rfl, hb7⟩
      | true =>
        go_wp2_with fail
        refine (within_is alo ahi ⟨#[]⟩ ⟨#[]⟩ true (Hwe.out (by trivial)) _).mono ?_
        rintro e w8 ⟨rfl, h8⟩
        have hb8 := hb7.trans (h8.mono hb7.size)
        have p0_8 := p0_7.below h8
        have c0_8 := p0_8.1
        have d0_8 := p0_8.2.1
        have f0_8 := p0_8.2.2.1
        have g0_8 := p0_8.2.2.2
        have p1_8 := p1_7.below h8
        have c1_8 := p1_8.1
        have d1_8 := p1_8.2.1
        have f1_8 := p1_8.2.2.1
        have g1_8 := p1_8.2.2.2
        go_wp2_with fail
        refine (within_is alo ahi alo ahi true (Hws.out (by trivial)) _).mono ?_
        rintro e w9 ⟨rfl, h9⟩
        have hb9 := hb8.trans (h9.mono hb8.size)
        have p0_9 := p0_8.below h9
        have c0_9 := p0_9.1
        have d0_9 := p0_9.2.1
        have f0_9 := p0_9.2.2.1
        have g0_9 := p0_9.2.2.2
        have p1_9 := p1_8.below h9
        have c1_9 := p1_9.1
        have d1_9 := p1_9.2.1
        have f1_9 := p1_9.2.2.1
        have g1_9 := p1_9.2.2.2
        go_wp2
        go_ret
        exact ⟨rfl, hb9⟩
    | true =>
      go_wp2_with fail
      refine (spanHas_is alo ahi u ha Hha.out _).mono ?_
      rintro e w7 ⟨rfl, h7⟩
      have hb7 := hb6.trans (h7.mono hb6.size)
      have p0_7 := p0_6.below h7
      have c0_7 := p0_7.1
      have d0_7 := p0_7.2.1
      have f0_7 := p0_7.2.2.1
      have g0_7 := p0_7.2.2.2
      have p1_7 := p1_6.below h7
      have c1_7 := p1_7.1
      have d1_7 := p1_7.2.1
      have f1_7 := p1_7.2.2.1
      have g1_7 := p1_7.2.2.2
      cases ha with
      | false =>
        go_wp2_with fail
        refine (refSMay_is alo ahi ma Hma.out _).mono ?_
        rintro e w8 ⟨rfl, h8⟩
        have hb8 := hb7.trans (h8.mono hb7.size)
        have p0_8 := p0_7.below h8
        have c0_8 := p0_8.1
        have d0_8 := p0_8.2.1
        have f0_8 := p0_8.2.2.1
        have g0_8 := p0_8.2.2.2
        have p1_8 := p1_7.below h8
        have c1_8 := p1_8.1
        have d1_8 := p1_8.2.1
        have f1_8 := p1_8.2.2.1
        have g1_8 := p1_8.2.2.2
        cases ma with
        | false =>
          go_wp2
          go_ret
          exact ⟨rfl, hb8⟩
        | true =>
          go_wp2_with fail
          refine (within_is alo ahi ⟨#[]⟩ ⟨#[]⟩ true (Hwe.out (by trivial)) _).mono ?_
          rintro e w9 ⟨rfl, h9⟩
          have hb9 := hb8.trans (h9.mono hb8.size)
          have p0_9 := p0_8.below h9
          have c0_9 := p0_9.1
          have d0_9 := p0_9.2.1
          have f0_9 := p0_9.2.2.1
          have g0_9 := p0_9.2.2.2
          have p1_9 := p1_8.below h9
          have c1_9 := p1_9.1
          have d1_9 := p1_9.2.1
          have f1_9 := p1_9.2.2.1
          have g1_9 := p1_9.2.2.2
          go_wp2_with fail
          refine (within_is alo ahi alo ahi true (Hws.out (by trivial)) _).mono ?_
          rintro e w10 ⟨rfl, h10⟩
          have hb10 := hb9.trans (h10.mono hb9.size)
          have p0_10 := p0_9.below h10
          have c0_10 := p0_10.1
          have d0_10 := p0_10.2.1
          have f0_10 := p0_10.2.2.1
          have g0_10 := p0_10.2.2.2
          have p1_10 := p1_9.below h10
          have c1_10 := p1_10.1
          have d1_10 := p1_10.2.1
          have f1_10 := p1_10.2.2.1
          have g1_10 := p1_10.2.2.2
          go_wp2
          go_ret
          exact ⟨rfl, hb10⟩
      | true =>
        go_wp2_with fail
        refine (spanHas_is blo bhi u true (Hwb.out (by trivial) (by trivial)) _).mono ?_
        rintro e w8 ⟨rfl, h8⟩
        have hb8 := hb7.trans (h8.mono hb7.size)
        have p0_8 := p0_7.below h8
        have c0_8 := p0_8.1
        have d0_8 := p0_8.2.1
        have f0_8 := p0_8.2.2.1
        have g0_8 := p0_8.2.2.2
        have p1_8 := p1_7.below h8
        have c1_8 := p1_8.1
        have d1_8 := p1_8.2.1
        have f1_8 := p1_8.2.2.1
        have g1_8 := p1_8.2.2.2
        go_wp2_with fail
        refine (refSMay_is alo ahi ma Hma.out _).mono ?_
        rintro e w9 ⟨rfl, h9⟩
        have hb9 := hb8.trans (h9.mono hb8.size)
        have p0_9 := p0_8.below h9
        have c0_9 := p0_9.1
        have d0_9 := p0_9.2.1
        have f0_9 := p0_9.2.2.1
        have g0_9 := p0_9.2.2.2
        have p1_9 := p1_8.below h9
        have c1_9 := p1_9.1
        have d1_9 := p1_9.2.1
        have f1_9 := p1_9.2.2.1
        have g1_9 := p1_9.2.2.2
        cases ma with
        | false =>
          go_wp2
          go_ret
          exact ⟨rfl, hb9⟩
        | true =>
          go_wp2_with fail
          refine (within_is alo ahi ⟨#[]⟩ ⟨#[]⟩ true (Hwe.out (by trivial)) _).mono ?_
          rintro e w10 ⟨rfl, h10⟩
          have hb10 := hb9.trans (h10.mono hb9.size)
          have p0_10 := p0_9.below h10
          have c0_10 := p0_10.1
          have d0_10 := p0_10.2.1
          have f0_10 := p0_10.2.2.1
          have g0_10 := p0_10.2.2.2
          have p1_10 := p1_9.below h10
          have c1_10 := p1_10.1
          have d1_10 := p1_10.2.1
          have f1_10 := p1_10.2.2.1
          have g1_10 := p1_10.2.2.2
          go_wp2_with fail
          refine (within_is alo ahi alo ahi true (Hws.out (by trivial)) _).mono ?_
          rintro e w11 ⟨rfl, h11⟩
          have hb11 := hb10.trans (h11.mono hb10.size)
          have p0_11 := p0_10.below h11
          have c0_11 := p0_11.1
          have d0_11 := p0_11.2.1
          have f0_11 := p0_11.2.2.1
          have g0_11 := p0_11.2.2.2
          have p1_11 := p1_10.below h11
          have c1_11 := p1_11.1
          have d1_11 := p1_11.2.1
          have f1_11 := p1_11.2.2.1
          have g1_11 := p1_11.2.2.2
          go_wp2
          go_ret
          exact ⟨rfl, hb11⟩

end Go.Proofs.Ytgncikkfkmiejaa.Ver
