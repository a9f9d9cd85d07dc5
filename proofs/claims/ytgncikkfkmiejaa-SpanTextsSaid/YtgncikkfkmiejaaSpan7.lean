/- SpanTexts. -/
import Derived.Test.YtgncikkfkmiejaaSpanMath2
namespace Go.Proofs.Ytgncikkfkmiejaa.Ver
open Go.RowKit

set_option maxHeartbeats 1600000 in
theorem spanTexts_any (lo hi : ByteArray) (w : World) :
    Calls Try.prog 4 #[.agg #[.string lo, .string hi]] w fun e w' => e = .returned (.bool true) ∧ Below w.heap.size w w' := by
  have hb0 := below_new w (.cells #[.string lo, .string hi] 23)
  have p0_0 := pair_new w lo hi 23
  go_enter Try.func4, Try.ntmps4
  go_wp2_with fail
  refine (sgreat_is lo hi _).mono ?_
  rintro e w1 ⟨rfl | ⟨rfl, s1, s2⟩, h1⟩
  · skip
    have hb1 := hb0.trans (h1.mono hb0.size)
    have p0_1 := p0_0.below h1
    have c0_1 := p0_1.1
    have d0_1 := p0_1.2.1
    have f0_1 := p0_1.2.2.1
    have g0_1 := p0_1.2.2.2
    go_wp2_with fail
    refine (fixed_any _).mono ?_
    rintro e w2 ⟨rfl, h2⟩
    have hb2 := hb1.trans (h2.mono hb1.size)
    have p0_2 := p0_1.below h2
    have c0_2 := p0_2.1
    have d0_2 := p0_2.2.1
    have f0_2 := p0_2.2.2.1
    have g0_2 := p0_2.2.2.2
    go_wp2
    go_ret
    exact ⟨rfl, hb2⟩
  · skip
    have hb1 := hb0.trans (h1.mono hb0.size)
    have p0_1 := p0_0.below h1
    have c0_1 := p0_1.1
    have d0_1 := p0_1.2.1
    have f0_1 := p0_1.2.2.1
    have g0_1 := p0_1.2.2.2
    cases hm : smay lo.data.toList hi.data.toList with
    | false =>
      have Hm := Lib.hid hm
      have Ht := Lib.hid (stext_not hm)
      clear hm
      go_wp2_with fail
      refine (spanText_is lo hi _ Ht.out (by omega) (by omega) _).mono ?_
      rintro e w2 ⟨rfl, h2⟩
      have hb2 := hb1.trans (h2.mono hb1.size)
      have p0_2 := p0_1.below h2
      have c0_2 := p0_2.1
      have d0_2 := p0_2.2.1
      have f0_2 := p0_2.2.2.1
      have g0_2 := p0_2.2.2.2
      go_wp2_with fail
      refine (refSMay_is lo hi _ Hm.out _).mono ?_
      rintro e w3 ⟨rfl, h3⟩
      have hb3 := hb2.trans (h3.mono hb2.size)
      have p0_3 := p0_2.below h3
      have c0_3 := p0_3.1
      have d0_3 := p0_3.2.1
      have f0_3 := p0_3.2.2.1
      have g0_3 := p0_3.2.2.2
      go_wp2_with fail
      refine (fixed_any _).mono ?_
      rintro e w4 ⟨rfl, h4⟩
      have hb4 := hb3.trans (h4.mono hb3.size)
      have p0_4 := p0_3.below h4
      have c0_4 := p0_4.1
      have d0_4 := p0_4.2.1
      have f0_4 := p0_4.2.2.1
      have g0_4 := p0_4.2.2.2
      go_wp2
      go_ret
      exact ⟨rfl, hb4⟩
    | true =>
      have Hm := Lib.hid hm
      have hr := sread_text hm
      have hsz : (rtext lo hi).size ≤ 50000 := by
        unfold rtext; split
        · omega
        · rw [ByteArray.size_append, ByteArray.size_append]
          have hs : ((⟨#[58]⟩ : ByteArray)).size = 1 := rfl
          omega
      have ht := stext_may hm
      obtain ⟨t, htt⟩ : ∃ t, rtext lo hi = t := ⟨_, rfl⟩
      rw [htt] at hr hsz ht
      have Hr := Lib.hid hr
      have Ht := Lib.hid ht
      have Htt := Lib.hid htt
      clear hm hr ht htt
      go_wp2_with fail
      refine (spanText_is lo hi _ Ht.out (by omega) (by omega) _).mono ?_
      rintro e w2 ⟨rfl, h2⟩
      have hb2 := hb1.trans (h2.mono hb1.size)
      have p0_2 := p0_1.below h2
      have c0_2 := p0_2.1
      have d0_2 := p0_2.2.1
      have f0_2 := p0_2.2.2.1
      have g0_2 := p0_2.2.2.2
      go_wp2_with fail
      refine (refSMay_is lo hi _ Hm.out _).mono ?_
      rintro e w3 ⟨rfl, h3⟩
      have hb3 := hb2.trans (h3.mono hb2.size)
      have p0_3 := p0_2.below h3
      have c0_3 := p0_3.1
      have d0_3 := p0_3.2.1
      have f0_3 := p0_3.2.2.1
      have g0_3 := p0_3.2.2.2
      go_wp2_with fail
      refine (spanRead_is t _ _ _ Hr.out (by omega) _).mono ?_
      rintro e w4 ⟨rfl, h4⟩
      have hb4 := hb3.trans (h4.mono hb3.size)
      have p0_4 := p0_3.below h4
      have c0_4 := p0_4.1
      have d0_4 := p0_4.2.1
      have f0_4 := p0_4.2.2.1
      have g0_4 := p0_4.2.2.2
      have hb4 := hb4.alloc hb4.size (.cells #[.string (lo), .string (hi)] 23)
      have p0_4 := p0_4.below (below_new _ (.cells #[.string (lo), .string (hi)] 23))
      have p1_4 := pair_new w4 (lo) (hi) 23
      go_wp2_with fail
      refine (fixed_any _).mono ?_
      rintro e w5 ⟨rfl, h5⟩
      have hb5 := hb4.trans (h5.mono hb4.size)
      have p0_5 := p0_4.below h5
      have c0_5 := p0_5.1
      have d0_5 := p0_5.2.1
      have f0_5 := p0_5.2.2.1
      have g0_5 := p0_5.2.2.2
      have p1_5 := p1_4.below h5
      have c1_5 := p1_5.1
      have d1_5 := p1_5.2.1
      have f1_5 := p1_5.2.2.1
      have g1_5 := p1_5.2.2.2
      go_wp2_with fail
      refine (refText_is lo hi _ Htt.out (by omega) (by omega) _).mono ?_
      rintro e w6 ⟨rfl, h6⟩
      have hb6 := hb5.trans (h6.mono hb5.size)
      have p0_6 := p0_5.below h6
      have c0_6 := p0_6.1
      have d0_6 := p0_6.2.1
      have f0_6 := p0_6.2.2.1
      have g0_6 := p0_6.2.2.2
      have p1_6 := p1_5.below h6
      have c1_6 := p1_6.1
      have d1_6 := p1_6.2.1
      have f1_6 := p1_6.2.2.1
      have g1_6 := p1_6.2.2.2
      go_wp2
      go_ret
      exact ⟨by simp, hb6⟩

end Go.Proofs.Ytgncikkfkmiejaa.Ver
