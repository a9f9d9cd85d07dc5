/- SpanReads. -/
import Derived.Test.YtgncikkfkmiejaaSpan15
import Derived.Test.YtgncikkfkmiejaaSpan5
namespace Go.Proofs.Ytgncikkfkmiejaa.Ver
open Go.RowKit

theorem split58 : ∀ l : Bs, (∀ c ∈ l, c ≠ 58) ∨ ∃ p r, l = p ++ 58 :: r ∧ ∀ c ∈ p, c ≠ 58
  | [] => .inl (by simp)
  | d :: l => by
    by_cases h : d = 58
    · exact .inr ⟨[], l, by simp [h], by simp⟩
    · rcases split58 l with h2 | ⟨p, r, rfl, h2⟩
      · left
        intro c hc
        rcases List.mem_cons.1 hc with rfl | hc
        · exact h
        · exact h2 c hc
      · right
        refine ⟨d :: p, r, by simp, ?_⟩
        intro c hc
        rcases List.mem_cons.1 hc with rfl | hc
        · exact h
        · exact h2 c hc

theorem cut_no58 {l : Bs} (h : ∀ c ∈ l, c ≠ 58) : cut 58 l = [l] := cut_none 58 l fun c hc => by simpa using h c hc

theorem sread_no {t : ByteArray} (h : ∀ c ∈ t.data.toList, c ≠ 58) : sread t = if stext t t = t then (t, t, true) else (⟨#[]⟩, ⟨#[]⟩, false) := by
  have hi1 : Lib.indexB t ⟨#[58]⟩ = -1 := by
    show Lib.index _ [58] = -1
    rw [index_one]; exact ib_none 58 _ h
  unfold sread
  rw [if_pos hi1]
  rfl

theorem sread_glue {lo hi : ByteArray} (h : ∀ c ∈ lo.data.toList, c ≠ 58) : sread (lo ++ ⟨#[58]⟩ ++ hi) = if stext lo hi = lo ++ ⟨#[58]⟩ ++ hi then (lo, hi, true) else (⟨#[]⟩, ⟨#[]⟩, false) := by
  have hi1 : Lib.indexB (lo ++ ⟨#[58]⟩ ++ hi) ⟨#[58]⟩ = lo.size := by
    show Lib.index (lo ++ ⟨#[58]⟩ ++ hi).data.toList [58] = lo.size
    rw [index_one]
    have e : (lo ++ ⟨#[58]⟩ ++ hi).data.toList = lo.data.toList ++ 58 :: hi.data.toList := by simp [ByteArray.data_append]
    rw [e, ib_at 58 _ _ h]; rfl
  unfold sread
  rw [if_neg (by rw [hi1]; omega), hi1, Int.toNat_natCast, glue_lo, glue_hi]
  rfl

def isRead (t lo hi : ByteArray) (b : Bool) : Prop := ∀ w, Calls Try.prog 18 #[.string t] w fun e w' => e = .returned (.tuple #[.agg #[.string lo, .string hi], .bool b]) ∧ Below w.heap.size w w'

set_option maxHeartbeats 800000 in
theorem refRead_many (t : ByteArray) (hc : 2 < (cut 58 t.data.toList).length) (hl : t.size ≤ 50000) : isRead t ⟨#[]⟩ ⟨#[]⟩ false := by
  intro w
  have hcut := fun w => refCut_any t 58 58 rfl w (by omega)
  have Hcut := Lib.hid hcut
  have hcl := cut_le 58 t.data.toList
  have hb0 := below_new w (.cells #[.string ⟨#[]⟩, .string ⟨#[]⟩] 23)
  have p0_0 := pair_new w ⟨#[]⟩ ⟨#[]⟩ 23
  obtain ⟨n, hn⟩ : ∃ n, (cut 58 t.data.toList).length = n := ⟨_, rfl⟩
  have Hn := Lib.hid hn
  rw [hn] at hc
  clear hcut hcl hn
  go_enter Try.func18, Try.ntmps18
  go_wp2_with fail
  refine (Hcut.out _).mono ?_
  rintro e w1 ⟨v, rfl, own, h1⟩
  obtain ⟨ao, cap, rfl, fx⟩ := strAt_own own
  rw [Hn.out]
  clear own fx
  have hb1 := hb0.trans (h1.mono hb0.size)
  have p1 := p0_0.below h1
  have c1 := p1.1
  have d1 := p1.2.1
  have f1 := p1.2.2.1
  have g1 := p1.2.2.2
  have lR := World.block_lt_of_cell? _ _ c1
  go_wp2
  have pz := ((p1.set0 ⟨#[]⟩).set1 ⟨#[]⟩).below (below_new ((w1.setCell ⟨w.heap.size, 0, none⟩ (.string ⟨#[]⟩)).setCell ⟨w.heap.size, 1, none⟩ (.string ⟨#[]⟩)) (.cells #[.string ⟨#[]⟩, .string ⟨#[]⟩] 23))
  have z1 := pz.1
  have z2 := pz.2.1
  have hz := (hb1.setCell (p := ⟨w.heap.size, 0, none⟩) (Nat.le_refl _) (.string ⟨#[]⟩)).setCell (p := ⟨w.heap.size, 1, none⟩) (Nat.le_refl _) (.string ⟨#[]⟩)
  refine bodyPost_ret (v := .tuple #[.agg #[.string ⟨#[]⟩, .string ⟨#[]⟩], .bool false]) (by simp [results, Try.results18, go_sem, z1, z2]) rfl ⟨rfl, ?_⟩
  exact hz.alloc hz.size _

set_option maxHeartbeats 1600000 in
theorem reads_yes (t lo hi : ByteArray) (h1 : sread t = (lo, hi, true)) (h2 : isRead t lo hi true) (h3 : stext lo hi = t) (hl : t.size ≤ 3000) (hlo : lo.size ≤ 3000) (hhi : hi.size ≤ 3000) (w : World) :
    Calls Try.prog 5 #[.string t] w fun e w' => e = .returned (.bool true) ∧ Below w.heap.size w w' := by
  have g1 : ¬ (3000 : Int) < t.size := by omega
  have H1 := Lib.hid h1
  have H2 := Lib.hid h2
  have H3 := Lib.hid h3
  clear h1 h2 h3
  go_enter Try.func5, Try.ntmps5
  go_wp2_with fail
  refine (spanRead_is t lo hi true H1.out (by omega) _).mono ?_
  rintro e w1 ⟨rfl, h1⟩
  have PA := Lib.hid (pair_new w1 lo hi 23)
  have HB1 := Lib.hid (h1.alloc h1.size (.cells #[.string lo, .string hi] 23))
  clear h1
  go_wp2_with fail
  refine (H2.out _).mono ?_
  rintro e w2 ⟨rfl, h2⟩
  have PA2 := Lib.hid ((PA.out.below h2).below (below_new w2 (.cells #[.string lo, .string hi] 23)))
  have PB2 := Lib.hid (pair_new w2 lo hi 23)
  have HB2 := Lib.hid ((HB1.out.trans (h2.mono HB1.out.size)).alloc (HB1.out.trans (h2.mono HB1.out.size)).size (.cells #[.string lo, .string hi] 23))
  clear h2
  go_wp2_with fail
  refine (fixed_any _).mono ?_
  rintro e w3 ⟨rfl, h3⟩
  have pa := PA2.out.below h3
  have pb := PB2.out.below h3
  have a1 := pa.1
  have a2 := pa.2.1
  have b1 := pb.1
  have b2 := pb.2.1
  have HB3 := Lib.hid (HB2.out.trans (h3.mono HB2.out.size))
  clear h3 pa pb
  go_wp2_with fail
  refine (spanText_is lo hi t H3.out (by omega) (by omega) _).mono ?_
  rintro e w4 ⟨rfl, h4⟩
  have HB4 := Lib.hid (HB3.out.trans (h4.mono HB3.out.size))
  clear h4
  go_wp2
  go_ret
  exact ⟨rfl, HB4.out⟩

set_option maxHeartbeats 1600000 in
theorem reads_no (t mlo mhi : ByteArray) (h1 : sread t = (⟨#[]⟩, ⟨#[]⟩, false)) (h2 : isRead t mlo mhi false) (hl : t.size ≤ 3000) (w : World) :
    Calls Try.prog 5 #[.string t] w fun e w' => e = .returned (.bool true) ∧ Below w.heap.size w w' := by
  have g1 : ¬ (3000 : Int) < t.size := by omega
  have H1 := Lib.hid h1
  have H2 := Lib.hid h2
  clear h1 h2
  go_enter Try.func5, Try.ntmps5
  go_wp2_with fail
  refine (spanRead_is t _ _ false H1.out (by omega) _).mono ?_
  rintro e w1 ⟨rfl, h1⟩
  have PA := Lib.hid (pair_new w1 ⟨#[]⟩ ⟨#[]⟩ 23)
  have HB1 := Lib.hid (h1.alloc h1.size (.cells #[.string ⟨#[]⟩, .string ⟨#[]⟩] 23))
  clear h1
  go_wp2_with fail
  refine (H2.out _).mono ?_
  rintro e w2 ⟨rfl, h2⟩
  have PA2 := Lib.hid ((PA.out.below h2).below (below_new w2 (.cells #[.string mlo, .string mhi] 23)))
  have HB2 := Lib.hid ((HB1.out.trans (h2.mono HB1.out.size)).alloc (HB1.out.trans (h2.mono HB1.out.size)).size (.cells #[.string mlo, .string mhi] 23))
  clear h2
  go_wp2_with fail
  refine (fixed_any _).mono ?_
  rintro e w3 ⟨rfl, h3⟩
  have pa := PA2.out.below h3
  have a1 := pa.1
  have a2 := pa.2.1
  have HB3 := Lib.hid (HB2.out.trans (h3.mono HB2.out.size))
  clear h3 pa
  go_wp2
  go_ret
  exact ⟨rfl, HB3.out⟩

set_option maxHeartbeats 800000 in
theorem spanReads_any (t : ByteArray) (_ht : t.size ≤ maxLen) (w : World) :
    Calls Try.prog 5 #[.string t] w fun e w' => e = .returned (.bool true) ∧ Below w.heap.size w w' := by
  by_cases h3 : 3000 < t.size
  · have g1 : (3000 : Int) < t.size := by omega
    clear h3
    go_enter Try.func5, Try.ntmps5
    go_wp2_with fail
    refine (fixed_any _).mono ?_
    rintro e w1 ⟨rfl, h1⟩
    go_wp2
    go_ret
    exact ⟨rfl, h1⟩
  · rcases split58 t.data.toList with hn | ⟨p, r, he, hn⟩
    · have hs := sread_no hn
      cases hm : may t.data.toList with
      | true =>
        have e := stext_self_may hm
        rw [if_pos e] at hs
        exact reads_yes t t t hs (fun w => refRead_one t true (cut_no58 hn) hm (by omega) w) e (by omega) (by omega) (by omega) w
      | false =>
        rw [if_neg (stext_self_not hm)] at hs
        exact reads_no t t t hs (fun w => refRead_one t false (cut_no58 hn) hm (by omega) w) (by omega) w
    · obtain ⟨lo, hlo⟩ : ∃ lo : ByteArray, lo.data.toList = p := ⟨⟨p.toArray⟩, by simp⟩
      obtain ⟨hi, hhi⟩ : ∃ hi : ByteArray, hi.data.toList = r := ⟨⟨r.toArray⟩, by simp⟩
      have et : t = lo ++ ⟨#[58]⟩ ++ hi := ba_ext (by rw [he]; simp [ByteArray.data_append, hlo, hhi])
      have hlo2 : ∀ c ∈ lo.data.toList, c ≠ 58 := by rw [hlo]; exact hn
      have hs := sread_glue (hi := hi) hlo2
      have sz : t.size = lo.size + 1 + hi.size := by
        rw [et, ByteArray.size_append, ByteArray.size_append]; rfl
      have hc : cut 58 t.data.toList = lo.data.toList :: cut 58 hi.data.toList := by
        rw [he, cut_append, cut_no58 hn, hlo, hhi]; rfl
      rw [← et] at hs
      rcases split58 hi.data.toList with hn2 | ⟨p2, r2, he2, hn2⟩
      · rw [cut_no58 hn2] at hc
        cases hb : (smay lo.data.toList hi.data.toList && decide (rtext lo hi = t)) with
        | true =>
          rw [Bool.and_eq_true, decide_eq_true_iff] at hb
          have e : stext lo hi = t := by rw [stext_may hb.1]; exact hb.2
          rw [if_pos e] at hs
          exact reads_yes t lo hi hs (fun w => refRead_two t lo hi true hc (by rw [hb.1, hb.2]; simp) (by omega) (by omega) (by omega) w) e (by omega) (by omega) (by omega) w
        | false =>
          have e : stext lo hi ≠ t := by
            intro e
            cases hm : smay lo.data.toList hi.data.toList with
            | true =>
              rw [stext_may hm] at e
              rw [hm, e] at hb
              simp at hb
            | false =>
              rw [stext_not hm, et] at e
              exact empty_glue_ne hi lo e.symm
          rw [if_neg e] at hs
          exact reads_no t lo hi hs (fun w => refRead_two t lo hi false hc hb (by omega) (by omega) (by omega) w) (by omega) w
      · have hm : smay lo.data.toList hi.data.toList = false := by
          cases hm : smay lo.data.toList hi.data.toList with
          | false => rfl
          | true => exact absurd rfl (bound_no58 (smay_bounds hm).2 58 (by rw [he2]; simp))
        have e : stext lo hi ≠ t := by
          intro e
          rw [stext_not hm, et] at e
          exact empty_glue_ne hi lo e.symm
        rw [if_neg e] at hs
        refine reads_no t ⟨#[]⟩ ⟨#[]⟩ hs (refRead_many t ?_ (by omega)) (by omega) w
        rw [hc, he2, cut_append, cut_no58 hn2]
        have := cut_ne 58 r2
        cases hr : cut 58 r2 with
        | nil => exact absurd hr this
        | cons a b => simp

end Go.Proofs.Ytgncikkfkmiejaa.Ver
