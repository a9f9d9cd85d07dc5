/- CnfForm: the law's walk. -/
import Derived.Test.YtiomocmceccmbaaCnRef
namespace Go.Proofs.Ytiomocmceccmbaa.Cn
open Go.RowKit

theorem grid_one {w : World} {A : Option Addr} {n c ba : Nat} {z : List Int} (h : Row w ba (.slice A n c) z) : Grid (w.alloc (.cells #[.slice A n c] 22)) (.slice (some ⟨w.heap.size, 0, none⟩) 1 1) [z] := by
  have hh := heap_alloc_new w (.cells #[.slice A n c] 22)
  refine ⟨_, 1, [.slice A n c], rfl, by simp, by simp [maxLen], .inr ⟨w.heap.size, 0, rfl, by simp, fun j u hu => ?_⟩, rfl, fun j u z' hu hz => ?_⟩
  · rw [Nat.zero_add]; exact cells_get hh j (by simpa using hu)
  · match j, hu, hz with
    | 0, hu, hz => simp at hu hz; subst hu; subst hz; exact ⟨(h.base (Nat.zero_le _)).below ((Below.refl _ _).alloc (Nat.le_refl _) _), fun _ _ _ h => h⟩

theorem holds_same {zs f : List Int} (h : ∀ x, x ∈ f ↔ x ∈ zs) (bs : List Bool) : holdsB [f] bs = holdsB [zs] bs := by
  unfold holdsB
  simp only [List.all_cons, List.all_nil, Bool.and_true]
  rw [Bool.eq_iff_iff, List.any_eq_true, List.any_eq_true]
  constructor
  · rintro ⟨x, hx, e⟩; exact ⟨x, (h x).1 hx, e⟩
  · rintro ⟨x, hx, e⟩; exact ⟨x, (h x).2 hx, e⟩

theorem ref_cases {zs : List Int} {e : Ending} {w w' : World} (h : RefPost w zs e w') (f : List Int) (hg : Good zs f) : ∃ A n c, e = .returned (.tuple #[.slice A n c, .bool true]) ∧ Row w' w.heap.size (.slice A n c) f := by
  rcases h.2 with ⟨_, _, _, hb⟩ | ⟨v, g, he, hgood, hr⟩
  · exact absurd hb hg.not
  · rw [good_unique hgood hg (fun _ => Iff.rfl)] at hr
    obtain ⟨A, n, c, rfl, _⟩ := hr.open'
    exact ⟨A, n, c, he, hr⟩
theorem ref_cases_bad {zs : List Int} {e : Ending} {w w' : World} (h : RefPost w zs e w') (hb : Bad zs) : ∃ A n c, e = .returned (.tuple #[.slice A n c, .bool false]) ∧ Row w' w.heap.size (.slice A n c) [] := by
  rcases h.2 with ⟨v, he, hr, _⟩ | ⟨v, g, he, hgood, hr⟩
  · obtain ⟨A, n, c, rfl, _⟩ := hr.open'
    exact ⟨A, n, c, he, hr⟩
  · exact absurd hb hgood.not

set_option maxRecDepth 100000 in
set_option maxHeartbeats 1000000 in
theorem cnfForm_any (a : Option Addr) (len cap : Nat) (zs0 : List Int) (M : Option Addr) (ml mc : Nat) (bs : List Bool) (w : World) (h : IsRow .i64 w a len cap zs0) (hm : BRow w M ml mc bs) :
    Calls Try.prog 3 #[.slice a len cap, .slice M ml mc] w fun e w' => e = .returned (.bool true) ∧ Below w.heap.size w w' := by
  have hle := h.le
  have hrow := isRow_row h
  obtain ⟨zs, hzs⟩ : ∃ zs, zs0.take len = zs := ⟨_, rfl⟩
  rw [hzs] at hrow
  have hlz : zs.length = len := by
    obtain ⟨A, c, e, _⟩ := hrow
    injection e with _ e; exact e.symm
  have HR := Lib.hid hrow
  have HL := Lib.hid hlz
  have HM := Lib.hid hm
  obtain ⟨l1, l2⟩ := hle
  obtain ⟨_, m1, m2, _⟩ := hm
  unfold maxLen at l2 m2
  clear h hrow hzs hlz
  by_cases hg : 300 < len
  · go_enter Try.func3, Try.ntmps3
    go_wp2_with fail
    refine (fixed_any _).mono ?_
    rintro e w1 ⟨rfl, hb⟩
    have HB := Lib.hid hb
    clear hb
    go_wp2
    go_ret
    exact ⟨rfl, HB.out⟩
  by_cases hg2 : 300 < ml
  · go_enter Try.func3, Try.ntmps3
    go_wp2_with fail
    refine (fixed_any _).mono ?_
    rintro e w1 ⟨rfl, hb⟩
    have HB := Lib.hid hb
    clear hb
    go_wp2
    go_ret
    exact ⟨rfl, HB.out⟩
  have HS := Lib.hid (show ([] : List Int).length + zs.length ≤ 200000 by have := HL.out; simp; omega)
  have HS2 := Lib.hid (show zs.length ≤ 50000 by have := HL.out; omega)
  have HO0 := Lib.hid (own_empty (heap_alloc_new w (.cells #[] 3)) (Nat.le_refl w.heap.size))
  have HR0 := Lib.hid (HR.out.below ((Below.refl w.heap.size w).alloc (Nat.le_refl _) (.cells #[] 3)))
  have hs0 : w.heap.size ≤ (w.alloc (.cells #[] 3)).heap.size := by simp
  go_enter Try.func3, Try.ntmps3
  go_wp2_with (at_builtin; refine wpList_append_row (v := .slice (some ⟨w.heap.size, 0, none⟩) 0 0) (x := .slice a len cap) rfl (.tmp 19) (.tmp 20) rfl rfl rfl rfl HO0.out HR0.out HS.out hs0 ?_; intro A1 L1 c1 w1 hown1 hgrow1 hat1; have HO1 := Lib.hid hown1; have HG1 := Lib.hid hgrow1; clear hown1 hgrow1 hat1)
  have hb1 : Below w.heap.size w w1 := Touch.belows ((Below.refl w.heap.size w).alloc (Nat.le_refl _) (.cells #[] 3)) (Touch.of_grown (S := fun i => i = w.heap.size) HG1.out (fun i e => by injection e with e; exact e.symm)) (Nat.le_refl _) (fun i hi => Nat.le_of_eq hi.symm)
  have HB1 := Lib.hid hb1
  have HOR := Lib.hid (show Row w1 w.heap.size (.slice A1 L1 c1) zs from by
    have := HO1.out; rw [List.nil_append] at this; exact this.row HR.out.bounds)
  clear hb1
  refine (form_any w1 _ _ zs HOR.out (by have := HS2.out; omega)).mono ?_
  intro e w2 hf
  have hb2 := HB1.out.trans (hf.1.mono HB1.out.size)
  have HB2 := Lib.hid hb2
  have HOR2 := Lib.hid (HOR.out.below hf.1)
  have HR2 := Lib.hid (HR.out.belows hb2 (Nat.le_refl _))
  have hres := hf.2
  clear hf hb2
  rcases hres with ⟨rfl, hbad⟩ | ⟨v, f, rfl, hgood, hrf⟩
  · have HBD := Lib.hid hbad
    clear hbad
    go_wp2_with fail
    refine (refForm_any w2 _ _ zs HR2.out HS2.out).mono ?_
    intro e w3 hf
    obtain ⟨A3, n3, c3, rfl, hr3⟩ := ref_cases_bad hf HBD.out
    have HB3 := Lib.hid (HB2.out.trans (hf.1.mono HB2.out.size))
    have HOR3 := Lib.hid (HOR2.out.below hf.1)
    have HR3 := Lib.hid (HR2.out.below hf.1)
    have HRF := Lib.hid hr3
    clear hf hr3
    go_wp2_with fail
    refine (same_any _ 0 _ _ _ [] [] (row_nil _) HRF.out).mono ?_
    rintro e w4 ⟨rfl, q1, rfl⟩
    rw [show decide (([] : List Int) = []) = true by simp]
    go_wp2_with fail
    refine (same_any (w3.drewN q1) _ _ _ _ zs zs HOR3.out HR3.out).mono ?_
    rintro e w4 ⟨rfl, q2, rfl⟩
    rw [show decide (zs = zs) = true by simp]
    have HB4 : Hid (Below w.heap.size w (w3.drewN (q1 + q2))) := Lib.hid (below_draws HB3.out _)
    go_wp2_with fail
    refine (fixed_any _).mono ?_
    rintro e w5 ⟨rfl, hb5⟩
    have HB5 := Lib.hid (HB4.out.trans (hb5.mono HB4.out.size))
    have HR5 := Lib.hid (HR.out.belows HB5.out (Nat.le_refl _))
    have HM5 := Lib.hid (HM.out.below HB5.out (Nat.le_refl _))
    clear hb5
    go_wp2_with fail
    refine (holds_any _ _ [zs] (grid_one HR5.out) M ml mc bs (HM5.out.below ((Below.refl w5.heap.size w5).alloc (Nat.le_refl _) _) (Nat.le_refl _))).mono ?_
    rintro e w6 ⟨rfl, hb6⟩
    have HB6 := Lib.hid ((HB5.out.alloc HB5.out.size (.cells #[.slice a len cap] 22)).trans (hb6.mono (HB5.out.alloc HB5.out.size _).size))
    have HR6 := Lib.hid (HR.out.belows HB6.out (Nat.le_refl _))
    have HM6 := Lib.hid (HM.out.below HB6.out (Nat.le_refl _))
    clear hb6
    obtain ⟨r, hr⟩ : ∃ r, holdsB [zs] bs = r := ⟨_, rfl⟩
    rw [hr]
    have HRR := Lib.hid hr
    clear hr
    go_wp2_with fail
    refine (refHolds_any _ _ [zs] (grid_one HR6.out) M ml mc bs (HM6.out.below ((Below.refl w6.heap.size w6).alloc (Nat.le_refl _) _) (Nat.le_refl _))).mono ?_
    rintro e w7 ⟨rfl, rfl⟩
    rw [HRR.out]
    go_wp2
    go_ret
    exact ⟨by cases r <;> rfl, HB6.out.alloc HB6.out.size _⟩
  · obtain ⟨Af, nf, cf, rfl, hx⟩ := hrf.open'
    clear hx
    have HGD := Lib.hid hgood
    have HF := Lib.hid hrf
    clear hgood hrf
    go_wp2_with fail
    refine (refForm_any w2 _ _ zs HR2.out HS2.out).mono ?_
    intro e w3 hf
    obtain ⟨A3, n3, c3, rfl, hr3⟩ := ref_cases hf f HGD.out
    have HB3 := Lib.hid (HB2.out.trans (hf.1.mono HB2.out.size))
    have HOR3 := Lib.hid (HOR2.out.below hf.1)
    have HR3 := Lib.hid (HR2.out.below hf.1)
    have HF3 := Lib.hid (HF.out.below hf.1)
    have HRF := Lib.hid hr3
    clear hf hr3
    go_wp2_with fail
    refine (same_any _ _ _ _ _ f f HF3.out HRF.out).mono ?_
    rintro e w4 ⟨rfl, q1, rfl⟩
    rw [show decide (f = f) = true by simp]
    go_wp2_with fail
    refine (same_any (w3.drewN q1) _ _ _ _ zs zs HOR3.out HR3.out).mono ?_
    rintro e w4 ⟨rfl, q2, rfl⟩
    rw [show decide (zs = zs) = true by simp]
    have HB4 : Hid (Below w.heap.size w (w3.drewN (q1 + q2))) := Lib.hid (below_draws HB3.out _)
    go_wp2_with fail
    refine (fixed_any _).mono ?_
    rintro e w5 ⟨rfl, hb5⟩
    have HB5 := Lib.hid (HB4.out.trans (hb5.mono HB4.out.size))
    have HR5 := Lib.hid (HR.out.belows HB5.out (Nat.le_refl _))
    have HM5 := Lib.hid (HM.out.below HB5.out (Nat.le_refl _))
    have HF5 : Hid (Row w5 w1.heap.size (.slice Af nf cf) f) := Lib.hid (Row.below (w := w3.drewN (q1 + q2)) HF3.out hb5)
    clear hb5
    go_wp2_with fail
    refine (holds_any _ _ [zs] (grid_one HR5.out) M ml mc bs (HM5.out.below ((Below.refl w5.heap.size w5).alloc (Nat.le_refl _) _) (Nat.le_refl _))).mono ?_
    rintro e w6 ⟨rfl, hb6⟩
    have HB6 := Lib.hid ((HB5.out.alloc HB5.out.size (.cells #[.slice a len cap] 22)).trans (hb6.mono (HB5.out.alloc HB5.out.size _).size))
    have HR6 := Lib.hid (HR.out.belows HB6.out (Nat.le_refl _))
    have HM6 := Lib.hid (HM.out.below HB6.out (Nat.le_refl _))
    have HF6 := Lib.hid ((HF5.out.below ((Below.refl w5.heap.size w5).alloc (Nat.le_refl _) (.cells #[.slice a len cap] 22))).below hb6)
    clear hb6
    obtain ⟨r, hr⟩ : ∃ r, holdsB [zs] bs = r := ⟨_, rfl⟩
    rw [hr]
    have HRR := Lib.hid hr
    clear hr
    go_wp2_with fail
    refine (refHolds_any _ _ [zs] (grid_one HR6.out) M ml mc bs (HM6.out.below ((Below.refl w6.heap.size w6).alloc (Nat.le_refl _) _) (Nat.le_refl _))).mono ?_
    rintro e w7 ⟨rfl, rfl⟩
    rw [HRR.out]
    have HB7 := Lib.hid (HB6.out.alloc HB6.out.size (.cells #[.slice a len cap] 22))
    have HF7 := Lib.hid (HF6.out.below ((Below.refl w6.heap.size w6).alloc (Nat.le_refl _) (.cells #[.slice a len cap] 22)))
    have HM7 := Lib.hid (HM.out.below HB7.out (Nat.le_refl _))
    have HG7 := Lib.hid (grid_one HF7.out)
    rw [show (w6.alloc (.cells #[.slice a len cap] 22)).heap.size = w6.heap.size + 1 by simp] at HG7
    go_wp2_with fail
    refine (holds_any _ _ [f] HG7.out M ml mc bs (HM7.out.below ((Below.refl _ _).alloc (Nat.le_refl _) _) (Nat.le_refl _))).mono ?_
    rintro e w8 ⟨rfl, hb8⟩
    rw [holds_same HGD.out.same bs, HRR.out]
    have HB8 := Lib.hid ((HB7.out.alloc HB7.out.size (.cells #[.slice Af nf cf] 22)).trans (hb8.mono (HB7.out.alloc HB7.out.size _).size))
    have HR8 := Lib.hid (HR.out.belows HB8.out (Nat.le_refl _))
    have HM8 := Lib.hid (HM.out.below HB8.out (Nat.le_refl _))
    clear hb8
    go_wp2_with fail
    refine (refHolds_any _ _ [zs] (grid_one HR8.out) M ml mc bs (HM8.out.below ((Below.refl w8.heap.size w8).alloc (Nat.le_refl _) _) (Nat.le_refl _))).mono ?_
    rintro e w9 ⟨rfl, rfl⟩
    rw [HRR.out]
    go_wp2
    go_ret
    exact ⟨by cases r <;> rfl, HB8.out.alloc HB8.out.size _⟩

end Go.Proofs.Ytiomocmceccmbaa.Cn
