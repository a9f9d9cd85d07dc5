/- SpansForm's walk. -/
import Derived.Test.YtdijkekglaimfaaGreatSsGrpE
import Derived.Test.YtdijkekglaimfaaGreatSsRefFormG
import Derived.Test.YtdijkekglaimfaaGreatSsGrpF
import Derived.Test.YtdijkekglaimfaaGreatSsGrpB
namespace Go.Proofs.YtdijkekglaimfaaGreat.Sq
open Go.RowKit Rc Ver Ss

/-- Rows that are read, in a world since the call began. -/
structure Keep (w0 : World) (rs : List (Value × List Spn)) (w : World) : Prop where
  bel : RowKit.Below w0.heap.size w0 w
  rows : ∀ p ∈ rs, RowD setK w p.1 p.2
theorem Keep.step {w0 w w' : World} {rs : List (Value × List Spn)} (h : Keep w0 rs w) (hb : RowKit.Below w.heap.size w w') : Keep w0 rs w' := ⟨h.bel.trans (hb.mono h.bel.size), fun p hp => (h.rows p hp).below hb (Nat.le_refl _)⟩
theorem Keep.push {w0 w : World} {rs : List (Value × List Spn)} {v : Value} {l : List Spn} (h : Keep w0 rs w) (hr : RowD setK w v l) : Keep w0 ((v, l) :: rs) w := ⟨h.bel, fun p hp => (List.mem_cons.1 hp).elim (fun e => by rw [e]; exact hr) (h.rows p)⟩
theorem Keep.get {w0 w : World} {rs : List (Value × List Spn)} (h : Keep w0 rs w) (v : Value) (l : List Spn) (hm : (v, l) ∈ rs) : RowD setK w v l := h.rows _ hm
theorem Keep.nil (w : World) : Keep w [] w := ⟨RowKit.Below.refl _ _, fun p hp => (by cases hp)⟩

set_option maxRecDepth 100000 in
set_option maxHeartbeats 4000000 in
theorem spansForm_w (A : Option Addr) (L c : Nat) (l : List Spn) (x : ByteArray) (hx : x.size ≤ maxLen) (w : World) (h : IsSpans w A L c l) :
    Calls Tryz.prog 3 #[.slice A L c, .string x] w fun e w' => e = .returned (.bool true) ∧ RowKit.Below w.heap.size w w' := by
  have h : RowD setK w (.slice A L c) l := h
  unfold maxLen at hx
  have K0 := Lib.hid ((Keep.nil w).push h)
  have HG := Lib.hid (great3_any w _ l h)
  clear h
  go_enter Tryz.func3, Tryz.ntmps3
  go_wp2_with fail
  refine HG.out.mono ?_
  rintro e w1 ⟨b, rfl, hb, rfl⟩
  cases b with
  | true =>
    go_wp2_with fail
    refine (fixed3_any _).mono ?_
    rintro e w2 ⟨rfl, hb2⟩
    have HB := Lib.hid hb2
    clear hb2 hb
    go_wp2
    go_ret
    exact ⟨rfl, HB.out⟩
  | false =>
    have hsm := hb rfl
    have hl : l.length ≤ 30 := hsm.1
    clear hb hsm
    by_cases hx3 : 3000 < x.size
    · have g3 : (3000 : Int) < (x.size : Int) := by omega
      go_wp2_with fail
      refine (fixed3_any _).mono ?_
      rintro e w2 ⟨rfl, hb2⟩
      have HB := Lib.hid hb2
      clear hb2
      go_wp2
      go_ret
      exact ⟨rfl, HB.out⟩
    have g3 : ¬ (3000 : Int) < (x.size : Int) := by omega
    obtain ⟨m, b, hmb⟩ : ∃ m b, form l = (m, b) := ⟨_, _, rfl⟩
    have HF := Lib.hid hmb
    clear hmb
    have HB1 := Lib.hid ((RowKit.Below.refl w.heap.size w).alloc (Nat.le_refl _) (.cells #[] 39))
    have HE : Hid (OwnK setK 39 w (w.alloc (.cells #[] 39)) w.heap.size (.slice (some ⟨w.heap.size, 0, none⟩) 0 0) []) := Lib.hid (OwnK.empty w (heap_alloc_new _ _) (Nat.le_refl _))
    have HR0 := Lib.hid (K0.out.get (.slice A L c) l (by simp))
    have HS1 : Hid (([] : List Spn).length + l.length ≤ 100000) := Lib.hid (by simp; omega)
    go_wp2_with (at_builtin; refine wpList_app_row elemSpan rfl (.tmp 20) (.tmp 21) rfl rfl (w0 := w) (base := w.heap.size) (v := .slice (some ⟨w.heap.size, 0, none⟩) 0 0) (x := .slice A L c) (xs := []) (zs := l) rfl rfl HB1.out HE.out HR0.out HS1.out HB1.out.size ?_; intro A1 L1 c1 w2 hown1 hg1; have HB2 := Lib.hid (HB1.out.grown hg1 HB1.out.size (fun g hgg => (HE.out.lt g hgg).1)); have K1 := Lib.hid ((K0.out.step HB2.out).push (hown1.row HB2.out)); clear hown1 hg1)
    refine (form_any _ _ l (K1.out.get (.slice A1 L1 c1) l (by simp)) (by omega) (m, b) HF.out).mono ?_
    rintro e w3 ⟨v3, rfl, hv3, hb3⟩
    obtain ⟨A3, L3, c3, rfl⟩ := hv3.sl
    have K2 := Lib.hid ((K1.out.step hb3).push hv3)
    clear hv3 hb3
    go_wp2_with fail
    refine (refForm_is _ _ l (K2.out.get (.slice A L c) l (by simp)) (by omega) (m, b) HF.out).mono ?_
    rintro e w4 ⟨v4, rfl, hv4, hb4⟩
    obtain ⟨A4, L4, c4, rfl⟩ := hv4.sl
    have K3 := Lib.hid ((K2.out.step hb4).push hv4)
    clear hv4 hb4
    cases b with
    | false =>
      go_wp2_with fail
      refine (refSame_is _ _ _ m m (K3.out.get (.slice A3 L3 c3) m (by simp)) (K3.out.get (.slice A4 L4 c4) m (by simp)) true (by simp)).mono ?_
      rintro e w5 ⟨rfl, hb5⟩
      have K4 := Lib.hid (K3.out.step hb5)
      clear hb5
      go_wp2_with fail
      refine (refSame_is _ _ _ l l (K4.out.get (.slice A1 L1 c1) l (by simp)) (K4.out.get (.slice A L c) l (by simp)) true (by simp)).mono ?_
      rintro e w6 ⟨rfl, hb6⟩
      have K5 := Lib.hid (K4.out.step hb6)
      clear hb6
      have HT := Lib.hid (show textF l = ⟨#[]⟩ by unfold textF; rw [HF.out]; rfl)
      go_wp2_with fail
      refine (fixed3_any _).mono ?_
      rintro e w7 ⟨rfl, hb7⟩
      have K6 := Lib.hid (K5.out.step hb7)
      clear hb7
      go_wp2_with fail
      refine (text_is _ _ l (K6.out.get (.slice A L c) l (by simp)) (by omega) _ HT.out).mono ?_
      rintro e w8 ⟨rfl, hb8⟩
      have K7 := Lib.hid (K6.out.step hb8)
      clear hb8
      go_wp2
      go_ret
      exact ⟨rfl, K7.out.bel⟩
    | true =>
      have hft := form_true (l := l) (by rw [HF.out])
      rw [HF.out] at hft
      have hff := form_form (l := l) (by rw [HF.out])
      rw [HF.out] at hff
      have HFF := Lib.hid hff
      have HO := Lib.hid hft.2.1.row.oks
      have hm16 : m.length ≤ 16 := hft.2.2
      obtain ⟨q, hq⟩ : ∃ q, hasL l x.data.toList = q := ⟨_, rfl⟩
      have HQ := Lib.hid hq
      have HQM := Lib.hid (show hasL m x.data.toList = q by
        have := hasL_form (l := l) (by rw [HF.out]) x.data.toList
        rw [HF.out] at this
        rw [← hq, ← this])
      obtain ⟨t, ht⟩ : ∃ t, textM m = t := ⟨_, rfl⟩
      have HTM := Lib.hid ht
      have HTF := Lib.hid (show textF l = t by unfold textF; rw [HF.out, ← ht]; rfl)
      have g8 : (t.toList == t.toList) = true := by simp
      clear hft hff hq ht
      go_wp2_with fail
      refine (refSame_is _ _ _ m m (K3.out.get (.slice A3 L3 c3) m (by simp)) (K3.out.get (.slice A4 L4 c4) m (by simp)) true (by simp)).mono ?_
      rintro e w5 ⟨rfl, hb5⟩
      have K4 := Lib.hid (K3.out.step hb5)
      clear hb5
      go_wp2_with fail
      refine (refSame_is _ _ _ l l (K4.out.get (.slice A1 L1 c1) l (by simp)) (K4.out.get (.slice A L c) l (by simp)) true (by simp)).mono ?_
      rintro e w6 ⟨rfl, hb6⟩
      have K5 := Lib.hid (K4.out.step hb6)
      clear hb6
      go_wp2_with fail
      refine (form_any _ _ m (K5.out.get (.slice A3 L3 c3) m (by simp)) (by omega) (m, true) HFF.out).mono ?_
      rintro e w7 ⟨v7, rfl, hv7, hb7⟩
      obtain ⟨A7, L7, c7, rfl⟩ := hv7.sl
      have K6 := Lib.hid ((K5.out.step hb7).push hv7)
      clear hv7 hb7
      go_wp2_with fail
      refine (fixed3_any _).mono ?_
      rintro e w8 ⟨rfl, hb8⟩
      have K7 := Lib.hid (K6.out.step hb8)
      clear hb8
      go_wp2_with fail
      refine (refSame_is _ _ _ m m (K7.out.get (.slice A3 L3 c3) m (by simp)) (K7.out.get (.slice A7 L7 c7) m (by simp)) true (by simp)).mono ?_
      rintro e w9 ⟨rfl, hb9⟩
      have K8 := Lib.hid (K7.out.step hb9)
      clear hb9
      go_wp2_with fail
      refine (hasL_is _ _ l x (K8.out.get (.slice A L c) l (by simp)) q HQ.out).mono ?_
      rintro e w10 ⟨rfl, hb10⟩
      have K9 := Lib.hid (K8.out.step hb10)
      clear hb10
      go_wp2_with fail
      refine (refHasL_is _ _ l x (K9.out.get (.slice A L c) l (by simp)) q HQ.out).mono ?_
      rintro e w11 ⟨rfl, hb11⟩
      have K10 := Lib.hid (K9.out.step hb11)
      clear hb11
      have g9 : (q == q) = true := by simp
      go_wp2_with fail
      refine (hasL_is _ _ m x (K10.out.get (.slice A3 L3 c3) m (by simp)) q HQM.out).mono ?_
      rintro e w12 ⟨rfl, hb12⟩
      have K11 := Lib.hid (K10.out.step hb12)
      clear hb12
      go_wp2_with fail
      refine (refHasL_is _ _ l x (K11.out.get (.slice A L c) l (by simp)) q HQ.out).mono ?_
      rintro e w13 ⟨rfl, hb13⟩
      have K12 := Lib.hid (K11.out.step hb13)
      clear hb13
      go_wp2_with fail
      refine (text_is _ _ l (K12.out.get (.slice A L c) l (by simp)) (by omega) t HTF.out).mono ?_
      rintro e w14 ⟨rfl, hb14⟩
      have K13 := Lib.hid (K12.out.step hb14)
      clear hb14
      go_wp2_with fail
      refine (refTextL_is _ _ m (K13.out.get (.slice A4 L4 c4) m (by simp)) HO.out hm16 t HTM.out).mono ?_
      rintro e w15 ⟨rfl, hb15⟩
      have K14 := Lib.hid (K13.out.step hb15)
      clear hb15
      go_wp2_with fail
      refine (same_is _ _ _ l m (K14.out.get (.slice A L c) l (by simp)) (K14.out.get (.slice A3 L3 c3) m (by simp)) (by omega) (by omega) true (by rw [HF.out, HFF.out]; simp)).mono ?_
      rintro e w16 ⟨rfl, hb16⟩
      have K15 := Lib.hid (K14.out.step hb16)
      clear hb16
      go_wp2
      go_ret
      exact ⟨rfl, K15.out.bel⟩
end Go.Proofs.YtdijkekglaimfaaGreat.Sq
