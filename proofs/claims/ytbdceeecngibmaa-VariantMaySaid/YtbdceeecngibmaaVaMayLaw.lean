/- VariantMay's walk. -/
import Derived.Test.YtbdceeecngibmaaVaUnusual
import Derived.Test.YtbdceeecngibmaaVaAllLaw
namespace Go.Proofs.Ytbdceeecngibmaa.Va
open Go.RowKit

theorem vLegal_is (w : World) (v u : Value) (l : List Var) (s : List Set1) (h : Vars w v l) (hs : Sets w u s) (b : Bool) (hb : legalB l s = b) :
    Calls Try.prog 17 #[v, u] w fun e w' => e = .returned (.bool b) ∧ Below w.heap.size w w' := by subst hb; exact vLegal_any w v u l s h hs
theorem unusual_is (w : World) (v u : Value) (l : List Var) (s : List Set1) (h : Vars w v l) (hs : Sets w u s) (hl : l.length ≤ 60000) (n : Nat) (hn : unusualB (usualB l) s = n) :
    Calls Try.prog 19 #[v, u] w fun e w' => e = .returned (.int .i64 (n : Int)) ∧ Below w.heap.size w w' := by subst hn; exact unusual_any w v u l s h hs hl
theorem refUnusual_is (w : World) (v u : Value) (l : List Var) (s : List Set1) (h : Vars w v l) (hs : Sets w u s) (n : Nat) (hn : unusualB (usualB l) s = n) :
    Calls Try.prog 20 #[v, u] w fun e w' => e = .returned (.int .i64 (n : Int)) ∧ Below w.heap.size w w' := by subst hn; exact refUnusual_any w v u l s h hs

theorem usual_small {l : List Var} (hsm : SmallV l) : ∀ x ∈ usualB l, x.1.size ≤ maxLen ∧ x.2.size ≤ maxLen := by
  intro x hx
  unfold usualB at hx
  rw [List.mem_filterMap] at hx
  obtain ⟨y, hy, e⟩ := hx
  obtain ⟨m1, m2⟩ := hsm y hy
  split at e
  · cases e
  · rename_i z r hz
    injection e with e
    subst e
    exact ⟨m1, m2 z (by rw [hz]; simp)⟩

theorem usual_sets (w : World) (v : Value) (l : List Var) (h : Vars w v l) (hl : l.length ≤ 60000) :
    Calls Try.prog 21 #[v] w fun e w' => ∃ A n c, e = .returned (.slice A n c) ∧ Sets w' (.slice A n c) (usualB l) ∧ Below w.heap.size w w' := by
  have hs := usual_small h.small
  exact (usual_any w v l h hl).mono fun e w' ⟨A, n, c, he, ho, hb⟩ => ⟨A, n, c, he, ho.sets hs, hb⟩

set_option maxRecDepth 100000 in
set_option maxHeartbeats 3200000 in
theorem variantMay_any (v u : Value) (l : List Var) (s : List Set1) (w : World) (h : Vars w v l) (hs : Sets w u s) :
    Calls Try.prog 4 #[v, u] w fun e w' => e = .returned (.bool true) ∧ Below w.heap.size w w' := by
  have HV := Lib.hid h
  have HS := Lib.hid hs
  clear h hs
  go_enter Try.func4, Try.ntmps4
  go_wp2_with fail
  refine (greatV_any _ _ l HV.out).mono ?_
  rintro e w' ⟨b0, rfl, hb0, rfl⟩
  cases b0 with
  | true =>
    clear hb0
    go_wp2_with fail
    refine (fixed_any _).mono ?_
    rintro e w1 ⟨rfl, hb⟩
    go_wp2
    go_ret
    exact ⟨rfl, hb⟩
  | false =>
    have hl20 : l.length ≤ 60000 := by have := hb0 rfl; omega
    have HL20 := Lib.hid hl20
    clear hb0 hl20
    go_wp2_with fail
    refine (greatS_any _ _ s HS.out).mono ?_
    rintro e w' ⟨b1, rfl, hb1, rfl⟩
    clear hb1
    cases b1 with
    | true =>
      go_wp2_with fail
      refine (fixed_any _).mono ?_
      rintro e w1 ⟨rfl, hb⟩
      go_wp2
      go_ret
      exact ⟨rfl, hb⟩
    | false =>
      obtain ⟨m, hm⟩ : ∃ b, mayB l = b := ⟨_, rfl⟩
      obtain ⟨g, hg⟩ : ∃ b, legalB l s = b := ⟨_, rfl⟩
      obtain ⟨n, hn⟩ : ∃ n, unusualB (usualB l) s = n := ⟨_, rfl⟩
      have HM := Lib.hid hm
      have HG := Lib.hid hg
      have HN := Lib.hid hn
      have e1 : (m != m) = false := by simp
      have e2 : (g != g) = false := by simp
      have e3 : ((n : Int) != (n : Int)) = false := by simp
      clear hm hg hn
      go_wp2_with fail
      refine (may_is _ _ l HV.out m HM.out).mono ?_
      rintro e w1 ⟨rfl, hb⟩
      have HB1 := Lib.hid hb
      clear hb
      go_wp2_with fail
      refine (refMay_is _ _ l (HV.out.below HB1.out (Nat.le_refl _)) m HM.out).mono ?_
      rintro e w2 ⟨rfl, hb⟩
      have HB2 := Lib.hid (HB1.out.trans (hb.mono HB1.out.size))
      clear hb
      go_wp2_with fail
      refine (vLegal_is _ _ _ l s (HV.out.below HB2.out (Nat.le_refl _)) (HS.out.below HB2.out (Nat.le_refl _)) g HG.out).mono ?_
      rintro e w3 ⟨rfl, hb⟩
      have HB3 := Lib.hid (HB2.out.trans (hb.mono HB2.out.size))
      clear hb
      go_wp2_with fail
      refine (refLegal_is _ _ _ l s (HV.out.below HB3.out (Nat.le_refl _)) (HS.out.below HB3.out (Nat.le_refl _)) g HG.out).mono ?_
      rintro e w4 ⟨rfl, hb⟩
      have HB4 := Lib.hid (HB3.out.trans (hb.mono HB3.out.size))
      clear hb
      go_wp2_with fail
      refine (unusual_is _ _ _ l s (HV.out.below HB4.out (Nat.le_refl _)) (HS.out.below HB4.out (Nat.le_refl _)) HL20.out n HN.out).mono ?_
      rintro e w5 ⟨rfl, hb⟩
      have HB5 := Lib.hid (HB4.out.trans (hb.mono HB4.out.size))
      clear hb
      go_wp2_with fail
      refine (refUnusual_is _ _ _ l s (HV.out.below HB5.out (Nat.le_refl _)) (HS.out.below HB5.out (Nat.le_refl _)) n HN.out).mono ?_
      rintro e w6 ⟨rfl, hb⟩
      have HB6 := Lib.hid (HB5.out.trans (hb.mono HB5.out.size))
      clear hb
      go_wp2_with fail
      refine (usual_sets _ _ l (HV.out.below HB6.out (Nat.le_refl _)) HL20.out).mono ?_
      rintro e w7 ⟨A, k, c, rfl, hu, hb⟩
      have HB7 := Lib.hid (HB6.out.trans (hb.mono HB6.out.size))
      have HU7 := Lib.hid hu
      clear hb hu
      clear e1 e2 e3
      go_wp2_with fail
      refine (fixed_any _).mono ?_
      rintro e w8 ⟨rfl, hb⟩
      have HB8 := Lib.hid (HB7.out.trans (hb.mono HB7.out.size))
      have HU8 := Lib.hid (HU7.out.below hb (Nat.le_refl _))
      clear hb
      go_wp2_with fail
      refine (refMay_is _ _ l (HV.out.below HB8.out (Nat.le_refl _)) m HM.out).mono ?_
      rintro e w9 ⟨rfl, hb⟩
      have HB9 := Lib.hid (HB8.out.trans (hb.mono HB8.out.size))
      have HU9 := Lib.hid (HU8.out.below hb (Nat.le_refl _))
      clear hb
      cases m with
      | false =>
        go_wp2
        go_ret
        exact ⟨rfl, HB9.out⟩
      | true =>
        have HLG := Lib.hid (usual_legal (mayB_pos HM.out))
        go_wp2_with fail
        refine (refLegal_is _ _ _ l (usualB l) (HV.out.below HB9.out (Nat.le_refl _)) HU9.out true HLG.out).mono ?_
        rintro e w10 ⟨rfl, hb⟩
        have HB10 := Lib.hid (HB9.out.trans (hb.mono HB9.out.size))
        have HU10 := Lib.hid (HU9.out.below hb (Nat.le_refl _))
        clear hb
        go_wp2_with fail
        refine (refUnusual_is _ _ _ l (usualB l) (HV.out.below HB10.out (Nat.le_refl _)) HU10.out 0 (usual_none _)).mono ?_
        rintro e w11 ⟨rfl, hb⟩
        have HB11 := Lib.hid (HB10.out.trans (hb.mono HB10.out.size))
        clear hb
        go_wp2
        go_ret
        exact ⟨rfl, HB11.out⟩

theorem variantMay_w (A : Option Addr) (len cap : Nat) (l : List Var) (A' : Option Addr) (len' cap' : Nat) (s : List Set1) (w : World) (h : VarsP w A len cap l) (hs : SetsP w A' len' cap' s) :
    Calls Try.prog 4 #[.slice A len cap, .slice A' len' cap'] w fun e w' => e = .returned (.bool true) ∧ Below w.heap.size w w' := variantMay_any _ _ l s w h hs

end Go.Proofs.Ytbdceeecngibmaa.Va
