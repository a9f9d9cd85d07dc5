/- Form. -/
import Derived.Test.YtiomocmceccmbaaCnSort
import Derived.Deep.DeepCutAuto
namespace Go.Proofs.Ytiomocmceccmbaa.Cn
open Go.RowKit

/-- What Form answers: there is none; or the form, in new memory. -/
def FormPost (w : World) (zs : List Int) (e : Ending) (w' : World) : Prop :=
  Below w.heap.size w w' ∧ ((e = .returned (.tuple #[.slice none 0 0, .bool false]) ∧ Bad zs) ∨ ∃ v f, e = .returned (.tuple #[v, .bool true]) ∧ Good zs f ∧ Row w' w.heap.size v f)

theorem own_cells {w : World} {base : Nat} {e : TypeId} {v : Value} {n : Nat} {xs : List Value} (h : w.ownsRow base e 1 v n xs) (hn : v ≠ .slice none 0 0) :
    ∃ g c, v = .slice (some ⟨g, 0, none⟩) n c ∧ n ≤ c ∧ c ≤ maxLen ∧ base ≤ g ∧ g < w.heap.size ∧ ∀ j u, xs[j]? = some u → w.cell? ⟨g, j, none⟩ = some u ∧ w.frozen? ⟨g, j, none⟩ = false := by
  rcases h.2 with ⟨h1, _⟩ | ⟨g, cap, cur, rfl, hb, hh, h3, h4, _, h6⟩
  · exact absurd h1 hn
  · refine ⟨g, cap, rfl, h3, h4, hb, lt_of_heap hh, fun j u hu => ⟨cells_get hh j ?_, cells_free hh j⟩⟩
    rw [← h6, List.getElem?_take] at hu
    split at hu
    · simpa using hu
    · cases hu

theorem below_from {w w' : World} {q : Nat} (h : Below (w.drewN q).heap.size (w.drewN q) w') : Below w.heap.size w w' := ⟨h.os, h.tape, h.output, h.size, h.block⟩

def ClonePost (w : World) (zs : List Int) (e : Ending) (w' : World) : Prop :=
  ∃ A c, e = .returned (.slice A zs.length c) ∧ zs.length ≤ c ∧ c ≤ maxLen ∧ Below w.heap.size w w' ∧ (zs = [] ∨ ∃ g, A = some ⟨g, 0, none⟩ ∧ w.heap.size ≤ g ∧ g < w'.heap.size ∧ ∀ j, j < zs.length → w'.cell? ⟨g, 0 + j, none⟩ = some (.int .i64 (nthI zs j)) ∧ w'.frozen? ⟨g, 0 + j, none⟩ = false)

theorem clone_any (w : World) (base : Nat) (v : Value) (zs : List Int) (h : Row w base v zs) (hl : zs.length ≤ 100000) :
    Calls Try.prog 29 #[v] w (ClonePost w zs) := by
  obtain ⟨A, L, c, rfl, hL, h1, h2, h3⟩ := h.open'
  by_cases h0 : 0 < L
  · obtain ⟨b, off, rfl, _, _, hcell⟩ := h3 h0
    refine (Try.slices_Clone_int b off L c zs w (by omega) (by omega) (fun j hj => (hcell j (by omega)).1)).mono ?_
    rintro e w' ⟨v', rfl, hown, hne, hb⟩
    rw [hL, List.take_length] at hown
    obtain ⟨g, c', rfl, e1, e2, e3, e4, e5⟩ := own_cells hown hne
    refine ⟨some ⟨g, 0, none⟩, c', rfl, e1, e2, hb, .inr ⟨g, rfl, e3, e4, fun j hj => ?_⟩⟩
    rw [Nat.zero_add]
    exact e5 j _ (by rw [List.getElem?_map, nthI_get hj]; rfl)
  · have e0 : L = 0 := by omega
    subst e0
    have ez : zs = [] := List.eq_nil_of_length_eq_zero hL.symm
    subst ez
    cases A with
    | none =>
      refine (Try.slices_Clone_int_nil 0 c w).mono ?_
      rintro e w' ⟨rfl, rfl⟩
      exact ⟨none, 0, rfl, Nat.le_refl _, by simp [maxLen], Below.refl _ _, .inl rfl⟩
    | some a =>
      refine (Try.slices_Clone_int_zero a c w).mono ?_
      rintro e w' ⟨v', rfl, hown, hne, hb⟩
      obtain ⟨g, c', rfl, e1, e2, _⟩ := own_cells hown hne
      exact ⟨some ⟨g, 0, none⟩, c', rfl, e1, e2, hb, .inl rfl⟩

theorem setCells_touch (g : Nat) : ∀ (vs : List Value) (o : Nat) (w : World), Touch w (w.setCells g o vs) (fun i => i = g)
  | [], _, _ => Touch.refl _ _
  | v :: r, o, w => ((Touch.refl w (fun i => i = g)).set g o v rfl).trans (setCells_touch g r (o + 1) _) (fun _ _ h => h)

theorem compact_len (s : List Int) : (Lib.compact s).length ≤ s.length := by
  unfold Lib.compact Lib.compactUpTo
  rw [List.length_map]
  exact Nat.le_trans (List.length_filter_le _ _) (by simp)

/-- SortFunc and Compact at a row of literals. -/
theorem compact_row (w : World) (g c : Nat) (s : List Int) (hc1 : s.length ≤ c) (hl : s.length ≤ 100000) (hc : ∀ j, j < s.length → w.cell? ⟨g, 0 + j, none⟩ = some (.int .i64 (nthI s j)) ∧ w.frozen? ⟨g, 0 + j, none⟩ = false) (n : Nat) (hn : n = s.length) :
    Calls Try.prog 35 #[.slice (some ⟨g, 0, none⟩) n c] w fun e w' => e = .returned (.slice (some ⟨g, 0, none⟩) (Lib.compact s).length c) ∧ (∀ j, j < (Lib.compact s).length → w'.cell? ⟨g, j, none⟩ = some (.int .i64 (nthI (Lib.compact s) j))) ∧ Touch w w' (fun i => i = g) := by
  subst hn
  refine (Try.slices_Compact_int_cells g 0 s.length c s w (Nat.le_refl _) (by omega) hc1 (fun j hj => (hc j hj).1) (fun j hj => (hc j hj).2)).mono ?_
  rintro e w' ⟨rfl, q, rfl⟩
  rw [List.take_length]
  refine ⟨rfl, fun j hj => ?_, ((Touch.refl w (fun i => i = g)).drewN q).trans (setCells_touch g _ 0 _) (fun _ _ h => h)⟩
  have hlen := compact_len s
  have := World.cell?_setCells_in g ((Lib.compact s ++ List.replicate (s.length - (Lib.compact s).length) 0).map (Value.int .i64)) 0 (w.drewN q) (fun j hj => by
    simp at hj
    have := (hc j (by omega)).1
    show ((w.drewN q).cell? ⟨g, 0 + j, none⟩).isSome = true
    rw [show (w.drewN q).cell? ⟨g, 0 + j, none⟩ = w.cell? ⟨g, 0 + j, none⟩ from rfl, this]; rfl) j (by simp; omega)
  rw [Nat.zero_add] at this
  rw [this]
  simp only [List.getElem_map]
  rw [List.getElem_append_left hj]
  unfold nthI
  simp [List.getD_eq_getElem?_getD, hj]

set_option maxHeartbeats 1600000 in
theorem form_any (w : World) (base : Nat) (v : Value) (zs : List Int) (h : Row w base v zs) (hl : zs.length ≤ 100000) :
    Calls Try.prog 8 #[v] w (FormPost w zs) := by
  have HR := Lib.hid h
  have HL := Lib.hid hl
  clear h hl
  obtain ⟨r, hr⟩ : ∃ r, zs.all litB = r := ⟨_, rfl⟩
  have HA := Lib.hid hr
  clear hr
  cases r with
  | false =>
    go_enter Try.func8, Try.ntmps8
    go_wp2_with fail
    refine (allLiterals_any _ _ _ _ HR.out).mono ?_
    rintro e w1 ⟨rfl, q, rfl⟩
    rw [HA.out]
    go_wp2
    go_ret2
    refine ⟨below_draws (Below.refl w.heap.size w) q, .inl ⟨rfl, ?_⟩⟩
    have := HA.out
    rw [List.all_eq_false] at this
    obtain ⟨x, hx, hn⟩ := this
    exact ⟨x, hx, .inl (by simpa [litB] using hn)⟩
  | true =>
    have hlit : ∀ x ∈ zs, IsLit x := fun x hx => by
      have := List.all_eq_true.1 HA.out x hx
      simpa [litB] using this
    have HLT := Lib.hid hlit
    clear hlit
    go_enter Try.func8, Try.ntmps8
    go_wp2_with fail
    refine (allLiterals_any _ _ _ _ HR.out).mono ?_
    rintro e w1 ⟨rfl, q, rfl⟩
    rw [HA.out]
    go_wp2_with fail
    refine (clone_any (w.drewN q) base v zs HR.out HL.out).mono ?_
    rintro e w2 ⟨A, c, rfl, hc1, hc2, hb2, hcells⟩
    obtain ⟨L, hL⟩ : ∃ L, zs.length = L := ⟨_, rfl⟩
    rw [hL] at hc1 hcells
    rw [hL]
    unfold maxLen at hc2
    have HLL := Lib.hid hL
    have HB2 : Hid (Below w.heap.size w w2) := Lib.hid (below_from hb2)
    clear hL hb2
    by_cases h0 : 0 < L
    · have hne : zs ≠ [] := fun e => by have := HLL.out; rw [e] at this; simp at this; omega
      rcases hcells with e | ⟨g, rfl, hg1, hg2, hcells⟩
      · exact absurd e hne
      have hg1 : w.heap.size ≤ g := hg1
      have HCE := Lib.hid hcells
      clear hcells
      go_wp2_with fail
      have hs := sort_row w2 g 0 c zs hg2 (by have := HL.out; omega) (fun x hx => ⟨HLT.out x hx, HR.out.bounds x hx⟩) (by rw [HLL.out]; exact HCE.out)
      rw [HLL.out] at hs
      refine hs.mono ?_
      rintro e w3 ⟨rfl, s, hsl, hsm, hsp, hsc, hst⟩
      have HST := Lib.hid hst
      have HSC := Lib.hid hsc
      have HSL := Lib.hid hsl
      have HSM := Lib.hid hsm
      have HSP := Lib.hid hsp
      clear hst hsc hsl hsm hsp hs
      have hg3 : g < w3.heap.size := Nat.lt_of_lt_of_le hg2 HST.out.size
      go_wp2_with fail
      refine (compact_row w3 g c s (by rw [HSL.out]; exact hc1) (by have := HL.out; rw [HLL.out] at this; rw [HSL.out]; exact this) HSC.out L HSL.out.symm).mono ?_
      rintro e w4 ⟨rfl, hcc, hct⟩
      obtain ⟨hcm, hcp⟩ := compact_sorted s HSP.out
      have hkl := compact_len s
      rw [HSL.out] at hkl
      obtain ⟨K, hK⟩ : ∃ K, Lib.compact s = K := ⟨_, rfl⟩
      rw [hK] at hcc hcm hcp hkl
      rw [hK]
      obtain ⟨M, hM⟩ : ∃ M, K.length = M := ⟨_, rfl⟩
      rw [hM] at hcc hkl
      rw [hM]
      have HCC := Lib.hid hcc
      have HCM := Lib.hid (fun x => (hcm x).trans (HSM.out x))
      have HCP := Lib.hid hcp
      have HM := Lib.hid hM
      have HCT : Hid (Below w.heap.size w w4) := Lib.hid (Touch.belows (Touch.belows HB2.out HST.out (Nat.le_refl _) (fun i hi => by rw [hi]; exact hg1)) hct (Nat.le_refl _) (fun i hi => by rw [hi]; exact hg1))
      have hg4 : g < w4.heap.size := Nat.lt_of_lt_of_le hg3 hct.size
      clear hcc hcm hcp hM hct hK
      have hin : Hid (∀ x ∈ K, IsLit x ∧ -9223372036854775808 ≤ x ∧ x ≤ 9223372036854775807) := Lib.hid fun x hx => by
        have := (HCM.out x).1 hx
        exact ⟨HLT.out x this, HR.out.bounds x this⟩
      go_wp2
      go_loopw [5] (fun i wr => ∃ m q, i = .int .i64 ((m : Nat) + 1 : Int) ∧ (m + 1 ≤ M ∨ m = 0) ∧ (∀ j, j < m → nthI K (j + 1) ≠ -nthI K j) ∧ wr = w4.drewN q) (fun i _ => M - (intOf i).toNat)
      case atStart => exact ⟨0, 0, rfl, .inr rfl, fun j hj => by omega, rfl⟩
      case round =>
        obtain ⟨m, q, rfl, hm, hno, rfl⟩ := hrel
        have HNO := Lib.hid hno
        clear hno
        by_cases hlt : m + 1 < M
        · obtain ⟨a, ha⟩ : ∃ a, nthI K m = a := ⟨_, rfl⟩
          obtain ⟨b, hb⟩ : ∃ b, nthI K (m + 1) = b := ⟨_, rfl⟩
          have ca := HCC.out m (by omega)
          have cb := HCC.out (m + 1) hlt
          have hia := hin.out a (by rw [← ha]; exact nthI_mem (by rw [HM.out]; omega))
          obtain ⟨⟨a0, a1⟩, a2, a3⟩ := hia
          rw [ha] at ca
          rw [hb] at cb
          have HAA := Lib.hid ha
          have HBB := Lib.hid hb
          clear ha hb
          have m1 : (0 : Int) ≤ (m : Int) := by omega
          have w1 : IntKind.i64.wrap ((m : Int) + 1 - 1) = (m : Int) := by rw [IntWalk.i64_in _ (by omega)]; omega
          have w2' : IntKind.i64.wrap (-a) = -a := IntWalk.i64_in _ (by omega)
          by_cases hab : b = -a
          · have g1 : (b == -a) = true := by simpa using hab
            go_wp2_with fail
            go_quiet (fail)
            clear w1 w2'
            go_wp2
            go_ret2
            exact ⟨below_draws (below_draws HCT.out _) _, .inl ⟨rfl, bad_of HCM.out (by rw [HM.out]; exact hlt) (by rw [HBB.out, HAA.out]; exact hab)⟩⟩
          · have g1 : (b == -a) = false := by simpa using hab
            go_wp2_with fail
            go_quiet (fail)
            clear w1 w2'
            go_wp2
            go_roundw
            case rel => exact ⟨m + 1, _, by first | rfl | go_num, .inl (by omega), fun j hj => by
                by_cases e : j = m
                · rw [e, HBB.out, HAA.out]; exact hab
                · exact HNO.out j (by omega), by first | rfl | rw [World.drewN_drewN]⟩
            case measure => simp [intOf]; omega
        · go_wp2
          go_ret2
          refine ⟨below_draws HCT.out _, .inr ⟨_, K, rfl, good_of (fun x hx => HLT.out x hx) HCM.out HCP.out (fun i hi => HNO.out i (by rw [HM.out] at hi; omega)), some ⟨g, 0, none⟩, c, by rw [HM.out]; rfl, by rw [HM.out]; omega, by unfold maxLen; exact hc2, .inr ⟨g, 0, rfl, hg1, hg4, fun j hj => ?_⟩, fun x hx => (hin.out x hx).2⟩⟩
          rw [HM.out] at hj
          rw [Nat.zero_add]
          exact HCC.out j hj
    · have e0 : L = 0 := by omega
      subst e0
      have ez : zs = [] := List.eq_nil_of_length_eq_zero HLL.out
      subst ez
      clear hcells
      go_wp2_with fail
      refine (AnyF.slices_SortFunc_none (P := Try.prog) (ρ := Try.laysSlF6_f30_ren) { Try.laysSlF6_f30 with } A c _ w2).mono ?_
      rintro e w3 ⟨rfl, rfl⟩
      go_wp2_with fail
      refine (Try.slices_Compact_int_empty A c _).mono ?_
      rintro e w3 ⟨rfl, rfl⟩
      go_wp2
      go_loop [5] (fun i => i = .int .i64 1) (fun _ => 0)
      case atStart => rfl
      case round =>
        subst hrel
        go_wp2
        go_ret2
        exact ⟨HB2.out, .inr ⟨_, [], rfl, ⟨by simp, by simp, by simp, by simp⟩, A, c, rfl, by simp, by unfold maxLen; exact hc2, .inl rfl, by simp⟩⟩

end Go.Proofs.Ytiomocmceccmbaa.Cn
