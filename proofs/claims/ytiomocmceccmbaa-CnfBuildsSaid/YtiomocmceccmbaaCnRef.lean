/- The document's form: each literal is put in at its place. -/
import Derived.Test.YtiomocmceccmbaaCnHolds2
namespace Go.Proofs.Ytiomocmceccmbaa.Cn
open Go.RowKit

def RefPost (w : World) (zs : List Int) (e : Ending) (w' : World) : Prop :=
  Below w.heap.size w w' ∧ ((∃ v, e = .returned (.tuple #[v, .bool false]) ∧ Row w' w.heap.size v [] ∧ Bad zs) ∨ ∃ v f, e = .returned (.tuple #[v, .bool true]) ∧ Good zs f ∧ Row w' w.heap.size v f)

theorem Own.form {w : World} {base : Nat} {v : Value} {o : List Int} (h : Own w base v o) : ∃ A n c, v = .slice A n c ∧ n = o.length ∧ n ≤ c ∧ c ≤ maxLen ∧ (0 < n → ∃ g, A = some ⟨g, 0, none⟩ ∧ base ≤ g ∧ g < w.heap.size ∧ ∀ j, j < n → w.cell? ⟨g, j, none⟩ = some (.int .i64 (nthI o j))) := by
  rcases h.2 with ⟨rfl, h0⟩ | ⟨g, cap, cur, rfl, hg, hh, h1, h2, _, h4⟩
  · exact ⟨none, 0, 0, rfl, h0.symm, Nat.le_refl _, by simp [maxLen], fun h => by omega⟩
  · refine ⟨some ⟨g, 0, none⟩, o.length, cap, rfl, rfl, h1, h2, fun _ => ⟨g, rfl, hg, lt_of_heap hh, fun j hj => cells_get hh j ?_⟩⟩
    have := intsV_get hj
    rw [← h4, List.getElem?_take] at this
    split at this
    · simpa using this
    · cases this

theorem Own.pre {w : World} {base n c at' : Nat} {A : Option Addr} {o : List Int} (h : Own w base (.slice A n c) o) (hb : ∀ x ∈ o, -9223372036854775808 ≤ x ∧ x ≤ 9223372036854775807) (ha : at' ≤ n) : Row w base (.slice A at' c) (o.take at') := by
  obtain ⟨A', n', c', e, h1, h2, h3, h4⟩ := h.form
  injection e with e1 e2 e3
  subst e1; subst e2; subst e3
  have hl : (o.take at').length = at' := by rw [List.length_take]; omega
  refine ⟨A, c, by rw [hl], by omega, h3, ?_, fun x hx => hb x (List.mem_of_mem_take hx)⟩
  by_cases h0 : at' = 0
  · left; rw [h0]; rfl
  · right
    obtain ⟨g, ha', hg, hlt, hc⟩ := h4 (by omega)
    refine ⟨g, 0, ha', hg, hlt, fun j hj => ?_⟩
    rw [hl] at hj
    rw [Nat.zero_add, hc j (by omega)]
    unfold nthI
    rw [List.getD_eq_getElem?_getD, List.getD_eq_getElem?_getD, List.getElem?_take, if_pos hj]

theorem Own.post {w : World} {base n c at' g : Nat} {o : List Int} (h : Own w base (.slice (some ⟨g, 0, none⟩) n c) o) (hb : ∀ x ∈ o, -9223372036854775808 ≤ x ∧ x ≤ 9223372036854775807) (ha : at' < n) : Row w base (.slice (some ⟨g, at', none⟩) (n - at') (c - at')) (o.drop at') := by
  obtain ⟨A', n', c', e, h1, h2, h3, h4⟩ := h.form
  injection e with e1 e2 e3
  subst e1; subst e2; subst e3
  have hl : (o.drop at').length = n - at' := by rw [List.length_drop]; omega
  refine ⟨_, c - at', by rw [hl], by omega, by omega, .inr ?_, fun x hx => hb x (List.mem_of_mem_drop hx)⟩
  obtain ⟨g', ha', hg, hlt, hc⟩ := h4 (by omega)
  injection ha' with ha'
  injection ha' with ha'
  subst ha'
  refine ⟨g, at', rfl, hg, hlt, fun j hj => ?_⟩
  rw [hl] at hj
  rw [hc (at' + j) (by omega)]
  unfold nthI
  simp [List.getD_eq_getElem?_getD]

theorem row_empty (w : World) (base : Nat) (A : Option Addr) (c : Nat) (hc : c ≤ maxLen) : Row w base (.slice A 0 c) [] := ⟨A, c, rfl, Nat.zero_le _, hc, .inl rfl, by simp⟩
theorem own_empty {w : World} {base X : Nat} (h : w.heap[X]? = some (.cells #[] 3 (0, 0))) (hb : base ≤ X) : Own w base (.slice (some ⟨X, 0, none⟩) 0 0) [] :=
  ⟨rfl, .inr ⟨X, 0, #[], rfl, hb, h, Nat.le_refl _, by simp [maxLen], rfl, rfl⟩⟩

/-- A row that is being put together, and what is left to be put behind it. -/
structure Ins (w wr w1 : World) (v : Value) (zs : List Int) (u : Value) (us : List Int) : Prop where
  own : Own w1 w.heap.size v zs
  blk : ∀ b, v.ownBlock = some b → wr.heap.size ≤ b
  rest : Row w1 w.heap.size u us
  far : us ≠ [] → ∀ b, u.ownBlock = some b → b < wr.heap.size
  bel : Below w.heap.size w w1
  size : wr.heap.size ≤ w1.heap.size

theorem Ins.alloc {w wr w1 : World} {v u : Value} {zs us : List Int} (h : Ins w wr w1 v zs u us) (o : Obj) : Ins w wr (w1.alloc o) v zs u us :=
  ⟨h.own.below ((Below.refl _ _).alloc (Nat.le_refl _) _), h.blk, h.rest.below ((Below.refl _ _).alloc (Nat.le_refl _) _), h.far, h.bel.alloc h.bel.size _, by have := h.size; simp; omega⟩
theorem Ins.app {w wr w1 w2 : World} {v v' u : Value} {zs zs' us : List Int} (h : Ins w wr w1 v zs u us) (ho : Own w2 w.heap.size v' zs') (hg : w1.grownBy w2 v.ownBlock) (hat : v'.ownBlock = v.ownBlock ∨ v'.ownBlock = some w1.heap.size) : Ins w wr w2 v' zs' u us := by
  have ht : Touch w1 w2 (fun b => v.ownBlock = some b) := Touch.of_grown hg (fun i e => e)
  refine ⟨ho, fun b hb => ?_, h.rest.touchs ht (fun hne b hb hv => ?_), h.far, Touch.belows h.bel ht (Nat.le_refl _) (fun i hi => (h.own.lt i hi).1), Nat.le_trans h.size ht.size⟩
  · rcases hat with e | e
    · exact h.blk b (e ▸ hb)
    · rw [e] at hb; injection hb with hb; have := h.size; omega
  · have h1 := h.far hne b hb
    have h2 := h.blk b hv
    omega

theorem Ins.done {w wr w1 : World} {A : Option Addr} {n c : Nat} {u : Value} {zs us : List Int} (h : Ins w wr w1 (.slice A n c) zs u us) (hz : 0 < zs.length) : ∃ g, A = some ⟨g, 0, none⟩ := by
  obtain ⟨A', n', c', e, h1, h2, h3, h4⟩ := h.own.form
  injection e with e1 e2 e3
  subst e1; subst e2; subst e3
  obtain ⟨g, e, _⟩ := h4 (by omega)
  exact ⟨g, e⟩

set_option maxRecDepth 100000 in
set_option maxHeartbeats 6400000 in
theorem refForm_any (w : World) (ba : Nat) (v : Value) (zs : List Int) (hr : Row w ba v zs) (hl : zs.length ≤ 50000) :
    Calls Try.prog 9 #[v] w (RefPost w zs) := by
  have HR := Lib.hid hr
  obtain ⟨A, L, c, rfl, hL, h1, h2, _⟩ := hr.open'
  have HL := Lib.hid hL
  have hL5 : L ≤ 50000 := by omega
  have HL5 := Lib.hid hL5
  have hLb : L ≤ 9223372036854775807 := by omega
  clear hr hL hl h2 hL5
  go_enter Try.func9, Try.ntmps9
  go_wp2
  go_loopw [11, 4] (fun i s wr => ∃ (k g n c' : Nat) (o : List Int), i = .int .i64 (k : Int) ∧ s = .slice (some ⟨g, 0, none⟩) n c' ∧ k ≤ L ∧ Own wr w.heap.size (.slice (some ⟨g, 0, none⟩) n c') o ∧ Good (zs.take k) o ∧ Below w.heap.size w wr) (fun i _ _ => L - (intOf i).toNat)
  case atStart => exact ⟨0, _, _, _, [], rfl, rfl, by omega, own_empty (heap_alloc_new w _) (Nat.le_refl _), ⟨by simp, by simp, by simp, by simp⟩, (Below.refl _ _).alloc (Nat.le_refl _) _⟩
  case round =>
    obtain ⟨w0, hw0⟩ : ∃ w0, w0 = wr := ⟨wr, rfl⟩
    subst hw0
    obtain ⟨k, g, n, c', o, rfl, rfl, hk, hown, hgood, hbw⟩ := hrel
    have HO := Lib.hid hown
    have HG := Lib.hid hgood
    have HW := Lib.hid hbw
    have hbo : ∀ x ∈ o, -9223372036854775808 ≤ x ∧ x ≤ 9223372036854775807 := fun x hx => HR.out.bounds x (List.mem_of_mem_take ((HG.out.same x).1 hx))
    have HBO := Lib.hid hbo
    obtain ⟨A2, n2, c2, e, hn, hnc, hcm, hcells⟩ := hown.form
    injection e with e1 e2 e3
    subst e1; subst e2; subst e3
    unfold maxLen at hcm
    have HN := Lib.hid hn
    have HC := Lib.hid hcells
    have hnk : n ≤ k := by
      have h1 : o.length ≤ (zs.take k).length := by
        have nd : o.Nodup := hgood.up.imp fun {a b} hab e => by subst e; omega
        have hsub : ∀ x ∈ o, x ∈ zs.take k := fun x hx => (hgood.same x).1 hx
        have := List.Nodup.length_le_of_subset nd hsub
        exact this
      rw [List.length_take] at h1; omega
    clear hown hgood hbw hbo hn hcells
    by_cases hkl : k < L
    · obtain ⟨b, off, rfl, hcell⟩ := (HR.out.belows HW.out (Nat.le_refl _)).at (by omega)
      obtain ⟨x, hx⟩ : ∃ x, nthI zs k = x := ⟨_, rfl⟩
      have cx := hcell k hkl
      rw [hx] at cx
      have hkz : k < zs.length := by rw [← HL.out]; exact hkl
      have hbx := HR.out.bounds x (by rw [← hx]; exact nthI_mem hkz)
      obtain ⟨bx1, bx2⟩ := hbx
      have htk : zs.take (k + 1) = zs.take k ++ [x] := by rw [take_snocI hkz, hx]
      have HTK := Lib.hid htk
      have HX := Lib.hid hx
      have hxin : Hid (x ∈ zs) := Lib.hid (by rw [← hx]; exact nthI_mem hkz)
      obtain ⟨s, hs⟩ : ∃ s, litB x = s := ⟨_, rfl⟩
      have HS := Lib.hid hs
      clear hcell hx hkz htk hs
      go_wp2_with fail
      refine (none_any x bx1 bx2 _).mono ?_
      rintro e w' ⟨rfl, rfl⟩
      rw [HS.out]
      cases s with
      | false =>
        go_wp2
        go_ret2
        refine ⟨HW.out.alloc HW.out.size _, .inl ⟨_, rfl, ?_, ⟨x, hxin.out, .inl (by simpa [litB] using HS.out)⟩⟩⟩
        exact row_empty _ _ _ _ (by simp [maxLen])
      | true =>
        have hlit : IsLit x := by simpa [litB] using HS.out
        have hx0 := hlit.1
        have hxm : -9223372036854775807 ≤ x := by have := hlit.2; omega
        have HLIT := Lib.hid hlit
        clear hlit
        go_wp2
        go_loopw [6] (fun i w1 => ∃ (p : Nat), i = .int .i64 (p : Int) ∧ p ≤ n ∧ (∀ j, j < p → (nthI o j).natAbs < x.natAbs) ∧ ∃ q, w1 = w0.drewN q) (fun i _ => n - (intOf i).toNat)
        case atStart => exact ⟨0, rfl, by omega, fun j hj => by omega, 0, rfl⟩
        case round =>
          obtain ⟨p, rfl, hp, hless, hq⟩ := hrel
          have HLS := Lib.hid hless
          have HQ := Lib.hid hq
          have HCL : Hid (∀ a, wr.cell? a = w0.cell? a) := Lib.hid (by obtain ⟨q, rfl⟩ := hq; exact fun _ => rfl)
          have cx := (HCL.out _).trans cx
          clear hless hq
          have KX := Lib.hid (fun nq : Nat => quiet_eq (atom_any x hxm bx2 (wr.drewN nq)))
          by_cases hpn : p < n
          · obtain ⟨g', eg, hg1, hg2, hcell⟩ := HC.out (by omega)
            injection eg with eg
            injection eg with eg
            subst eg
            obtain ⟨y, hy⟩ : ∃ y, nthI o p = y := ⟨_, rfl⟩
            have cy := (HCL.out _).trans (hcell p hpn)
            rw [hy] at cy
            have hpo : p < o.length := by rw [← HN.out]; exact hpn
            have hyin : y ∈ o := by rw [← hy]; exact nthI_mem hpo
            have hylit := HG.out.lits y ((HG.out.same y).1 hyin)
            have hyb := HBO.out y hyin
            have by1 : -9223372036854775807 ≤ y := by have := hylit.2; omega
            have by2 := hyb.2
            have KY := Lib.hid (fun nq : Nat => quiet_eq (atom_any y by1 by2 (wr.drewN nq)))
            have HY := Lib.hid hy
            have HYIN := Lib.hid hyin
            have HPO := Lib.hid hpo
            obtain ⟨ax, hax⟩ : ∃ ax, x.natAbs = ax := ⟨_, rfl⟩
            obtain ⟨ay, hay⟩ : ∃ ay, y.natAbs = ay := ⟨_, rfl⟩
            rw [hax] at KX
            rw [hay] at KY
            have i1 : (0 : Int) ≤ (p : Int) := by omega
            have i2 : (p : Int) < (n : Int) := by omega
            have i3 : (0 : Int) ≤ (k : Int) := by omega
            have i4 : (k : Int) < (L : Int) := by omega
            by_cases hyx : ay < ax
            · have HAX := Lib.hid hax
              have HAY := Lib.hid hay
              clear hcell hy hyin hylit hyb hpo hax hay
              go_wp2_with fail
              go_quiet (first | (go_at_call 36; exact KX.out _) | (go_at_call 36; exact KY.out _))
              go_wp2
              go_roundw
              case rel => exact ⟨p + 1, by first | rfl | go_num, by omega, fun j hj => by
                  by_cases e : j = p
                  · rw [e, HY.out, HAX.out, HAY.out]; exact hyx
                  · exact HLS.out j (by omega), by obtain ⟨q, hq⟩ := HQ.out; rw [hq]; exact ⟨_, World.drewN_drewN _ _ _⟩⟩
              case measure => simp [intOf]; omega
            · have wn : IntKind.i64.wrap (-x) = -x := IntWalk.i64_in _ (by omega)
              have HAX := Lib.hid hax
              have HAY := Lib.hid hay
              by_cases hy1 : y = -x
              · have g1 : (y == -x) = true := by simpa using hy1
                have HB : Hid (Bad zs) := Lib.hid ⟨x, hxin.out, .inr (by rw [← hy1]; exact List.mem_of_mem_take ((HG.out.same y).1 hyin))⟩
                have HY1 := Lib.hid hy1
                clear hcell hy hyin hylit hyb hpo hax hay hy1
                go_wp2_with fail
                go_quiet (first | (go_at_call 36; exact KX.out _) | (go_at_call 36; exact KY.out _))
                go_wp2_with fail
                go_quiet (fail)
                clear wn
                go_wp2
                go_ret2
                obtain ⟨q, hq⟩ := HQ.out
                refine ⟨?_, .inl ⟨_, rfl, row_empty _ _ _ _ (by simp [maxLen]), HB.out⟩⟩
                rw [hq]
                exact (below_draws (below_draws HW.out _) _).alloc HW.out.size _
              · have g1 : (y == -x) = false := by simpa using hy1
                by_cases hy2 : y = x
                · have g2 : (y == x) = true := by simpa using hy2
                  have HG2 : Hid (Good (zs.take (k + 1)) o) := Lib.hid (by rw [HTK.out]; exact again_good HG.out (hy2 ▸ hyin))
                  clear hcell hy hyin hylit hyb hpo hax hay hy1 hy2
                  go_wp2_with fail
                  go_quiet (first | (go_at_call 36; exact KX.out _) | (go_at_call 36; exact KY.out _))
                  go_wp2_with fail
                  go_quiet (fail)
                  clear wn
                  go_wp2_with fail
                  go_quiet (fail)
                  go_wp2
                  go_roundw
                  case rel => exact ⟨k + 1, _, _, _, o, by first | rfl | go_num, rfl, by omega, by obtain ⟨q, hq⟩ := HQ.out; rw [hq]; exact HO.out, HG2.out, by obtain ⟨q, hq⟩ := HQ.out; rw [hq]; exact below_draws (below_draws HW.out _) _⟩
                  case measure => simp [intOf]; omega
                · have g2 : (y == x) = false := by simpa using hy2
                  have hlt : ax < ay := by
                    rw [← hax, ← hay]
                    have : x.natAbs ≠ y.natAbs := fun e => by omega
                    rw [← hax, ← hay] at hyx; omega
                  have HG3 : Hid (Good (zs.take (k + 1)) (o.take p ++ x :: o.drop p)) := Lib.hid (by
                    rw [HTK.out]
                    refine insert_good (by rw [List.take_append_drop]; exact HG.out) HLIT.out (fun z hz => ?_) (fun z hz => ?_)
                    · obtain ⟨j, hj, e⟩ := mem_nthI hz
                      rw [List.length_take] at hj
                      have : nthI (o.take p) j = nthI o j := by unfold nthI; rw [List.getD_eq_getElem?_getD, List.getD_eq_getElem?_getD, List.getElem?_take, if_pos (by omega)]
                      rw [← e, this]; exact HLS.out j (by omega)
                    · obtain ⟨j, hj, e⟩ := mem_nthI hz
                      rw [List.length_drop] at hj
                      have : nthI (o.drop p) j = nthI o (p + j) := by unfold nthI; simp [List.getD_eq_getElem?_getD]
                      rw [this] at e
                      by_cases ej : j = 0
                      · rw [ej, Nat.add_zero, hy] at e; rw [← e, hax, hay]; exact hlt
                      · have := pairwise_nthI.1 HG.out.up p (p + j) (by omega) (by omega)
                        rw [hy, e, hay] at this; rw [hax]; omega)
                  have hw0 : Hid (∀ q, Own (wr.drewN q) w.heap.size (.slice (some ⟨g, 0, none⟩) n c') o) := Lib.hid fun q => by obtain ⟨q', e⟩ := HQ.out; rw [e]; exact HO.out
                  have hbw : Hid (∀ q, Below w.heap.size w (wr.drewN q)) := Lib.hid fun q => by obtain ⟨q', e⟩ := HQ.out; rw [e]; exact below_draws (below_draws HW.out _) _
                  have HI : Hid (∀ q, Ins w wr ((wr.drewN q).alloc (.cells #[] 3)) (.slice (some ⟨wr.heap.size, 0, none⟩) 0 0) [] (.slice (some ⟨g, p, none⟩) (n - p) (c' - p)) (o.drop p)) := Lib.hid fun q =>
                    ⟨own_empty (heap_alloc_new (wr.drewN q) _) (hbw.out q).size, fun b hb => by injection hb with hb; exact Nat.le_of_eq hb, ((hw0.out q).post HBO.out hpn).below ((Below.refl _ _).alloc (Nat.le_refl _) _), fun _ b hb => by injection hb with hb; rw [← hb]; exact (hw0.out 0).lt g rfl |>.2, (hbw.out q).alloc (hbw.out q).size _, by simp⟩
                  have HP : Hid (∀ q, Row ((wr.drewN q).alloc (.cells #[] 3)) w.heap.size (.slice (some ⟨g, 0, none⟩) p c') (o.take p)) := Lib.hid fun q => ((hw0.out q).pre HBO.out (by omega)).below ((Below.refl _ _).alloc (Nat.le_refl _) _)
                  have hoL : o.length ≤ 50000 := by have := HL5.out; have := HN.out; omega
                  have HS1 : Hid (([] : List Int).length + (o.take p).length ≤ 200000) := Lib.hid (by rw [List.length_take]; simp; omega)
                  have HS2 : Hid (([] ++ o.take p).length + ([x] : List Int).length ≤ 200000) := Lib.hid (by simp; omega)
                  have HS3 : Hid (([] ++ o.take p ++ [x]).length + (o.drop p).length ≤ 200000) := Lib.hid (by simp; omega)
                  have hs1 : ∀ q, w.heap.size ≤ ((wr.drewN q).alloc (.cells #[] 3)).heap.size := fun q => (HI.out q).bel.size
                  have hs1 := hs1 0
                  have HXR : Hid (Row w 0 (.slice (some ⟨b, off, none⟩) L c) zs) := Lib.hid (HR.out.base (Nat.zero_le _))
                  have HBX := Lib.hid (And.intro bx1 bx2)
                  have hpc : p < c' := by omega
                  clear hcell hy hyin hylit hyb hpo hax hay hy1 hy2 hlt hoL
                  go_wp2_with fail
                  go_quiet (first | (go_at_call 36; exact KX.out _) | (go_at_call 36; exact KY.out _))
                  go_wp2_with fail
                  go_quiet (fail)
                  clear wn
                  go_wp2_with fail
                  go_quiet (fail)
                  clear cx cy
                  go_wp2_with (first | (at_builtin; refine wpList_append_row (v := .slice (some ⟨wr.heap.size, 0, none⟩) 0 0) (x := .slice (some ⟨g, 0, none⟩) p c') rfl (.tmp 72) (.tmp 75) rfl rfl rfl rfl (HI.out _).own (HP.out _) HS1.out hs1 ?_; intro A1 L1 c1 w1 hown1 hgrow1 hat1; have HI1 := Lib.hid ((HI.out _).app hown1 hgrow1 hat1); have HI2 := Lib.hid (HI1.out.alloc (.cells #[.int .i64 x] 3)); have HR2 := Lib.hid (Row.one (heap_alloc_new w1 (.cells #[.int .i64 x] 3)) HBX.out); have hs2 := HI2.out.bel.size; have cx := Row.cellOf (HXR.out.belows HI1.out.bel (Nat.le_refl _)) hkl HX.out; clear hown1 hgrow1 hat1) | (at_builtin; refine wpList_append_row (v := .slice A1 L1 c1) (x := .slice (some ⟨w1.heap.size, 0, none⟩) 1 1) rfl (.tmp 77) (.tmp 82) rfl rfl rfl rfl HI2.out.own HR2.out HS2.out hs2 ?_; intro A2 L2 c2 w2 hown2 hgrow2 hat2; have HI3 := Lib.hid (HI2.out.app hown2 hgrow2 hat2); have hs3 := HI3.out.bel.size; clear hown2 hgrow2 hat2) | (at_builtin; refine wpList_append_row (v := .slice A2 L2 c2) rfl (.tmp 84) (.tmp 87) rfl rfl rfl rfl HI3.out.own HI3.out.rest HS3.out hs3 ?_; intro A3 L3 c3 w3 hown3 hgrow3 hat3; have HI4 := Lib.hid (HI3.out.app hown3 hgrow3 hat3); clear hown3 hgrow3 hat3))
                  obtain ⟨g3, rfl⟩ := HI4.out.done (by simp; omega)
                  have e : [] ++ o.take p ++ [x] ++ o.drop p = o.take p ++ x :: o.drop p := by simp
                  exact ⟨⟨k + 1, g3, _, _, _, by first | rfl | go_num, rfl, by omega, HI4.out.own, by rw [e]; exact HG3.out, HI4.out.bel⟩, by simp [intOf]; omega⟩
          · obtain rfl : n = p := by omega
            have HG3 : Hid (Good (zs.take (k + 1)) (o ++ [x])) := Lib.hid (by
              rw [HTK.out]
              exact insert_good (a := o) (b := []) (by rw [List.append_nil]; exact HG.out) HLIT.out (fun z hz => by
                obtain ⟨j, hj, e⟩ := mem_nthI hz
                rw [← e]; exact HLS.out j (by rw [HN.out]; exact hj)) (fun z hz => by simp at hz))
            have hw0 : Hid (∀ q, Own (wr.drewN q) w.heap.size (.slice (some ⟨g, 0, none⟩) n c') o) := Lib.hid fun q => by obtain ⟨q', e⟩ := HQ.out; rw [e]; exact HO.out
            have hbw : Hid (∀ q, Below w.heap.size w (wr.drewN q)) := Lib.hid fun q => by obtain ⟨q', e⟩ := HQ.out; rw [e]; exact below_draws (below_draws HW.out _) _
            have HP : Hid (∀ q, Row ((wr.drewN q).alloc (.cells #[] 3)) w.heap.size (.slice (some ⟨g, 0, none⟩) n c') o) := Lib.hid fun q => by
              have := (hw0.out q).row HBO.out
              exact this.below ((Below.refl _ _).alloc (Nat.le_refl _) _)
            have hoL : o.length ≤ 50000 := by have := HL5.out; have := HN.out; omega
            have HS1 : Hid (([] : List Int).length + o.length ≤ 200000) := Lib.hid (by simp; omega)
            have HS2 : Hid (([] ++ o).length + ([x] : List Int).length ≤ 200000) := Lib.hid (by simp; omega)
            have HS3 : Hid (([] ++ o ++ [x]).length + ([] : List Int).length ≤ 200000) := Lib.hid (by simp; omega)
            have hs1 : w.heap.size ≤ (wr.alloc (.cells #[] 3)).heap.size := by have := (hbw.out 0).size; simp at this ⊢; omega
            have HXR : Hid (Row w 0 (.slice (some ⟨b, off, none⟩) L c) zs) := Lib.hid (HR.out.base (Nat.zero_le _))
            have HBX := Lib.hid (And.intro bx1 bx2)
            have hd1 : decide ((n : Int) < (n : Int)) = false := by simp
            clear hoL
            by_cases hnc2 : n = c'
            · subst hnc2
              have HI : Hid (∀ q, Ins w wr ((wr.drewN q).alloc (.cells #[] 3)) (.slice (some ⟨wr.heap.size, 0, none⟩) 0 0) [] (.slice (some ⟨g, 0, none⟩) 0 0) []) := Lib.hid fun q =>
                ⟨own_empty (heap_alloc_new (wr.drewN q) _) (hbw.out q).size, fun b hb => by injection hb with hb; exact Nat.le_of_eq hb, row_empty _ _ _ _ (by simp [maxLen]), fun h => absurd rfl h, (hbw.out q).alloc (hbw.out q).size _, by simp⟩
              go_wp2_with fail
              go_quiet (fail)
              go_wp2_with fail
              go_quiet (fail)
              go_wp2_with fail
              go_quiet (fail)
              clear cx
              go_wp2_with (first | (at_builtin; refine wpList_append_row (v := .slice (some ⟨wr.heap.size, 0, none⟩) 0 0) (x := .slice (some ⟨g, 0, none⟩) n n) rfl (.tmp 72) (.tmp 75) rfl rfl rfl rfl (HI.out _).own (HP.out _) HS1.out hs1 ?_; intro A1 L1 c1 w1 hown1 hgrow1 hat1; have HI1 := Lib.hid ((HI.out _).app hown1 hgrow1 hat1); have HI2 := Lib.hid (HI1.out.alloc (.cells #[.int .i64 x] 3)); have HR2 := Lib.hid (Row.one (heap_alloc_new w1 (.cells #[.int .i64 x] 3)) HBX.out); have hs2 := HI2.out.bel.size; have cx := Row.cellOf (HXR.out.belows HI1.out.bel (Nat.le_refl _)) hkl HX.out; clear hown1 hgrow1 hat1) | (at_builtin; refine wpList_append_row (v := .slice A1 L1 c1) (x := .slice (some ⟨w1.heap.size, 0, none⟩) 1 1) rfl (.tmp 77) (.tmp 82) rfl rfl rfl rfl HI2.out.own HR2.out HS2.out hs2 ?_; intro A2 L2 c2 w2 hown2 hgrow2 hat2; have HI3 := Lib.hid (HI2.out.app hown2 hgrow2 hat2); have hs3 := HI3.out.bel.size; clear hown2 hgrow2 hat2) | (at_builtin; refine wpList_append_row (v := .slice A2 L2 c2) rfl (.tmp 84) (.tmp 87) rfl rfl rfl rfl HI3.out.own HI3.out.rest HS3.out hs3 ?_; intro A3 L3 c3 w3 hown3 hgrow3 hat3; have HI4 := Lib.hid (HI3.out.app hown3 hgrow3 hat3); clear hown3 hgrow3 hat3))
              obtain ⟨g3, rfl⟩ := HI4.out.done (by simp)
              have e : [] ++ o ++ [x] ++ [] = o ++ [x] := by simp
              exact ⟨⟨k + 1, g3, _, _, _, by first | rfl | go_num, rfl, by omega, HI4.out.own, by rw [e]; exact HG3.out, HI4.out.bel⟩, by simp [intOf]; omega⟩
            · have hncl : n < c' := by omega
              have HI : Hid (∀ q, Ins w wr ((wr.drewN q).alloc (.cells #[] 3)) (.slice (some ⟨wr.heap.size, 0, none⟩) 0 0) [] (.slice (some ⟨g, n, none⟩) 0 (c' - n)) []) := Lib.hid fun q =>
                ⟨own_empty (heap_alloc_new (wr.drewN q) _) (hbw.out q).size, fun b hb => by injection hb with hb; exact Nat.le_of_eq hb, row_empty _ _ _ _ (by unfold maxLen; omega), fun h => absurd rfl h, (hbw.out q).alloc (hbw.out q).size _, by simp⟩
              go_wp2_with fail
              go_quiet (fail)
              go_wp2_with fail
              go_quiet (fail)
              go_wp2_with fail
              go_quiet (fail)
              clear cx
              go_wp2_with (first | (at_builtin; refine wpList_append_row (v := .slice (some ⟨wr.heap.size, 0, none⟩) 0 0) (x := .slice (some ⟨g, 0, none⟩) n c') rfl (.tmp 72) (.tmp 75) rfl rfl rfl rfl (HI.out _).own (HP.out _) HS1.out hs1 ?_; intro A1 L1 c1 w1 hown1 hgrow1 hat1; have HI1 := Lib.hid ((HI.out _).app hown1 hgrow1 hat1); have HI2 := Lib.hid (HI1.out.alloc (.cells #[.int .i64 x] 3)); have HR2 := Lib.hid (Row.one (heap_alloc_new w1 (.cells #[.int .i64 x] 3)) HBX.out); have hs2 := HI2.out.bel.size; have cx := Row.cellOf (HXR.out.belows HI1.out.bel (Nat.le_refl _)) hkl HX.out; clear hown1 hgrow1 hat1) | (at_builtin; refine wpList_append_row (v := .slice A1 L1 c1) (x := .slice (some ⟨w1.heap.size, 0, none⟩) 1 1) rfl (.tmp 77) (.tmp 82) rfl rfl rfl rfl HI2.out.own HR2.out HS2.out hs2 ?_; intro A2 L2 c2 w2 hown2 hgrow2 hat2; have HI3 := Lib.hid (HI2.out.app hown2 hgrow2 hat2); have hs3 := HI3.out.bel.size; clear hown2 hgrow2 hat2) | (at_builtin; refine wpList_append_row (v := .slice A2 L2 c2) rfl (.tmp 84) (.tmp 87) rfl rfl rfl rfl HI3.out.own HI3.out.rest HS3.out hs3 ?_; intro A3 L3 c3 w3 hown3 hgrow3 hat3; have HI4 := Lib.hid (HI3.out.app hown3 hgrow3 hat3); clear hown3 hgrow3 hat3))
              obtain ⟨g3, rfl⟩ := HI4.out.done (by simp)
              have e : [] ++ o ++ [x] ++ [] = o ++ [x] := by simp
              exact ⟨⟨k + 1, g3, _, _, _, by first | rfl | go_num, rfl, by omega, HI4.out.own, by rw [e]; exact HG3.out, HI4.out.bel⟩, by simp [intOf]; omega⟩
    · have hkL : k = L := by omega
      subst hkL
      go_wp2
      go_ret2
      refine ⟨HW.out, .inr ⟨_, o, rfl, ?_, HO.out.row HBO.out⟩⟩
      have := HG.out
      rwa [HL.out, List.take_length] at this

end Go.Proofs.Ytiomocmceccmbaa.Cn
