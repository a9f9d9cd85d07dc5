/- CnfBuilds: the law's walk. -/
import Derived.Test.YtiomocmceccmbaaCnOpsIn
import Derived.Test.YtiomocmceccmbaaCnWant
import Derived.Deep.CutBlock
namespace Go.Proofs.Ytiomocmceccmbaa.Cn
open Go.RowKit

theorem st_new (w : World) : St w ((w.alloc (.cells #[.slice none 0 0, .bool false, .bool false] 57)).alloc (.cells #[] 22)) (.slice none 0 0) [] [] false (.slice (some ⟨w.heap.size + 1, 0, none⟩) 0 0) [] [] := by
  have hb1 := bel_new w (.cells #[.slice none 0 0, .bool false, .bool false] 57)
  have hb2 := bel_new (w.alloc (.cells #[.slice none 0 0, .bool false, .bool false] 57)) (.cells #[] 22)
  have hh := heap_alloc_new (w.alloc (.cells #[.slice none 0 0, .bool false, .bool false] 57)) (.cells #[] 22)
  rw [show (w.alloc (.cells #[.slice none 0 0, .bool false, .bool false] 57)).heap.size = w.heap.size + 1 by simp] at hh
  refine ⟨(bld_new w).below hb2, ⟨ownG_empty hh (by omega), hb1.trans (hb2.mono hb1.size), fun j u z hu => by simp at hu⟩, fun g _ hv => (by cases hv), ⟨rfl, fun j u z hu => by simp at hu⟩, ⟨rfl, fun j u z hu => by simp at hu⟩⟩

/-- Behind an operation of the builder. -/
def Mid (w w1 wx : World) (v : Value) (ls : List (List Int)) (bad : Bool) (W : Value) (us : List Value) (P : List (List Int)) : Prop :=
  ∃ v' vs' ls' bad', St w wx v' vs' ls' bad' W us ls ∧ Adds P ls bad ls' bad' ∧ Touch w1 wx (fun b => b = w.heap.size ∨ v.ownBlock = some b) ∧ ls'.length ≤ ls.length + 157

theorem St.mid {w w1 w2 : World} {v W : Value} {vs us : List Value} {ls : List (List Int)} {bad : Bool} {P : List (List Int)} {k : Nat} {e : Ending} (h : St w w1 v vs ls bad W us ls) (hp : OpPost w1 w.heap.size w.heap.size v vs ls bad P k e w2) (hk : k ≤ 157) : e = .returned (.tuple #[]) ∧ Mid w w1 w2 v ls bad W us P := by
  obtain ⟨he, v', vs', ls', bad', h1, h2, h3⟩ := hp
  exact ⟨he, v', vs', ls', bad', h.step h2, h1, h2.touch, by omega⟩

theorem opP0 (x : Int) (zs : List Int) : opP 0 x zs = [zs] := rfl
theorem opP1 (x : Int) (zs : List Int) : opP 1 x zs = prs zs zs.length := rfl
theorem opP2 (x : Int) (zs : List Int) : opP 2 x zs = zs :: prs zs zs.length := rfl
theorem opP3 (x : Int) (zs : List Int) : opP 3 x zs = allP x zs := rfl
theorem opPE {kd : Int} (k0 : ¬ kd = 0) (k1 : ¬ kd = 1) (k2 : ¬ kd = 2) (k3 : ¬ kd = 3) (x : Int) (zs : List Int) : opP kd x zs = anyP x zs := by
  unfold opP; rw [if_neg k0, if_neg k1, if_neg k2, if_neg k3]

set_option maxRecDepth 100000 in
set_option maxHeartbeats 40000000 in
theorem cnfBuilds_any (A : Option Addr) (len cap : Nat) (os : List Opn) (M : Option Addr) (ml mc : Nat) (bs : List Bool) (w : World) (h : IsOps w A len cap os) (hm : BRow w M ml mc bs) :
    Calls Try.prog 4 #[.slice A len cap, .slice M ml mc] w fun e w' => e = .returned (.bool true) ∧ Below w.heap.size w w' := by
  have HI := Lib.hid h
  have HM := Lib.hid hm
  have hl1 : len ≤ 9223372036854775807 := by have h1 := h.2.1; have h2 := h.2.2.1; unfold maxLen at h2; omega
  have hl2 : ml ≤ 9223372036854775807 := by have h1 := hm.2.1; have h2 := hm.2.2.1; unfold maxLen at h2; omega
  clear h hm
  by_cases h30 : 30 < len
  · go_enter Try.func4, Try.ntmps4
    go_wp2_with fail
    refine (fixed_any _).mono ?_
    rintro e w' ⟨rfl, hb⟩
    go_wp2
    go_ret
    exact ⟨rfl, hb⟩
  by_cases h100 : 100 < ml
  · go_enter Try.func4, Try.ntmps4
    go_wp2_with fail
    refine (fixed_any _).mono ?_
    rintro e w' ⟨rfl, hb⟩
    go_wp2
    go_ret
    exact ⟨rfl, hb⟩
  have HST := Lib.hid (st_new w)
  go_enter Try.func4, Try.ntmps4
  go_wp2_with fail
  refine (new_any w).mono ?_
  rintro e w1 ⟨rfl, rfl⟩
  go_wp2
  go_loopw [31, 6, 7, 8] (fun i W bd hd wr => ∃ (k : Nat) (WA : Option Addr) (wn wk : Nat) (v : Value) (vs us : List Value) (ls : List (List Int)) (bad hb : Bool), i = .int .i64 (k : Int) ∧ W = .slice WA wn wk ∧ bd = .bool bad ∧ hd = .bool hb ∧ k ≤ len ∧ St w wr v vs ls bad (.slice WA wn wk) us ls ∧ (bad = false → holdsB ls bs = hb) ∧ ls.length ≤ 157 * k ∧ (∀ z ∈ ls, z.length ≤ 13)) (fun i _ _ _ _ => len - (intOf i).toNat)
  case atStart => exact ⟨0, _, _, _, _, _, _, [], false, true, rfl, rfl, rfl, rfl, by omega, HST.out, fun _ => rfl, by simp, by simp⟩
  case round =>
    clear HST
    obtain ⟨k, WA, wn, wk, v, vs, us, ls, bad, hb, rfl, rfl, rfl, rfl, hk, hst, hho, hln, hle⟩ := hrel
    have HST := Lib.hid hst
    have HHO := Lib.hid hho
    have HLN := Lib.hid hln
    have HLE := Lib.hid hle
    clear hst hho hln hle
    by_cases hkl : k < len
    · obtain ⟨⟨kd, x, OA, OL, oc, zs⟩, ho⟩ : ∃ o, os[k]? = some o := ⟨_, List.getElem?_eq_getElem (by rw [HI.out.1]; exact hkl)⟩
      have hoa := HI.out.2.2.2 k _ ho
      have HRW := Lib.hid hoa.row
      obtain ⟨x1, x2⟩ := hoa.xin
      dsimp only at x1 x2
      obtain ⟨⟨b, off, rfl, hb0, c0, c1, c2⟩, hrow, _, _⟩ := hoa.below HST.out.want.bel
      dsimp only at c0 c1 c2 hrow
      have HROW := Lib.hid hrow
      have hoL : OL = zs.length := by
        obtain ⟨A', L', c', e, e2, _⟩ := hrow.open'
        injection e with _ e5 _
        omega
      have hoc : OL ≤ 9223372036854775807 := by
        obtain ⟨A', L', c', e, e2, e3, e4, _⟩ := hrow.open'
        injection e with _ e5 _
        unfold maxLen at e4
        omega
      have HOL := Lib.hid hoL
      clear hoa ho hb0 hrow hoL
      by_cases h12 : 12 < OL
      · go_wp2_with fail
        refine (fixed_any _).mono ?_
        rintro e w' ⟨rfl, hbf⟩
        go_wp2
        go_ret
        have hb1 := HST.out.want.bel.trans ((bel_new wr (.cells #[.int .i64 kd, .int .i64 x, .slice OA OL oc] 35)).mono HST.out.want.bel.size)
        exact ⟨rfl, hb1.trans (hbf.mono hb1.size)⟩
      · have hbx := bel_new wr (.cells #[.int .i64 kd, .int .i64 x, .slice OA OL oc] 35)
        have HBX : Hid (OpBox (wr.alloc (.cells #[.int .i64 kd, .int .i64 x, .slice OA OL oc] 35)) wr.heap.size kd x OA OL oc) := Lib.hid (heap_alloc_new wr _)
        have HS1 := Lib.hid (HST.out.below hbx)
        have HR1 := Lib.hid (HROW.out.below hbx)
        have HNB := Lib.hid (show (wr.alloc (.cells #[.int .i64 kd, .int .i64 x, .slice OA OL oc] 35)).heap.size = wr.heap.size + 1 by simp)
        have HBH := Lib.hid (St.below HST.out (Below.refl _ _))
        clear HST hbx HROW
        go_wp2_with fail
        refine (said_any _ kd x OA OL oc 0 zs HR1.out x1 x2 (by have := HOL.out; omega)).mono ?_
        rintro e w1 ⟨R, rus, RN, rfl, hb1, hsv⟩
        obtain ⟨RA, rn, rc, hR, hrn, _, hrc⟩ := (hsv (fun _ => False) w1 (fun _ h => h.elim) (Touch.refl _ _)).grid.open'
        subst hR
        have HSV := Lib.hid hsv
        have HB1 := Lib.hid hb1
        have HS2 := Lib.hid (HS1.out.below hb1)
        have HR2 := Lib.hid (HR1.out.below hb1)
        have hbx2 := HBX.out.below hb1
        have HBX2 := Lib.hid hbx2
        have y0 := hbx2.cells.1
        have HRN := Lib.hid hrn
        unfold maxLen at hrc
        have HBS : Hid (Beside w1 w.heap.size v (.slice OA OL oc) 0 zs) := Lib.hid ⟨HR2.out, fun hne c hc hh => by
          have h1 := (HRW.out.block hne c hc).2
          rcases hh with hh | hh
          · omega
          · have := (HS2.out.bld.own.lt c hh).1; omega⟩
        clear hsv hb1 hbx2 hrn c0 c1 c2
        go_upto_block 2 with fail
        clear y0
        go_cut [] (fun wx => Mid w w1 wx v ls bad (.slice WA wn wk) us (opP kd x zs))
        case first =>
          obtain ⟨_, y1, y2⟩ := HBX2.out.cells
          have hzl : zs.length ≤ 12 := by have := HOL.out; omega
          have hll : ls.length ≤ 50000 := by have := HLN.out; omega
          have hbs := HS2.out.want.bel.size
          have HZL := Lib.hid hzl
          have HLL := Lib.hid hll
          have HBZ := Lib.hid hbs
          clear hzl hll hbs
          by_cases k0 : kd = 0
          · subst k0
            go_wp2_with fail
            refine (add_op w1 w.heap.size w.heap.size v vs ls bad HS2.out.bld HBZ.out _ 0 zs HR2.out (by have := HZL.out; omega) (by have := HLL.out; unfold maxC; omega)).mono ?_
            intro e w2 hp
            obtain ⟨rfl, hmid⟩ := HS2.out.mid hp (by omega)
            go_wp2
            go_meet
            exact hmid
          have g0 : (kd == 0) = false := by simpa using k0
          by_cases k1 : kd = 1
          · subst k1
            go_wp2_with fail
            refine (most_op w1 w.heap.size w.heap.size v _ 0 zs vs ls bad HS2.out.bld HBS.out HBZ.out HZL.out (by have := HLL.out; omega)).mono ?_
            intro e w2 hp
            obtain ⟨rfl, hmid⟩ := HS2.out.mid hp (by omega)
            go_wp2
            go_meet
            exact hmid
          have g1 : (kd == 1) = false := by simpa using k1
          by_cases k2 : kd = 2
          · subst k2
            go_wp2_with fail
            refine (one_op w1 w.heap.size w.heap.size v _ 0 zs vs ls bad HS2.out.bld HBS.out HBZ.out HZL.out HLL.out).mono ?_
            intro e w2 hp
            obtain ⟨rfl, hmid⟩ := HS2.out.mid hp (by omega)
            go_wp2
            go_meet
            exact hmid
          have g2 : (kd == 2) = false := by simpa using k2
          by_cases k3 : kd = 3
          · subst k3
            go_wp2_with fail
            refine (all_op w1 w.heap.size w.heap.size v _ 0 x zs vs ls bad HS2.out.bld HBS.out HBZ.out HZL.out (by have := HLL.out; omega) x1 x2).mono ?_
            intro e w2 hp
            obtain ⟨rfl, hmid⟩ := HS2.out.mid hp (by omega)
            go_wp2
            go_meet
            exact hmid
          · have g3 : (kd == 3) = false := by simpa using k3
            go_wp2_with fail
            refine (any_op w1 w.heap.size w.heap.size v _ 0 x zs vs ls bad HS2.out.bld HBS.out HBZ.out HZL.out (by have := HLL.out; omega) x1 x2).mono ?_
            intro e w2 hp
            obtain ⟨rfl, hmid⟩ := HS2.out.mid hp (by omega)
            rw [← opPE k0 k1 k2 k3 x zs] at hmid
            go_wp2
            go_meet
            exact hmid
        case rest =>
          obtain ⟨v2, vs2, ls2, bad2, hst2, hadds, ht2, hln2⟩ := hcut
          have HST2 := Lib.hid hst2
          have HADD := Lib.hid hadds
          have HT2 := Lib.hid ht2
          have HLN2 := Lib.hid hln2
          have HZL := Lib.hid (show zs.length ≤ 12 by have := HOL.out; omega)
          obtain ⟨N, hN⟩ : ∃ N, wr.heap.size = N := ⟨_, rfl⟩
          have HSS : Hid (∀ c, (c = w.heap.size ∨ v.ownBlock = some c ∨ (Value.slice WA wn wk).ownBlock = some c) → c < N + 1 ∧ ¬ (zs ≠ [] ∧ (Value.slice OA OL oc).ownBlock = some c) ∧ c ≠ N) := Lib.hid (fun c hc => by
            have h0 : w.heap.size ≤ c ∧ c < wr.heap.size := by
              rcases hc with rfl | hc | hc
              · exact ⟨Nat.le_refl _, lt_of_heap HBH.out.bld.head⟩
              · exact HBH.out.bld.own.lt c hc
              · exact HBH.out.want.lt c hc
            rw [hN] at h0
            refine ⟨by omega, fun hk => ?_, by omega⟩
            have := (HRW.out.block hk.1 c hk.2).2
            omega)
          rw [hN] at HBX2 HNB ⊢
          clear hst2 hadds ht2 hln2 hN HBH
          go_wp2
          go_loopw [78, 6, 7] (fun j W bd wq => ∃ (q : Nat) (WA2 : Option Addr) (wn2 wc2 : Nat) (us2 : List Value) (lw : List (List Int)) (bq : Bool), j = .int .i64 (q : Int) ∧ W = .slice WA2 wn2 wc2 ∧ bd = .bool bq ∧ q ≤ rn ∧ St w wq v2 vs2 ls2 bad2 (.slice WA2 wn2 wc2) us2 lw ∧ Adds ((opP kd x zs).take q) ls bad lw bq ∧ Touch w1 wq (fun c => c = w.heap.size ∨ v.ownBlock = some c ∨ (Value.slice WA wn wk).ownBlock = some c) ∧ ((Value.slice WA2 wn2 wc2).ownBlock = (Value.slice WA wn wk).ownBlock ∨ ∃ g, (Value.slice WA2 wn2 wc2).ownBlock = some g ∧ w1.heap.size ≤ g) ∧ lw.length ≤ ls.length + q) (fun j _ _ _ => rn - (intOf j).toNat)
          case atStart => exact ⟨0, WA, wn, wk, us, ls, bad, rfl, rfl, rfl, by omega, HST2.out, ⟨rfl, rfl⟩, HT2.out.mono (fun c hc => by rcases hc with h | h; exact .inl h; exact .inr (.inl h)), .inl rfl, by omega⟩
          case round =>
            clear HST2 HT2
            obtain ⟨q, WA2, wn2, wc2, us2, lw, bq, rfl, rfl, rfl, hq, hst, had, htq, hwj, hlq⟩ := hrel
            have HSTQ := Lib.hid hst
            have HADQ := Lib.hid had
            have HTQ := Lib.hid htq
            have HWJ := Lib.hid hwj
            have HLQ := Lib.hid hlq
            have hgr := HSV.out _ wr (fun c hc => ⟨by rw [HNB.out]; exact (HSS.out c hc).1, (HSS.out c hc).2.1⟩) htq
            clear hst had htq hwj hlq
            by_cases hql : q < rn
            · have hqP : q < (opP kd x zs).length := by rw [← HRN.out]; exact hql
              have hqu : q < rus.length := by have := hgr.rows.1; omega
              obtain ⟨u0, hu0⟩ : ∃ u0, rus[q]? = some u0 := ⟨_, List.getElem?_eq_getElem hqu⟩
              have r1 := (hgr.rows.2 q u0 _ hu0 (nthL_get hqP)).1
              obtain ⟨A1, L1, c1, rfl, hq1, _, _, _⟩ := r1.open'
              clear hq1
              obtain ⟨g2, rc', eR, cc⟩ := own_at hgr.own hu0
              injection eR with eR eR2 eR3
              subst eR
              clear eR2 eR3
              have HU0 := Lib.hid hu0
              have hl1 : L1 = (nthL (opP kd x zs) q).length ∧ L1 ≤ 9223372036854775807 := by
                obtain ⟨A', L', c', e, e2, e3, e4, _⟩ := r1.open'
                injection e with _ e5 _
                unfold maxLen at e4
                exact ⟨by omega, by omega⟩
              obtain ⟨hl1, hl1b⟩ := hl1
              have HQP := Lib.hid hqP
              have HL1 := Lib.hid hl1
              have HGR := Lib.hid r1
              have hcl : (nthL (opP kd x zs) q).length ≤ 13 := op_len HZL.out (List.mem_of_getElem? (nthL_get hqP))
              have HCL := Lib.hid (show (nthL (opP kd x zs) q).length ≤ 50000 by omega)
              have HTK := Lib.hid (take_snocL hqP)
              have HLW := Lib.hid (show lw.length ≤ 400000 by have h1 := HLQ.out; have h2 := HLN.out; have h3 := op_count kd x zs HZL.out; omega)
              clear hgr r1 hl1 hcl hqP hqu hu0
              go_wp2_with fail
              refine (refForm_any _ 0 _ _ HGR.out HCL.out).mono ?_
              rintro e w3 ⟨hb3, hres⟩
              rcases hres with ⟨u, rfl, _, hbad⟩ | ⟨u, f, rfl, hgood, hru⟩
              · have HBAD := Lib.hid hbad
                have HSTQ := Lib.hid (HSTQ.out.below hb3)
                have HTQ := Lib.hid (HTQ.out.trans (Touch.of_below (S := fun _ => False) hb3) (fun _ _ h => h.elim))
                have HGR3 := Lib.hid (HGR.out.below hb3)
                clear hbad hb3 cc HGR
                have r3 := HGR3.out
                go_wp2
                go_loop [94, 7] (fun i bd => ∃ (t : Nat) (b3 : Bool), i = .int .i64 (t : Int) ∧ bd = .bool b3 ∧ t ≤ L1 ∧ b3 = (bq || !((nthL (opP kd x zs) q).take t).all litB)) (fun i _ => L1 - (intOf i).toNat)
                case atStart => exact ⟨0, bq, rfl, rfl, by omega, by simp⟩
                case round =>
                  obtain ⟨t, b3, rfl, rfl, ht, hb3⟩ := hrel
                  have HB3 := Lib.hid hb3
                  clear hb3
                  by_cases htl : t < L1
                  · obtain ⟨b4, o4, rfl, hc4⟩ := HGR3.out.at (by omega)
                    obtain ⟨y, hy⟩ : ∃ y, nthI (nthL (opP kd x zs) q) t = y := ⟨_, rfl⟩
                    have cy := hc4 t htl
                    rw [hy] at cy
                    have hyb := HGR3.out.bounds y (by rw [← hy]; exact nthI_mem (by rw [← HL1.out]; exact htl))
                    obtain ⟨s, hs⟩ : ∃ s, (!litB y) = s := ⟨_, rfl⟩
                    have HNX := Lib.hid (show (b3 || s) = (bq || !((nthL (opP kd x zs) q).take (t + 1)).all litB) by
                      rw [take_snocI (by rw [← HL1.out]; exact htl), hy, List.all_append, HB3.out, ← hs]
                      cases bq <;> cases ((nthL (opP kd x zs) q).take t).all litB <;> simp)
                    have HSS := Lib.hid hs
                    have HYB := Lib.hid hyb
                    clear hc4 hy hs hyb r3
                    cases b3 with
                    | true =>
                      go_wp2
                      go_round
                      case rel => exact ⟨t + 1, true, by first | rfl | go_num, rfl, by omega, by rw [← HNX.out]; rfl⟩
                      case measure => simp [intOf]; omega
                    | false =>
                      go_wp2_with fail
                      refine (none_any y HYB.out.1 HYB.out.2 _).mono ?_
                      rintro e w' ⟨rfl, rfl⟩
                      rw [HSS.out]
                      go_wp2
                      go_round
                      case rel => exact ⟨t + 1, s, by first | rfl | go_num, by first | rfl | (cases s <;> rfl), by omega, by rw [← HNX.out]; rfl⟩
                      case measure => simp [intOf]; omega
                  · have htL : t = L1 := by omega
                    subst htL
                    have HFIN := Lib.hid (show b3 = (bq || !(nthL (opP kd x zs) q).all litB) by
                      have := HB3.out
                      rw [HL1.out, List.take_length] at this
                      exact this)
                    clear HB3
                    go_wp2
                    go_roundw
                    case rel => exact ⟨q + 1, WA2, wn2, wc2, us2, lw, b3, by first | rfl | go_num, rfl, rfl, by omega, HSTQ.out, by rw [HTK.out]; exact HADQ.out.snoc (.inl ⟨HBAD.out, rfl, by rw [HFIN.out]⟩), HTQ.out, HWJ.out, by have := HLQ.out; omega⟩
                    case measure => simp [intOf]; omega
              · have HGOOD := Lib.hid hgood
                obtain ⟨A3, L3, c3, rfl, hq3, _, _, _⟩ := hru.open'
                clear hq3
                have hb3b := hb3.trans ((bel_new w3 (.cells #[.slice A3 L3 c3] 22)).mono hb3.size)
                have HST3 := Lib.hid (HSTQ.out.below hb3b)
                have HR3 := Lib.hid ((hru.below (bel_new w3 (.cells #[.slice A3 L3 c3] 22))).base (Nat.zero_le _))
                have HNW := Lib.hid (show f ≠ [] → ∀ c, (Value.slice A3 L3 c3).ownBlock = some c → ¬ (Value.slice WA2 wn2 wc2).ownBlock = some c from fun hne c hc hh => by have h1 := (hru.block hne c hc).1; have h2 := (HSTQ.out.want.lt c hh).2; omega)
                have HNV := Lib.hid (show f ≠ [] → ∀ c, (Value.slice A3 L3 c3).ownBlock = some c → ¬ (c = w.heap.size ∨ v2.ownBlock = some c) from fun hne c hc hh => by
                  have h1 := (hru.block hne c hc).1
                  rcases hh with hh | hh
                  · have := lt_of_heap HSTQ.out.bld.head; omega
                  · have := (HSTQ.out.bld.own.lt c hh).2; omega)
                have HSR := Lib.hid (show Src (fun _ => False) w.heap.size (.slice A3 L3 c3) f from fun hne c hc => .inl (by have h1 := (hru.block hne c hc).1; have := HSTQ.out.want.bel.size; omega))
                have HT3 := Lib.hid (HTQ.out.trans (Touch.of_below (S := fun _ => False) hb3b) (fun _ _ h => h.elim))
                have HSZ3 := Lib.hid hb3b.size
                clear hgood hru hb3 hb3b cc HGR
                go_wp2_with (at_builtin; refine app_oneH (W := w3.alloc (.cells #[.slice A3 L3 c3] 22)) (z := f) (.tmp 88) (.tmp 90) rfl rfl rfl HST3.out.want rfl (heap_alloc_new w3 _) HR3.out HNW.out HSR.out HLW.out ?_; intro A4 n4 c4 w4 hO4 hg4 hat4; have HST4 := Lib.hid (HST3.out.app HR3.out HNW.out HNV.out hO4 hg4 hat4); have HT4 := Lib.hid (HT3.out.trans (Touch.of_grown (S := fun c => (Value.slice WA2 wn2 wc2).ownBlock = some c) hg4 (fun _ h => h)) (fun c hc hh => by rcases HWJ.out with e | ⟨g, e, hg⟩; exact .inr (.inr (e ▸ hh)); rw [e] at hh; injection hh with hh; omega)); have HW4 : Hid ((Value.slice A4 n4 c4).ownBlock = (Value.slice WA wn wk).ownBlock ∨ ∃ g, (Value.slice A4 n4 c4).ownBlock = some g ∧ w1.heap.size ≤ g) := Lib.hid (by rcases hat4 with e | e; exact HWJ.out.imp (fun k => e.trans k) (fun ⟨g, k, hk⟩ => ⟨g, e.trans k, hk⟩); exact .inr ⟨_, e, by have := HT3.out.size; omega⟩); have HGR3 := Lib.hid (((HSV.out _ w4 (fun c hc => ⟨by rw [HNB.out]; exact (HSS.out c hc).1, (HSS.out c hc).2.1⟩) HT4.out).rows.2 q _ _ HU0.out (nthL_get HQP.out)).1); clear hO4 hg4 hat4)
                have r3 := HGR3.out
                go_wp2
                go_loop [94, 7] (fun i bd => ∃ (t : Nat) (b3 : Bool), i = .int .i64 (t : Int) ∧ bd = .bool b3 ∧ t ≤ L1 ∧ b3 = (bq || !((nthL (opP kd x zs) q).take t).all litB)) (fun i _ => L1 - (intOf i).toNat)
                case atStart => exact ⟨0, bq, rfl, rfl, by omega, by simp⟩
                case round =>
                  obtain ⟨t, b3, rfl, rfl, ht, hb3⟩ := hrel
                  have HB3 := Lib.hid hb3
                  clear hb3
                  by_cases htl : t < L1
                  · obtain ⟨b4, o4, rfl, hc4⟩ := HGR3.out.at (by omega)
                    obtain ⟨y, hy⟩ : ∃ y, nthI (nthL (opP kd x zs) q) t = y := ⟨_, rfl⟩
                    have cy := hc4 t htl
                    rw [hy] at cy
                    have hyb := HGR3.out.bounds y (by rw [← hy]; exact nthI_mem (by rw [← HL1.out]; exact htl))
                    obtain ⟨s, hs⟩ : ∃ s, (!litB y) = s := ⟨_, rfl⟩
                    have HNX := Lib.hid (show (b3 || s) = (bq || !((nthL (opP kd x zs) q).take (t + 1)).all litB) by
                      rw [take_snocI (by rw [← HL1.out]; exact htl), hy, List.all_append, HB3.out, ← hs]
                      cases bq <;> cases ((nthL (opP kd x zs) q).take t).all litB <;> simp)
                    have HSS := Lib.hid hs
                    have HYB := Lib.hid hyb
                    clear hc4 hy hs hyb r3
                    cases b3 with
                    | true =>
                      go_wp2
                      go_round
                      case rel => exact ⟨t + 1, true, by first | rfl | go_num, rfl, by omega, by rw [← HNX.out]; rfl⟩
                      case measure => simp [intOf]; omega
                    | false =>
                      go_wp2_with fail
                      refine (none_any y HYB.out.1 HYB.out.2 _).mono ?_
                      rintro e w' ⟨rfl, rfl⟩
                      rw [HSS.out]
                      go_wp2
                      go_round
                      case rel => exact ⟨t + 1, s, by first | rfl | go_num, by first | rfl | (cases s <;> rfl), by omega, by rw [← HNX.out]; rfl⟩
                      case measure => simp [intOf]; omega
                  · have htL : t = L1 := by omega
                    subst htL
                    have HFIN := Lib.hid (show b3 = (bq || !(nthL (opP kd x zs) q).all litB) by
                      have := HB3.out
                      rw [HL1.out, List.take_length] at this
                      exact this)
                    clear HB3
                    go_wp2
                    go_roundw
                    case rel => exact ⟨q + 1, A4, n4, c4, us2 ++ [.slice A3 L3 c3], lw ++ [f], b3, by first | rfl | go_num, rfl, rfl, by omega, HST4.out, by rw [HTK.out]; exact HADQ.out.snoc (.inr ⟨f, HGOOD.out, rfl, by rw [HFIN.out, show (nthL (opP kd x zs) q).all litB = true from lits_good HGOOD.out]; simp⟩), HT4.out, HW4.out, by have := HLQ.out; simp; omega⟩
                    case measure => simp [intOf]; omega
            · have hqN : q = rn := by omega
              subst hqN
              have htk : (opP kd x zs).take q = opP kd x zs := by rw [HRN.out, List.take_length]
              have had := HADQ.out
              rw [htk] at had
              obtain ⟨hlw, hbq⟩ := adds_det had HADD.out
              subst hlw
              subst hbq
              have hbx3 : OpBox wr N kd x OA OL oc := heap_touch HBX2.out HTQ.out (fun hc => (HSS.out _ hc).2.2 rfl)
              obtain ⟨d0, d1, d2⟩ := hbx3.cells
              have HHN := Lib.hid (holds_next (bs := bs) HADD.out HRW.out.bounds ⟨x1, x2⟩ HHO.out)
              have HLE2 := Lib.hid (adds_len HADD.out (fun c hc => op_len HZL.out hc) HLE.out)
              clear htk had hbx3
              cases hb with
              | false =>
                go_wp2
                go_roundw
                case rel => exact ⟨k + 1, WA2, wn2, wc2, v2, vs2, us2, lw, bq, false, by first | rfl | go_num, rfl, rfl, rfl, by omega, HSTQ.out, by simpa using HHN.out, by have h1 := HLN.out; have h2 := HLN2.out; omega, HLE2.out⟩
                case measure => simp [intOf]; omega
              | true =>
                go_wp2_with fail
                refine (means_any _ kd x OA OL oc 0 zs M ml mc bs (HRW.out.below HSTQ.out.want.bel) (HM.out.below HSTQ.out.want.bel (Nat.le_refl _)) x1 x2 HZL.out).mono ?_
                rintro e w5 ⟨rfl, hb5⟩
                have HST5 := Lib.hid (HSTQ.out.below hb5)
                obtain ⟨mv, hmv⟩ : ∃ mv, meansB kd x zs bs = mv := ⟨_, rfl⟩
                have HHN2 := Lib.hid (show bq = false → holdsB lw bs = mv by have := HHN.out; rw [hmv] at this; simpa using this)
                rw [hmv]
                clear hb5 hmv
                go_wp2
                go_roundw
                case rel => exact ⟨k + 1, WA2, wn2, wc2, v2, vs2, us2, lw, bq, mv, by first | rfl | go_num, rfl, rfl, by first | rfl | (cases mv <;> rfl), by omega, HST5.out, HHN2.out, by have h1 := HLN.out; have h2 := HLN2.out; omega, HLE2.out⟩
                case measure => simp [intOf]; omega
    · have hkL : k = len := by omega
      subst hkL
      have HSTE := HST
      have HHE := HHO
      clear HST HHO
      cases bad with
      | true =>
        go_wp2_with fail
        refine (bad_any wr w.heap.size w.heap.size v vs ls true false HSTE.out.bld).mono ?_
        rintro e w' ⟨rfl, rfl⟩
        go_wp2_with fail
        refine (full_any _ w.heap.size w.heap.size v vs ls true false HSTE.out.bld).mono ?_
        rintro e w' ⟨rfl, rfl⟩
        go_wp2_with fail
        refine (clauses_any _ w.heap.size w.heap.size v vs ls true false HSTE.out.bld (fun z hz => by have := HLE.out z hz; omega)).mono ?_
        rintro e w2 ⟨u, rfl, hg2, hb2⟩
        have HG2 := Lib.hid hg2
        have HST2 := Lib.hid (HSTE.out.below hb2)
        clear hg2 hb2
        go_wp2_with fail
        refine (sameAll_any w2 _ _ ls ls HG2.out HST2.out.want.own.grid).mono ?_
        rintro e w3 ⟨rfl, q3, rfl⟩
        rw [show decide (ls = ls) = true from decide_eq_true rfl]
        have HST3 := Lib.hid (HST2.out.below (below_draws (Below.refl _ _) q3))
        go_wp2_with fail
        refine (fixed_any _).mono ?_
        rintro e w4 ⟨rfl, hb4⟩
        have HST4 := Lib.hid (HST3.out.below hb4)
        clear hb4
        go_wp2
        go_ret
        exact ⟨rfl, HST4.out.want.bel⟩
      | false =>
        go_wp2_with fail
        refine (bad_any wr w.heap.size w.heap.size v vs ls false false HSTE.out.bld).mono ?_
        rintro e w' ⟨rfl, rfl⟩
        go_wp2_with fail
        refine (full_any _ w.heap.size w.heap.size v vs ls false false HSTE.out.bld).mono ?_
        rintro e w' ⟨rfl, rfl⟩
        go_wp2_with fail
        refine (clauses_any _ w.heap.size w.heap.size v vs ls false false HSTE.out.bld (fun z hz => by have := HLE.out z hz; omega)).mono ?_
        rintro e w2 ⟨u, rfl, hg2, hb2⟩
        have HG2 := Lib.hid hg2
        have HST2 := Lib.hid (HSTE.out.below hb2)
        clear hg2 hb2
        go_wp2_with fail
        refine (sameAll_any w2 _ _ ls ls HG2.out HST2.out.want.own.grid).mono ?_
        rintro e w3 ⟨rfl, q3, rfl⟩
        rw [show decide (ls = ls) = true from decide_eq_true rfl]
        have HST3 := Lib.hid (HST2.out.below (below_draws (Below.refl _ _) q3))
        go_wp2_with fail
        refine (fixed_any _).mono ?_
        rintro e w4 ⟨rfl, hb4⟩
        have HST4 := Lib.hid (HST3.out.below hb4)
        clear hb4
        go_wp2_with fail
        refine (holds_any _ _ ls HST4.out.want.own.grid M ml mc bs (HM.out.below HST4.out.want.bel (Nat.le_refl _))).mono ?_
        rintro e w5 ⟨rfl, hb5⟩
        rw [HHE.out (by first | rfl | exact trivial)]
        have HB5 := Lib.hid (HST4.out.below hb5).want.bel
        clear hb5
        cases hb with
        | true =>
          go_wp2
          go_ret
          exact ⟨rfl, HB5.out⟩
        | false =>
          go_wp2
          go_ret
          exact ⟨rfl, HB5.out⟩

end Go.Proofs.Ytiomocmceccmbaa.Cn

