/- HeapAgain's walk. -/
import Derived.Test.YtnapkgnbkkilgaaHpAgain
namespace Go.Proofs.Ytnapkgnbkkilgaa.Hp
open Go.RowKit

set_option maxRecDepth 100000 in
set_option maxHeartbeats 3200000 in
theorem heapAgain_any (c : Option Addr) (len cap : Nat) (zs : List Int) (turn : Int) (wt : (Lit.int .u8 turn).wf = true) (w : World) (hr : IsRow .u32 w c len cap zs) :
    Calls Try.prog 6 #[.slice c len cap, .int .u8 turn] w fun e w' => e = .returned (.bool true) ∧ Below w.heap.size w w' := by
  have hle := hr.le
  obtain ⟨hle1, hle2⟩ := hle
  unfold maxLen at hle2
  obtain ⟨t1, t2⟩ := bounds_u8 wt
  obtain ⟨tu, htu⟩ := Int.eq_ofNat_of_zero_le t1
  subst htu
  have HR := Lib.hid hr
  clear hr wt t1
  by_cases hg : 200 < len
  · go_enter Try.func6, Try.ntmps6
    go_wp2_with fail
    refine (fixed_any _).mono ?_
    rintro e w1 ⟨rfl, hb⟩
    go_wp2
    go_ret
    exact ⟨rfl, hb⟩
  · go_enter Try.func6, Try.ntmps6
    go_wp2_with fail
    refine (heap_new _ _ len rfl (by omega)).mono ?_
    rintro e w1 ⟨B, S, P, v0, rfl, h1, hb1⟩
    have H1 := Lib.hid h1
    have HB1 := Lib.hid hb1
    clear h1 hb1
    go_wp2
    go_loopw [22] (fun t wr => Set1 w zs len B S P t wr) (fun t _ => len - (intOf t).toNat)
    case atStart => exact ⟨0, v0, _, _, _, rfl, by omega, H1.out, by simp, fun a => by unfold at' sco; rw [if_neg (by omega)]; simp [List.getD_eq_getElem?_getD, List.getElem?_replicate]; split <;> rfl, List.Perm.refl _, HB1.out⟩
    case round =>
      obtain ⟨k, v, sc, row, pl, rfl, hk, hh, hsl, hsc, hpe, hb⟩ := hrel
      clear H1 HB1
      by_cases hlt : k < len
      · obtain ⟨b, off, rfl, hbl, hc⟩ := HR.out.at (by omega)
        obtain ⟨hc1, hc2⟩ := hc k hlt
        obtain ⟨z1, z2⟩ := bounds_u32 hc2
        obtain ⟨s, hs⟩ := Int.eq_ofNat_of_zero_le z1
        have cz := (hb.cell (p := ⟨b, off + k, none⟩) hbl).trans hc1
        rw [hs] at cz z1 z2
        have H := Lib.hid hh
        have HS := Lib.hid hs
        have HSC := Lib.hid hsc
        have HSL := Lib.hid hsl
        have HPE := Lib.hid hpe
        have HB := Lib.hid hb
        clear hc hc1 hc2 hs hsc hsl hpe hb hh
        have h0 : 0 ∉ row := fun hm => by have := HPE.out.mem_iff.1 hm; simp at this
        have z0 : at' sc (k + 1) = 0 := by rw [HSC.out]; unfold sco; rw [if_neg (by omega)]
        go_wp2_with fail
        refine (heap_bump _ w.heap.size B S P v sc row pl H.out h0 (k + 1) s _ _ (by simp) rfl (by omega) (by rw [HSL.out]; omega) (by rw [z0]; omega)).mono ?_
        rintro e w2 ⟨rfl, row', pl', h2, p2, t2⟩
        rw [z0, Nat.zero_add] at h2
        have H2 := Lib.hid h2
        have P2 := Lib.hid p2
        have T2 := Lib.hid t2
        clear h2 p2 t2 z0 h0 cz
        go_wp2
        go_roundw
        case rel =>
          refine ⟨k + 1, v, _, row', pl', by first | rfl | go_num, by omega, H2.out, by simpa using HSL.out, fun a => ?_, P2.out.trans HPE.out, H.out.still T2.out (fun i h => .inr h) HB.out (Nat.le_refl _)⟩
          rw [at_set (by rw [HSL.out]; omega), HSC.out]
          unfold sco
          by_cases e : a = k + 1
          · subst e; rw [if_pos rfl, if_pos (by omega), Nat.add_sub_cancel, HS.out]; simp
          · rw [if_neg e]
            by_cases e2 : 1 ≤ a ∧ a ≤ k
            · rw [if_pos e2, if_pos (by omega)]
            · rw [if_neg e2, if_neg (by omega)]
        case measure => simp [intOf]; omega
      · obtain rfl : k = len := by omega
        have HL := Lib.hid (show row.length = k by rw [hpe.length_eq]; simp)
        have HPE := Lib.hid hpe
        have H := Lib.hid hh
        have HSL := Lib.hid hsl
        have HB := Lib.hid hb
        clear hh hsc hsl hpe hb
        go_wp2
        go_loopw [9, 35] (fun u t wr => Got w k B S P u t wr) (fun _ t _ => k - (intOf t).toNat)
        case atStart => exact ⟨0, v, sc, row, pl, [], rfl, by omega, ⟨H.out, World.ownsRow_nil _ _ _ _, by simp [Value.ownBlock], fun g e => by simp [Value.ownBlock] at e, HB.out⟩, HSL.out, rfl, by rw [HL.out]; omega, by simpa using HPE.out, List.Pairwise.nil, by simp⟩
        case round =>
          clear H HSL HL HPE HB
          obtain ⟨j, v2, sc2, row2, pl2, fs, rfl, hj, hbes, hsl, hfl, hrl, hpe, hpw, hlt2⟩ := hrel
          obtain ⟨A, cp, rfl⟩ := hbes.slice
          have H := Lib.hid hbes
          have HSL := Lib.hid hsl
          have HPE := Lib.hid hpe
          have HPW := Lib.hid hpw
          have HLT := Lib.hid hlt2
          have h0 : 0 ∉ row2 := fun hm => by have := hpe.mem_iff.1 (List.mem_append_right _ hm); simp at this
          have hfb : fs.length ≤ 200 := by omega
          have HFL := Lib.hid hfl
          clear hbes hsl hpe hpw hlt2 hfl
          by_cases hjl : j < k
          · have hr1 : 1 ≤ row2.length := by omega
            have HRL := Lib.hid hrl
            clear hrl
            go_wp2_with fail
            refine (heap_pop _ w.heap.size B S P v2 sc2 row2 pl2 H.out.heap h0 hr1).mono ?_
            rintro e w3 ⟨a, rfl, ha, hmin, v3, row3, pl3, h3, p3, o3, t3⟩
            have H3 := Lib.hid (H.out.call h3 (.inl o3) t3)
            have ST := Lib.hid (got_step H.out.heap.2.valid.2 p3 hmin ha HPW.out HLT.out)
            clear h3 p3 o3 t3 hmin ha
            have hs1 : fs.length ≤ 200000 := by omega
            have hs2 : w.heap.size ≤ (w3.alloc (.cells #[.int .i64 (a : Int)] 3)).heap.size := by have := H3.out.bel.size; simp; omega
            go_wp2_with (at_builtin; refine app_int (W := w3.alloc (.cells #[.int .i64 (a : Int)] 3)) (base := w.heap.size) (xs := i64s fs) (a : Int) (.tmp 37) (.tmp 40) rfl rfl rfl (H3.out.own.alloc _) rfl (heap_alloc_new w3 _) hs1 hs2 ?_; intro gg cap4 w4 hown4 hgrow4 hat4 hlt4; have H4 := Lib.hid (H3.out.grow (a := a) hown4 hgrow4 hat4); clear hown4 hgrow4 hat4)
            go_roundw
            case rel =>
              obtain ⟨s1, s2, s3, s4⟩ := ST.out
              have hrl := HRL.out
              have hfl := HFL.out
              exact ⟨j + 1, v3, sc2, row3, pl3, fs ++ [a], by first | rfl | go_num, by omega, H4.out, HSL.out, by simp; omega, by omega, s3.symm.trans HPE.out, s1, s2⟩
            case measure => simp [intOf]; omega
          · have hre : row2 = [] := List.eq_nil_of_length_eq_zero (by omega)
            subst hre
            have hpf : fs.Perm (List.range' 1 k) := by have := HPE.out; simpa using this
            have HPF := Lib.hid hpf
            have hfn : fs.Nodup := hpf.nodup_iff.2 List.nodup_range'
            have HFN := Lib.hid hfn
            have hfk : fs.length = k := by have := HFL.out; omega
            have HFK := Lib.hid hfk
            clear hrl h0 hpf hfn hfk HPE HLT
            go_wp2
            clear hjl hj hlt hk
            go_loopw [44] (fun t wr => Put w k tu B S P (.slice A fs.length cp) sc2 fs t wr) (fun t _ => k - (intOf t).toNat)
            case atStart => exact ⟨0, v2, [], pl2, rfl, by omega, H.out, rfl, by simp⟩
            case round =>
              clear H
              obtain ⟨i, v4, row4, pl4, rfl, hi, hbes, hrl, hin⟩ := hrel
              have H := Lib.hid hbes
              have HIN := Lib.hid hin
              have HRL := Lib.hid hrl
              clear hbes hin hrl
              by_cases hil : i < k
              · have hk0 : 0 < k := by omega
                have hql : (i + tu) % k < k := Nat.mod_lt _ hk0
                have HNE := Lib.hid (fun (m : Nat) (hm : m < i) => mod_ne (t := tu) hm hil)
                obtain ⟨q, hq⟩ : ∃ q, (i + tu) % k = q := ⟨_, rfl⟩
                rw [hq] at hql
                have hqi : ((i : Int) + (tu : Int)) % (k : Int) = (q : Int) := by rw [← hq]; norm_cast
                have HQ := Lib.hid hq
                clear hq
                have hqf : q < fs.length := by rw [HFK.out]; exact hql
                have i3 : (0 : Int) ≤ (q : Int) := by omega
                have i4 : (q : Int) < (fs.length : Int) := by omega
                have ham := at_mem hqf
                obtain ⟨a, haq⟩ : ∃ a, at' fs q = a := ⟨_, rfl⟩
                have h1q := HPF.out.mem_iff.1 ham
                rw [haq] at ham h1q
                simp at h1q
                have har : a ∉ row4 := fun hm => by
                  obtain ⟨m, hm1, hm2⟩ := HIN.out a hm
                  rw [← haq] at hm2
                  have hne := HNE.out m hm1
                  rw [HQ.out] at hne
                  have hml : (m + tu) % k < fs.length := by rw [HFK.out]; exact Nat.mod_lt _ hk0
                  have e1 := at_get hqf
                  have e2 := at_get hml
                  rw [← hm2] at e2
                  exact hne ((List.getElem?_inj hml HFN.out).1 (e2.trans e1.symm))
                have h0 : 0 ∉ row4 := fun hm => by
                  obtain ⟨m, hm1, hm2⟩ := HIN.out 0 hm
                  have hml : (m + tu) % k < fs.length := by rw [HFK.out]; exact Nat.mod_lt _ hk0
                  have := HPF.out.mem_iff.1 (at_mem hml)
                  rw [← hm2] at this
                  simp at this
                rcases own_len H.out.own with ⟨e, e0⟩ | ⟨g, cap5, e⟩
                · omega
                · injection e with e1 e2 e3
                  subst e1
                  have cq := H.out.cell hqf
                  rw [haq] at cq
                  have HA := Lib.hid haq
                  have HSL' := HSL.out
                  have ha1 : 1 ≤ a ∧ a < sc2.length := by omega
                  obtain ⟨ha1, ha2⟩ := ha1
                  clear haq e2 e3 HSL' HNE
                  go_wp2_with fail
                  refine (push_yes _ w.heap.size B S P v4 sc2 row4 pl4 H.out.heap h0 a har ha1 ha2 _ rfl H.out.bel.size).mono ?_
                  rintro e w5 ⟨rfl, v5, row5, pl5, h5, p5, o5, t5⟩
                  have H5 := Lib.hid (H.out.call h5 o5 t5)
                  have P5 := Lib.hid p5
                  clear h5 p5 o5 t5 cq
                  have cq := H5.out.cell hqf
                  rw [HA.out] at cq
                  go_wp2_with fail
                  refine (push_no _ w.heap.size B S P v5 sc2 row5 pl5 H5.out.heap a (P5.out.mem_iff.2 (by simp)) ha1 _ rfl).mono ?_
                  rintro e w6 ⟨rfl, rfl⟩
                  go_wp2
                  go_roundw
                  case rel =>
                    refine ⟨i + 1, v5, row5, pl5, by first | rfl | go_num, by omega, H5.out, by rw [P5.out.length_eq, List.length_append, List.length_singleton, HRL.out], fun x hx => ?_⟩
                    rcases List.mem_append.1 (P5.out.mem_iff.1 hx) with hx | hx
                    · obtain ⟨m, hm1, hm2⟩ := HIN.out x hx
                      exact ⟨m, by omega, hm2⟩
                    · rw [List.mem_singleton.1 hx]
                      exact ⟨i, by omega, by rw [HQ.out, HA.out]⟩
                  case measure => simp [intOf]; omega
              · have hpf4 : row4.Perm fs := perm_of_sub row4 fs H.out.heap.2.valid.2 (fun x hx => by
                  obtain ⟨m, hm1, hm2⟩ := HIN.out x hx
                  rw [hm2]
                  exact at_mem (by rw [HFK.out]; exact Nat.mod_lt _ (by omega))) (by rw [HRL.out, HFK.out]; omega)
                have HP4 := Lib.hid hpf4
                clear hpf4 HIN HRL
                go_wp2
                clear hil hi
                go_loopw [75] (fun t wr => Back w k B S P (.slice A fs.length cp) sc2 fs t wr) (fun t _ => k - (intOf t).toNat)
                case atStart => exact ⟨0, v4, row4, pl4, rfl, by omega, H.out, by simpa using HP4.out⟩
                case round =>
                  clear H HP4
                  obtain ⟨m, v6, row6, pl6, rfl, hm, hbes, hrp⟩ := hrel
                  have H := Lib.hid hbes
                  have HRP := Lib.hid hrp
                  clear hbes hrp
                  by_cases hml : m < fs.length
                  · have i3 : (0 : Int) ≤ (m : Int) := by omega
                    have i4 : (m : Int) < (fs.length : Int) := by omega
                    have h0 : 0 ∉ row6 := fun hx => by
                      have := HPF.out.mem_iff.1 ((List.drop_sublist _ _).subset (HRP.out.mem_iff.1 hx))
                      simp at this
                    have hr1 : 1 ≤ row6.length := by rw [HRP.out.length_eq, List.length_drop]; omega
                    rcases own_len H.out.own with ⟨e, e0⟩ | ⟨g, cap5, e⟩
                    · omega
                    · injection e with e1 e2 e3
                      subst e1
                      have cq := H.out.cell hml
                      clear e2 e3
                      go_wp2_with fail
                      refine (heap_pop _ w.heap.size B S P v6 sc2 row6 pl6 H.out.heap h0 hr1).mono ?_
                      rintro e w7 ⟨a, rfl, ha, hmin, v7, row7, pl7, h7, p7, o7, t7⟩
                      obtain ⟨ea, hp8⟩ := back_step hml HPW.out HRP.out ha hmin p7
                      subst ea
                      have H7 := Lib.hid (H.out.call h7 (.inl o7) t7)
                      have HP8 := Lib.hid hp8
                      clear h7 p7 o7 t7 ha hmin hp8 cq h0
                      go_wp2
                      go_roundw
                      case rel => exact ⟨m + 1, v7, row7, pl7, by first | rfl | go_num, by have := HFK.out; omega, H7.out, HP8.out⟩
                      case measure => simp [intOf]; have := HFK.out; omega
                  · have hre : row6 = [] := by
                      apply List.eq_nil_of_length_eq_zero
                      rw [HRP.out.length_eq, List.length_drop]; omega
                    subst hre
                    go_wp2_with fail
                    refine (fixed_any _).mono ?_
                    rintro e w7 ⟨rfl, hb7⟩
                    have H7 := Lib.hid (H.out.below hb7)
                    clear hb7
                    go_wp2_with fail
                    refine (len_is _ w.heap.size B S P v6 sc2 [] pl6 H7.out.heap.1).mono ?_
                    rintro e w8 ⟨rfl, rfl⟩
                    go_wp2
                    go_ret
                    exact ⟨rfl, H7.out.bel⟩

end Go.Proofs.Ytnapkgnbkkilgaa.Hp
