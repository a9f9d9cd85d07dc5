/- HeapPlays: the walk. -/
import Derived.Test.YtnapkgnbkkilgaaHpPlayB
namespace Go.Proofs.Ytnapkgnbkkilgaa.Hp
open Go.RowKit Go.ChangeShapes Go.WideShapes Go.Deep Go.Joins

set_option maxRecDepth 100000 in
set_option maxHeartbeats 6400000 in
theorem heapPlays_any (n : Int) (wn : (Lit.int .i64 n).wf = true) (c : Option Addr) (len cap : Nat) (l : List Opn) (w : World) (hr : IsOps w c len cap l) :
    Calls Try.prog 3 #[.int .i64 n, .slice c len cap] w fun e w' => e = .returned (.bool true) ∧ Below w.heap.size w w' := by
  obtain ⟨n1, n2⟩ := bounds_i64' wn
  have hle1 := hr.2.1
  have hle2 := hr.2.2.1
  unfold maxLen at hle2
  have HR := Lib.hid hr
  clear hr wn
  by_cases hg : 300 < n
  · go_enter Try.func3, Try.ntmps3
    go_wp2_with fail
    refine (fixed_any _).mono ?_
    rintro e w1 ⟨rfl, hb⟩
    go_wp2
    go_ret
    exact ⟨rfl, hb⟩
  by_cases hg2 : 500 < len
  · go_enter Try.func3, Try.ntmps3
    go_wp2_with fail
    refine (fixed_any _).mono ?_
    rintro e w1 ⟨rfl, hb⟩
    go_wp2
    go_ret
    exact ⟨rfl, hb⟩
  obtain ⟨N, hN⟩ : ∃ N : Nat, max 0 n = N := ⟨(max 0 n).toNat, by omega⟩
  have hN3 : N ≤ 300 := by omega
  go_enter Try.func3, Try.ntmps3
  go_wp2_with fail
  refine (heap_new_any _ n N hN (by omega) n1).mono ?_
  rintro e w1 ⟨B, S, P, v0, rfl, h1, hb1⟩
  have H1 := Lib.hid h1
  have HB1 := Lib.hid hb1
  clear h1 hb1
  go_upto_region 4 with fail
  go_cut [6] (fun s wx => s = .int .i64 (N : Int) ∧ wx = w1)
  case first =>
    go_wp2
    all_goals go_meet
    all_goals exact ⟨by congr 1; omega, rfl⟩
  case rest =>
    obtain ⟨rfl, rfl⟩ := hcut
    go_upto_region 5 with fail
    have m1 := make_bools N (by omega) (N : Int) rfl
    have m2 := make_u64s N (by omega) (N : Int) rfl
    go_cut [7, 8] (fun i u wx => ∃ IB SB, i = .slice (some ⟨IB, 0, none⟩) N N ∧ u = .slice (some ⟨SB, 0, none⟩) N N ∧ Fill w N B S P IB SB v0 0 (List.replicate N false) (.int .i64 0) wx)
    case first =>
      go_region
      all_goals clear m1 m2
      · go_wp2
        go_meet
        exact ⟨_, _, rfl, rfl, fill_start1 H1 HB1⟩
      · go_wp2
        go_meet
        exact ⟨_, _, rfl, rfl, fill_start2 H1 HB1⟩
    case rest =>
      clear m1 m2
      obtain ⟨IB, SB, rfl, rfl, hF0⟩ := hcut
      have F := Lib.hid hF0
      clear H1 HB1 hF0 hle1 hN
      go_wp2
      go_loopw [38] (fun t wr => ∃ k mi, Fill w N B S P IB SB v0 k mi t wr) (fun t _ => N - (intOf t).toNat)
      case atStart => exact ⟨0, _, F.out⟩
      case round =>
        obtain ⟨k, mi, hF⟩ := hrel
        have hF' := hF
        obtain ⟨rfl, hk, hM, hl, _⟩ := hF'
        have HF := Lib.hid hF
        clear F hF
        by_cases hlt : k < N
        · have ck := cells_get hM.isi k (v := .bool (bat mi k)) (by simpa using bls_get (by omega))
          have fk := cells_free hM.isi k
          have HM := Lib.hid hM
          clear hM hl
          go_wp2
          go_roundw
          case rel => exact ⟨k + 1, _, by have := HF.out.step hlt; simpa using this⟩
          case measure => simp [intOf]; omega
        · have hkN : N = k := by omega
          subst hkN
          have HA := Lib.hid HF.out.done
          have HM := Lib.hid hM
          clear HF hM hl hlt hk
          go_wp2
          go_loopg [47] len (fun g t wr => ∃ (k : Nat) (v : Value) (sc row pl : List Nat) (mi : List Bool) (ms : List Nat), t = .int .i64 (k : Int) ∧ k + g = len ∧ Mems w wr B S P IB SB v sc row pl mi ms ∧ Agree N sc row mi ms)
          case atStart => exact ⟨0, v0, _, _, _, _, _, rfl, by omega, HM.out, HA.out⟩
          case round =>
            clear HA HM
            obtain ⟨k, v, sc, row, pl, mi, ms, rfl, hk, hM, hA⟩ := hrel
            have HM := Lib.hid hM
            have HA := Lib.hid hA
            clear hM hA
            by_cases hlt : k < len
            · obtain ⟨⟨kd, a, d⟩, hx⟩ : ∃ x, l[k]? = some x := ⟨_, List.getElem?_eq_getElem (by rw [HR.out.1]; exact hlt)⟩
              obtain ⟨⟨a1, a2⟩, d2⟩ := HR.out.2.2.2.1 _ (List.mem_of_getElem? hx)
              obtain ⟨b, off, rfl, hb, c0, c1, c2⟩ := HR.out.2.2.2.2 k _ hx
              have c0 := (HM.out.bel.cell (p := ⟨b, off + k * 3, none⟩) hb).trans c0
              have c1 := (HM.out.bel.cell (p := ⟨b, off + k * 3 + 1, none⟩) hb).trans c1
              have c2 := (HM.out.bel.cell (p := ⟨b, off + k * 3 + 2, none⟩) hb).trans c2
              clear hx hb
              dsimp only at a1 a2 d2 c0 c1 c2
              go_upto_region 14 with fail
              go_cut [12] (fun i wx => i = .bool (decide (1 ≤ a ∧ a ≤ (N : Int))) ∧ wx = wr.alloc (.cells #[.int .i64 kd, .int .i64 a, .int .u64 (d : Int)] 30))
              case first =>
                by_cases h1 : 1 ≤ a
                · by_cases h2 : a ≤ (N : Int)
                  · go_wp2
                    all_goals go_meet
                    all_goals exact ⟨by congr 1; symm; simp; omega, rfl⟩
                  · go_wp2
                    all_goals go_meet
                    all_goals exact ⟨by congr 1; symm; simp; omega, rfl⟩
                · go_wp2
                  all_goals go_meet
                  all_goals exact ⟨by congr 1; symm; simp; omega, rfl⟩
              case rest =>
                obtain ⟨rfl, rfl⟩ := hcut
                clear c0 c1 c2
                have hbx : Bx (wr.alloc (.cells #[.int .i64 kd, .int .i64 a, .int .u64 (d : Int)] 30)) wr.heap.size kd a d := heap_alloc_new wr _
                have hM := HM.out.alloc (.cells #[.int .i64 kd, .int .i64 a, .int .u64 (d : Int)] 30)
                clear HM
                obtain ⟨X, hX⟩ : ∃ X, wr.heap.size = X := ⟨_, rfl⟩
                rw [hX] at hbx ⊢
                clear hX
                generalize wr.alloc (.cells #[.int .i64 kd, .int .i64 a, .int .u64 (d : Int)] 30) = wb at hbx hM ⊢
                have HM := Lib.hid hM
                have HX := Lib.hid hbx
                have x0 := cells_get hbx 0 (v := .int .i64 kd) rfl
                clear hM hbx
                go_upto_block 4 with fail
                clear x0
                go_cut [12] (fun _ wx => ∃ (v : Value) (sc row pl : List Nat) (mi : List Bool) (ms : List Nat), Mems w wx B S P IB SB v sc row pl mi ms ∧ Agree N sc row mi ms)
                case first =>
                  have bx1 := cells_get HX.out 1 (v := .int .i64 a) rfl
                  have bx2 := cells_get HX.out 2 (v := .int .u64 (d : Int)) rfl
                  by_cases k1 : kd = 1
                  · as_aux_lemma =>
                      subst k1
                      go_wp2_with fail
                      refine (heap_halve _ _ B S P v sc row pl HM.out.heap HA.out.pos (fun b => by have := HA.out.few b; rw [T62_small] at this; omega)).mono ?_
                      rintro e w2 ⟨rfl, sc2, row2, pl2, h2, l2, s2, p2, t2⟩
                      have HM2 := Lib.hid (HM.out.call h2 t2 foot_in)
                      have HX2 := Lib.hid (HM.out.box HX.out t2 foot_in)
                      have HL0 := Lib.hid HA.out.ls
                      have HL2 := Lib.hid l2
                      have HS2 := Lib.hid s2
                      have HP2 := Lib.hid p2
                      clear h2 l2 s2 p2 t2
                      go_wp2
                      go_loopw [129] (fun t wr => ModH w N B S P IB SB X v sc2 row2 pl2 mi ms 1 a d t wr) (fun t _ => N - (intOf t).toNat)
                      case atStart => exact modH_start HM2.out HX2.out HL0.out
                      case round =>
                        obtain ⟨i, ms2, rfl, hi, hM, hX, hl, hm⟩ := hrel
                        by_cases hil : i < N
                        · obtain ⟨s, hs⟩ : ∃ s, at' ms2 i = s := ⟨_, rfl⟩
                          have si := cells_get hM.iss i (v := .int .u64 (s : Nat)) (by have := u64s_get (at_get (show i < ms2.length by omega)); rw [hs] at this; simpa using this)
                          have fi := cells_free hM.iss i
                          have sb : s < 18446744073709551616 := by
                            rw [← hs, hm, if_neg (by omega)]
                            exact by have h1 := HA.out.few (i + 1); rw [HA.out.same i hil, T62_small] at h1; omega
                          have j1 : (0 : Int) ≤ (i : Int) := by omega
                          have j2 : (i : Int) < (N : Int) := by omega
                          have HMi := Lib.hid hM
                          have HXi := Lib.hid hX
                          have HLi := Lib.hid hl
                          have Hmi := Lib.hid hm
                          have HSi := Lib.hid hs
                          clear hM hX hl hm hs
                          go_wp2
                          go_roundw
                          case rel => have := modH_step HMi.out HXi.out HLi.out hil Hmi.out HSi.out; simpa using this
                          case measure => simp [intOf]; omega
                        · have hiN : i = N := by omega
                          subst hiN
                          have HMi := Lib.hid hM
                          have HXi := Lib.hid hX
                          have HLi := Lib.hid hl
                          have Hmi := Lib.hid hm
                          clear hM hX hl hm hil hi
                          go_wp2
                          go_meet
                          exact ⟨v, sc2, row2, pl2, mi, ms2, HMi.out, HA.out.halve HL2.out HS2.out HP2.out HLi.out (modH_all HLi.out Hmi.out)⟩
                  by_cases k0 : kd = 0
                  · as_aux_lemma =>
                      subst k0
                      clear k1
                      by_cases hin : 1 ≤ a ∧ a ≤ (N : Int)
                      · rw [decide_eq_true hin]
                        obtain ⟨q, rfl⟩ : ∃ q : Nat, a = (q : Int) + 1 := ⟨(a - 1).toNat, by omega⟩
                        have hq : q < N := by omega
                        clear hin
                        have i1 : (0 : Int) ≤ (q : Int) := by omega
                        have i2 : (q : Int) < (N : Int) := by omega
                        go_wp2_with fail
                        refine (heap_bump_any _ _ B S P v sc row pl HM.out.heap HA.out.pos HA.out.few (q + 1) d (by omega) (by rw [HA.out.lc]; omega) d2).mono ?_
                        rintro e w2 ⟨rfl, sc2, row2, pl2, h2, b2, p2, t2⟩
                        have HM2 := Lib.hid (HM.out.call h2 t2 foot_in)
                        have HX2 := Lib.hid (HM.out.box HX.out t2 foot_in)
                        have bx1 := cells_get HX2.out 1 (v := .int .i64 ((q : Int) + 1)) rfl
                        have bx2 := cells_get HX2.out 2 (v := .int .u64 (d : Int)) rfl
                        have HB2 := Lib.hid b2
                        have HP2 := Lib.hid p2
                        clear h2 b2 p2 t2
                        go_wp2
                        clear bx1 bx2
                        go_loopw [13] (fun t wr => ModW w N B S P IB SB X v sc2 row2 pl2 mi ms 0 ((q : Int) + 1) d q t wr) (fun t _ => (intOf t).toNat)
                        case atStart => exact ⟨0, ms, by simp, HM2.out, HX2.out, HA.out.ls, fun b => by simp, by simp⟩
                        case round =>
                          obtain ⟨j, ms', rfl, hM, hX, hl, hat, hj⟩ := hrel
                          clear HM2 HX2 HM HX
                          obtain ⟨dj, hdj⟩ : ∃ x, d / 2 ^ j = x := ⟨_, rfl⟩
                          obtain ⟨sj, hsj⟩ : ∃ x, at' ms q / 2 ^ j = x := ⟨_, rfl⟩
                          have hdb : dj ≤ d := by rw [← hdj]; exact Nat.div_le_self _ _
                          have hsb : sj ≤ 4611686018427387904 := by rw [← hsj]; exact Nat.le_trans (Nat.div_le_self _ _) (by rw [← HA.out.same q hq]; exact HA.out.few _)
                          rw [hdj]
                          have bx1 := cells_get hX 1 (v := .int .i64 ((q : Int) + 1)) rfl
                          have sq := cells_get hM.iss q (v := .int .u64 (sj : Nat)) (by have := u64s_get (at_get (show q < ms'.length by omega)); rw [hat, hsj] at this; simpa using this)
                          have fq := cells_free hM.iss q
                          have HMj := Lib.hid hM
                          have HXj := Lib.hid hX
                          have HLj := Lib.hid hl
                          have HATj := Lib.hid hat
                          have HJ := Lib.hid hj
                          have HDJ := Lib.hid hdj
                          have HSJ := Lib.hid hsj
                          clear hM hX hl hat hj hdj hsj
                          have hT : T62 = 4611686018427387904 := rfl
                          by_cases hc : T62 < dj ∨ T62 - dj < sj
                          · have hpos : 0 < dj := by rcases hc with h | h <;> omega
                            have HC := Lib.hid hc
                            clear hc
                            go_upto_region 25 with fail
                            go_cut [99] (fun c wx => c = .bool true ∧ wx = wr)
                            case first =>
                              by_cases hc1 : T62 < dj
                              · have g1 : (4611686018427387904 : Int) < (dj : Int) := by omega
                                clear hT hc1
                                go_wp2
                                all_goals go_meet
                                all_goals exact ⟨rfl, rfl⟩
                              · have g1 : (dj : Int) ≤ 4611686018427387904 := by omega
                                have g2 : 4611686018427387904 - (dj : Int) < (sj : Int) := by rcases HC.out with h | h <;> omega
                                clear hT hc1
                                go_wp2
                                all_goals go_meet
                                all_goals exact ⟨rfl, rfl⟩
                            case rest =>
                              obtain ⟨rfl, rfl⟩ := hcut
                              clear sq fq bx1 hT
                              go_wp2
                              go_loopw [102] (fun t wr => ModH w N B S P IB SB X v sc2 row2 pl2 mi ms' 0 ((q : Int) + 1) d t wr) (fun t _ => N - (intOf t).toNat)
                              case atStart => exact modH_start HMj.out HXj.out HLj.out
                              case round =>
                                obtain ⟨i, ms2, rfl, hi, hM, hX, hl, hm⟩ := hrel
                                by_cases hil : i < N
                                · obtain ⟨s, hs⟩ : ∃ s, at' ms2 i = s := ⟨_, rfl⟩
                                  have si := cells_get hM.iss i (v := .int .u64 (s : Nat)) (by have := u64s_get (at_get (show i < ms2.length by omega)); rw [hs] at this; simpa using this)
                                  have fi := cells_free hM.iss i
                                  have sb : s < 18446744073709551616 := by
                                    rw [← hs, hm, if_neg (by omega)]
                                    exact by rw [HATj.out]; have h1 := HA.out.few (i + 1); rw [HA.out.same i hil, T62_small] at h1; have := Nat.div_le_self (at' ms i) (2 ^ j); omega
                                  have j1 : (0 : Int) ≤ (i : Int) := by omega
                                  have j2 : (i : Int) < (N : Int) := by omega
                                  have HMi := Lib.hid hM
                                  have HXi := Lib.hid hX
                                  have HLi := Lib.hid hl
                                  have Hmi := Lib.hid hm
                                  have HSi := Lib.hid hs
                                  clear hM hX hl hm hs
                                  go_wp2
                                  go_roundw
                                  case rel => have := modH_step HMi.out HXi.out HLi.out hil Hmi.out HSi.out; simpa using this
                                  case measure => simp [intOf]; omega
                                · have hiN : i = N := by omega
                                  subst hiN
                                  have HMi := Lib.hid hM
                                  have HXi := Lib.hid hX
                                  have HLi := Lib.hid hl
                                  have Hmi := Lib.hid hm
                                  clear hM hX hl hm hil hi
                                  go_wp2
                                  go_roundw
                                  case rel =>
                                    obtain ⟨e1, e2, e3⟩ := modW_next HATj.out (modH_all HLi.out Hmi.out) HJ.out HDJ.out HSJ.out HC.out
                                    exact ⟨j + 1, ms2, by rw [e1]; first | rfl | simp, HMi.out, HXi.out, HLi.out, e2, e3⟩
                                  case measure => simp [intOf]; omega
                          · have g1 : (dj : Int) ≤ 4611686018427387904 := by omega
                            have g2 : (sj : Int) ≤ 4611686018427387904 - (dj : Int) := by omega
                            have g3 : ¬ 4611686018427387904 < (dj : Int) := by omega
                            have g4 : ¬ 4611686018427387904 - (dj : Int) < (sj : Int) := by omega
                            have HC := Lib.hid hc
                            clear hc hT
                            go_wp2
                            go_meet
                            exact ⟨v, sc2, row2, pl2, mi, ms'.set q (sj + dj), by have := HMj.out.setS q (sj + dj); simpa using this, HA.out.bump hq HB2.out HP2.out (by simpa using HLj.out) (modW_done hq HLj.out HATj.out HJ.out HDJ.out HSJ.out HC.out)⟩
                      · rw [decide_eq_false hin]
                        have hout : a < 1 ∨ (sc.length : Int) ≤ a := by rw [HA.out.lc]; omega
                        have HO := Lib.hid hout
                        clear hin hout
                        go_wp2_with fail
                        refine (bump_out _ _ B S P v sc row pl HM.out.heap.1 _ _ HO.out).mono ?_
                        rintro e w2 ⟨rfl, rfl⟩
                        go_wp2
                        go_meet
                        exact ⟨v, sc, row, pl, mi, ms, HM.out, HA.out⟩
                  by_cases k2 : kd = 2
                  · as_aux_lemma =>
                      subst k2
                      clear k1 k0
                      by_cases hin : 1 ≤ a ∧ a ≤ (N : Int)
                      · rw [decide_eq_true hin]
                        obtain ⟨q, rfl⟩ : ∃ q : Nat, a = (q : Int) + 1 := ⟨(a - 1).toNat, by omega⟩
                        have hq : q < N := by omega
                        clear hin
                        have i1 : (0 : Int) ≤ (q : Int) := by omega
                        have i2 : (q : Int) < (N : Int) := by omega
                        have ci := cells_get HM.out.isi q (v := .bool (bat mi q)) (by simpa using bls_get (by rw [HA.out.li]; exact hq))
                        rcases Classical.em (q + 1 ∈ row) with hm | hm
                        · rw [(HA.out.ins q hq).2 hm] at ci
                          have fi := cells_free HM.out.isi q
                          have HMM := Lib.hid hm
                          clear hm
                          go_wp2_with fail
                          refine (push_no _ _ B S P v sc row pl HM.out.heap (q + 1) HMM.out (by omega) _ (by simp)).mono ?_
                          rintro e w2 ⟨rfl, rfl⟩
                          go_wp2
                          go_meet
                          exact ⟨v, sc, row, pl, _, ms, HM.out.setI q true, HA.out.push_old hq HMM.out⟩
                        · have hbf : bat mi q = false := by
                            cases hb : bat mi q with
                            | false => rfl
                            | true => exact absurd ((HA.out.ins q hq).1 hb) hm
                          have HBF := Lib.hid hbf
                          have HMM := Lib.hid hm
                          clear hm ci hbf
                          go_wp2_with fail
                          refine (push_yes _ _ B S P v sc row pl HM.out.heap HA.out.pos (q + 1) HMM.out (by omega) (by rw [HA.out.lc]; omega) _ (by simp) HM.out.bel.size).mono ?_
                          rintro e w2 ⟨rfl, v2, row2, pl2, h2, p2, o2, t2⟩
                          have hF : ∀ i, (i = B ∨ i = P ∨ v.ownBlock = some i) → i = B ∨ i = S ∨ i = P ∨ v.ownBlock = some i := fun i h => by rcases h with h | h | h; exact .inl h; exact .inr (.inr (.inl h)); exact .inr (.inr (.inr h))
                          have HM2 := Lib.hid (HM.out.call h2 t2 hF)
                          have HX2 := Lib.hid (HM.out.box HX.out t2 hF)
                          have bx1 := cells_get HX2.out 1 (v := .int .i64 ((q : Int) + 1)) rfl
                          have ci := cells_get HM2.out.isi q (v := .bool (bat mi q)) (by simpa using bls_get (by rw [HA.out.li]; exact hq))
                          rw [HBF.out] at ci
                          have fi := cells_free HM2.out.isi q
                          have HP2 := Lib.hid p2
                          clear h2 p2 o2 t2 hF
                          go_wp2
                          go_meet
                          exact ⟨v2, sc, row2, pl2, _, ms, HM2.out.setI q true, HA.out.push hq HP2.out⟩
                      · rw [decide_eq_false hin]
                        have hout : a < 1 ∨ (sc.length : Int) ≤ a := by rw [HA.out.lc]; omega
                        have HO := Lib.hid hout
                        clear hin hout
                        go_wp2_with fail
                        refine (push_out _ _ B S P v sc row pl HM.out.heap.1 _ HO.out).mono ?_
                        rintro e w2 ⟨rfl, rfl⟩
                        go_wp2
                        go_meet
                        exact ⟨v, sc, row, pl, mi, ms, HM.out, HA.out⟩
                  as_aux_lemma =>
                    go_wp2_with fail
                    refine (first_is _ IB SB N mi ms HM.out.isi HM.out.iss HA.out.li HA.out.ls (by omega)).mono ?_
                    rintro e w2 ⟨r, rfl, hf, m, rfl⟩
                    have HM2 := Lib.hid (HM.out.below Below.drawn (w' := wb.drewN m))
                    have HF := Lib.hid hf
                    clear hf
                    by_cases hr0 : r = 0
                    · have hrow : row = [] := HA.out.first_none HM.out.heap.2.valid HF.out hr0
                      subst hrow
                      subst hr0
                      go_wp2_with fail
                      refine (pop_none _ _ B S P v sc pl HM2.out.heap.1).mono ?_
                      rintro e w3 ⟨rfl, rfl⟩
                      go_wp2
                      go_meet
                      exact ⟨v, sc, [], pl, mi, ms, HM2.out, HA.out⟩
                    · obtain ⟨h1, hrN⟩ := HA.out.first_pos HF.out hr0
                      go_wp2_with fail
                      refine (heap_pop _ _ B S P v sc row pl HM2.out.heap HA.out.pos h1).mono ?_
                      rintro e w3 ⟨a', rfl, ha, hmin, v3, row3, pl3, h3, p3, o3, t3⟩
                      have har : a' = r := HA.out.first_some HM.out.heap.2.valid HF.out ha hmin
                      have hF : ∀ i, (i = B ∨ i = P ∨ v.ownBlock = some i) → i = B ∨ i = S ∨ i = P ∨ v.ownBlock = some i := fun i h => by rcases h with h | h | h; exact .inl h; exact .inr (.inr (.inl h)); exact .inr (.inr (.inr h))
                      have HM3 := Lib.hid (HM2.out.call h3 t3 hF)
                      subst har
                      obtain ⟨q, rfl⟩ : ∃ q, a' = q + 1 := ⟨a' - 1, by omega⟩
                      have hq : q < N := by omega
                      have HP3 := Lib.hid p3
                      clear ha hmin h3 p3 o3 t3 hF hr0
                      have fi := cells_free HM3.out.isi q
                      have ci := cells_get HM3.out.isi q (v := .bool (bat mi q)) (by simpa using bls_get (by rw [HA.out.li]; exact hq))
                      have j1 : (0 : Int) ≤ (q : Int) := by omega
                      have j2 : (q : Int) < (N : Int) := by omega
                      have j3 : (0 : Int) < (q : Int) + 1 := by omega
                      go_wp2
                      go_meet
                      exact ⟨v3, sc, row3, pl3, _, ms, HM3.out.setI q false, HA.out.pop HM.out.heap.2.valid.2 hq HP3.out⟩
                case rest =>
                  as_aux_lemma =>
                    clear HM HA HX
                    obtain ⟨v, sc, row, pl, mi, ms, hM, hA⟩ := hcut
                    have HM := Lib.hid hM
                    have HA := Lib.hid hA
                    clear hM hA
                    go_wp2
                    go_loopw [164, 17] (fun t u wx => ∃ i : Nat, t = .int .i64 (i : Int) ∧ u = .int .i64 (cnt mi i : Nat) ∧ i ≤ N ∧ Below wc.heap.size wc wx) (fun t _ _ => N - (intOf t).toNat)
                    case atStart => exact ⟨0, rfl, rfl, by omega, Below.refl _ _⟩
                    case round =>
                      obtain ⟨i, rfl, rfl, hi, hbq⟩ := hrel
                      have HMm := Lib.hid (HM.out.below hbq)
                      have HBQ := Lib.hid hbq
                      clear hbq
                      by_cases hil : i < N
                      · obtain ⟨bi, hbi⟩ : ∃ x, bat mi i = x := ⟨_, rfl⟩
                        obtain ⟨si, hsi⟩ : ∃ x, at' ms i = x := ⟨_, rfl⟩
                        have ci := cells_get HMm.out.isi i (v := .bool bi) (by have := bls_get (l := mi) (p := i) (by rw [HA.out.li]; exact hil); rw [hbi] at this; simpa using this)
                        have sci := cells_get HMm.out.iss i (v := .int .u64 (si : Nat)) (by have := u64s_get (at_get (show i < ms.length by rw [HA.out.ls]; exact hil)); rw [hsi] at this; simpa using this)
                        have hcs := cnt_succ mi i
                        rw [hbi] at hcs
                        have hcl := cnt_le mi i
                        obtain ⟨cn, hcn⟩ : ∃ x, cnt mi i = x := ⟨_, rfl⟩
                        rw [hcn] at hcs hcl ⊢
                        have HCS := Lib.hid hcs
                        have HBI := Lib.hid hbi
                        have HSI := Lib.hid hsi
                        have j1 : (0 : Int) ≤ (i : Int) := by omega
                        have j2 : (i : Int) < (N : Int) := by omega
                        clear hcs hbi hsi hcn
                        cases bi with
                        | true =>
                          have K1 := Lib.hid (fun (nq : Nat) (x : Int) (hx : x = (i : Int) + 1) => quiet_eq (has_at (HMm.out.heap.below (Below.drawn (m := nq))) HA.out hil x hx _ HBI.out))
                          have K2 := Lib.hid (fun (nq : Nat) (x : Int) (hx : x = (i : Int) + 1) => quiet_eq (score_at (HMm.out.heap.below (Below.drawn (m := nq))) HA.out hil x hx _ HSI.out))
                          go_wp2_with fail
                          have wi : IntKind.i64.wrap ((i : Int) + 1) = (i : Int) + 1 := IntWalk.i64_in _ (by omega)
                          go_quiet (first | (go_at_call 14; exact K1.out _ _ rfl) | (go_at_call 15; exact K2.out _ _ rfl))
                          clear wi
                          go_wp2
                          go_roundw
                          case rel => exact ⟨i + 1, by first | rfl | go_num, by rw [HCS.out]; first | rfl | go_num | simp, by omega, HBQ.out.trans (Below.drawn.mono HBQ.out.size)⟩
                          case measure => simp [intOf]; omega
                        | false =>
                          have K1 := Lib.hid (fun (nq : Nat) (x : Int) (hx : x = (i : Int) + 1) => quiet_eq (has_at (HMm.out.heap.below (Below.drawn (m := nq))) HA.out hil x hx _ HBI.out))
                          have K2 := Lib.hid (fun (nq : Nat) (x : Int) (hx : x = (i : Int) + 1) => quiet_eq (score_at (HMm.out.heap.below (Below.drawn (m := nq))) HA.out hil x hx _ HSI.out))
                          go_wp2_with fail
                          have wi : IntKind.i64.wrap ((i : Int) + 1) = (i : Int) + 1 := IntWalk.i64_in _ (by omega)
                          go_quiet (first | (go_at_call 14; exact K1.out _ _ rfl) | (go_at_call 15; exact K2.out _ _ rfl))
                          clear wi
                          go_wp2
                          go_roundw
                          case rel => exact ⟨i + 1, by first | rfl | go_num, by rw [HCS.out]; first | rfl | go_num | simp, by omega, HBQ.out.trans (Below.drawn.mono HBQ.out.size)⟩
                          case measure => simp [intOf]; omega
                      · have hiN : N = i := by omega
                        subst hiN
                        have hcount := HA.out.count HM.out.heap.2.valid
                        have hcl := cnt_le mi N
                        obtain ⟨cn, hcn⟩ : ∃ x, cnt mi N = x := ⟨_, rfl⟩
                        rw [hcn] at hcount hcl ⊢
                        have HC := Lib.hid hcount
                        clear hcn hcount hil hi
                        go_wp2_with fail
                        refine (len_is _ _ B S P v sc row pl HMm.out.heap.1).mono ?_
                        rintro e w2 ⟨rfl, rfl⟩
                        rw [HC.out]
                        go_wp2_with fail
                        refine (has_no _ _ B S P v sc row pl HMm.out.heap.1 _ (.inl (by omega))).mono ?_
                        rintro e w2 ⟨rfl, rfl⟩
                        go_wp2_with fail
                        refine (has_no _ _ B S P v sc row pl HMm.out.heap.1 _ (.inr (by rw [HA.out.lc]; omega))).mono ?_
                        rintro e w2 ⟨rfl, rfl⟩
                        go_wp2_with fail
                        refine (score_out _ _ B S P v sc row pl HMm.out.heap.1 _ (.inl (by omega))).mono ?_
                        rintro e w2 ⟨rfl, rfl⟩
                        go_wp2
                        go_roundg (gk - 1)
                        case measure => omega
                        case rel => exact ⟨k + 1, v, sc, row, pl, mi, ms, by first | rfl | go_num, by omega, HMm.out, HA.out⟩
            · have hbel := HM.out.bel
              have HBL := Lib.hid hbel
              clear hbel HM HA
              go_wp2_with fail
              refine (fixed_any _).mono ?_
              rintro e w2 ⟨rfl, hb2⟩
              have HB2 := Lib.hid hb2
              clear hb2
              go_wp2
              go_ret
              exact ⟨rfl, HBL.out.trans (HB2.out.mono HBL.out.size)⟩

end Go.Proofs.Ytnapkgnbkkilgaa.Hp
