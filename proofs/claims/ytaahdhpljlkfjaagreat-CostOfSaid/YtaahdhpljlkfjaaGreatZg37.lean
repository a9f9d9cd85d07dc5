/- What a graph costs, as the document has it. -/
import Derived.Test.YtaahdhpljlkfjaaGreatZg34
import Derived.Test.YtaahdhpljlkfjaaGreatZg35
import Derived.Test.YtaahdhpljlkfjaaGreatZg36
import Derived.Lib.MinMax
import Derived.IntWalk
import Derived.Deep.CutRange
import Derived.Deep.CutBlock
namespace Go.Proofs.YtaahdhpljlkfjaaGreat.Rc
open Go.RowKit

set_option maxRecDepth 100000 in
set_option maxHeartbeats 6400000 in
theorem refOf_is (w : World) (v1 v2 vq vg : Value) (x : Rec) (q : List Root) (g : List Node) (h : IsRec w v1 v2 x) (hq : RowD rootK w vq q) (hg : RowD nodeK w vg g) (ht : Tame x g) :
    Calls Tryz.prog 11 #[.agg #[v1, v2], .agg #[vq], .agg #[vg]] w (GivesC (costL x q g) w) := by
  obtain ⟨A1, L1, c1, A2, L2, c2, rfl, rfl, hL1, hL2, hc1, hm1, hc2, hm2⟩ := rec_box h
  obtain ⟨A3, L3, c3, rfl⟩ := hq.sl
  obtain ⟨A4, L4, c4, rfl⟩ := hg.sl
  have HX0 := Lib.hid (((Bxs.three w #[.slice A1 L1 c1, .slice A2 L2 c2] 25 #[.slice A3 L3 c3] 28 #[.slice A4 L4 c4] 31).push (by simp) #[.int .i64 0, .int .i64 0, .int .i64 0, .int .i64 0, .int .i64 0, .int .i64 0] 38).push (by simp) #[.int .i64 0, .int .i64 0, .int .i64 0, .int .i64 0, .int .i64 0, .int .i64 L4] 38)
  have HR := Lib.hid h
  have HQ := Lib.hid hq
  have HG := Lib.hid hg
  have HL1 := Lib.hid hL1
  have HL4 := Lib.hid hg.len
  have hcg := hg.cap
  have HTM := Lib.hid ht
  have hl30 : L4 ≤ 30 := by rw [hg.len]; exact ht.len
  have HLX := Lib.hid (Nat.le_trans ht.small.pkgs (show 30 ≤ 1000 by omega))
  clear h hL1 hL2 hq hg ht
  go_enter Tryz.func11, Tryz.ntmps11
  go_wp2
  simp only [Nat.add_assoc, Nat.reduceAdd]
  go_loopw [23] (fun j wr => ∃ (i : Nat) (a0 a1 a2 a3 a4 : Int), i ≤ L4 ∧ j = .int .i64 i ∧ Hid (Sums x q g (g.take i) a0 a1 a2 a3 a4) ∧ Hid (Bxs w wr [(#[.slice A1 L1 c1, .slice A2 L2 c2], 25), (#[.slice A3 L3 c3], 28), (#[.slice A4 L4 c4], 31), (#[.int .i64 0, .int .i64 0, .int .i64 0, .int .i64 0, .int .i64 0, .int .i64 0], 38), (#[.int .i64 a0, .int .i64 a1, .int .i64 a2, .int .i64 a3, .int .i64 a4, .int .i64 L4], 38)])) (fun j _ => L4 - (RowKit.intOf j).toNat)
  case atStart => exact ⟨0, 0, 0, 0, 0, 0, Nat.zero_le _, rfl, Lib.hid (Sums.start x q g), HX0⟩
  case round =>
    clear HX0
    obtain ⟨i, a0, a1, a2, a3, a4, hi, rfl, HS, HX⟩ := hrel
    obtain ⟨ha0, ha1, ha2, hb3, ha4⟩ := HS.out.le HTM.out
    by_cases hlt : i < L4
    · obtain ⟨bb, off, u1, u2, rfl, hbb, hn, p0, p1, p2, p3⟩ := node_at HG.out hlt
      have hil : i < g.length := by rw [← HL4.out]; exact hlt
      have HSK := Lib.hid (fun h => HS.out.skip hil h)
      have HMORE := Lib.hid (fun (n : Node) (hn : nth g i = n) (m : Nat) (hz : findR x n.name = m) (o r : Bool) (u v : Int) ho hr hu hv => HS.out.more (m := m) (u := u) (v := v) (o := o) (r := r) hil hn hz ho hr hu hv)
      have hnmem := nth_mem hil
      obtain ⟨n, hnn⟩ : ∃ n, nth g i = n := ⟨_, rfl⟩
      rw [hnn] at hn p0 p1 HSK hnmem
      have HNN := Lib.hid hnn
      have HNM := Lib.hid hnmem
      obtain ⟨A5, L5, c5, rfl⟩ := hn.sets.sl
      obtain ⟨A6, L6, c6, rfl⟩ := hn.needs.sl
      have HSETS := Lib.hid hn.sets
      have p0 := (HX.out.bel.cell (p := ⟨bb, off + i * 4, none⟩) hbb).trans p0
      have p1 := (HX.out.bel.cell (p := ⟨bb, off + i * 4 + 1, none⟩) hbb).trans p1
      have p2 := (HX.out.bel.cell (p := ⟨bb, off + i * 4 + 2, none⟩) hbb).trans p2
      have p3 := (HX.out.bel.cell (p := ⟨bb, off + i * 4 + 3, none⟩) hbb).trans p3
      have x2 := HX.out.get 2 0 (v := .slice (some ⟨bb, off, none⟩) L4 c4) rfl rfl
      have x0 := cell_alloc_l (.cells #[.string n.name, .string n.ver, .slice A5 L5 c5, .slice A6 L6 c6] 63) (HX.out.get 0 0 (v := .slice A1 L1 c1) rfl rfl)
      have x1 := cell_alloc_l (.cells #[.string n.name, .string n.ver, .slice A5 L5 c5, .slice A6 L6 c6] 63) (HX.out.get 0 1 (v := .slice A2 L2 c2) rfl rfl)
      rw [Nat.add_zero] at x0 x1
      have g0 : (0 : Int) ≤ (i : Int) := by omega
      have g1 : (i : Int) < (L4 : Int) := by omega
      have hbx := heap_alloc_new wr (.cells #[.string n.name, .string n.ver, .slice A5 L5 c5, .slice A6 L6 c6] 63)
      have hbl := below_alloc' wr (.cells #[.string n.name, .string n.ver, .slice A5 L5 c5, .slice A6 L6 c6] 63)
      have HB9 := Lib.hid (show w.heap.size + 4 < wr.heap.size from lt_of_heap (HX.out.blk 4 _ _ rfl))
      generalize hw1 : wr.alloc (.cells #[.string n.name, .string n.ver, .slice A5 L5 c5, .slice A6 L6 c6] 63) = w1 at hbx hbl
      have HW1 := Lib.hid hw1
      obtain ⟨b9, hb9⟩ : ∃ b9, wr.heap.size = b9 := ⟨_, rfl⟩
      have HE9 := Lib.hid hb9
      have HX1 := Lib.hid (HX.out.step hbl)
      have HN1 := Lib.hid (show w1.heap[b9]? = some (.cells #[.string n.name, .string n.ver, .slice A5 L5 c5, .slice A6 L6 c6] 63 (0, 0)) by rw [← hb9]; exact hbx)
      have HNE9 := Lib.hid (show b9 ≠ w.heap.size + 4 by have := HB9.out; omega)
      obtain ⟨z, hz⟩ : ∃ z, findR x n.name = z := ⟨_, rfl⟩
      have HZ := Lib.hid hz
      clear hn hnn hil hw1 hb9 hbx hbl hz hnmem
      go_wp2_with fail
      rw [HW1.out, HE9.out]
      refine (refFind_is _ _ _ x n.name (HR.out.below HX1.out.bel (Nat.le_refl _)) z HZ.out).mono ?_
      rintro e w2 ⟨rfl, hb2⟩
      have HX2 := Lib.hid (HX1.out.step hb2)
      have HN2 := Lib.hid (heap_below HN1.out hb2)
      clear hb2 p0 p1 p2 p3 x0 x1 x2 HX HX1 HN1
      by_cases hz0 : z < 0
      · have HV := Lib.hid (HSK.out (by rw [HZ.out]; exact hz0))
        go_wp2
        go_roundw
        case rel => exact ⟨i + 1, a0, a1, a2, a3, a4, by omega, by go_num, HV, HX2⟩
        case measure => simp [RowKit.intOf]; omega
      · obtain ⟨m, rfl⟩ : ∃ m : Nat, z = m := ⟨z.toNat, by omega⟩
        have hml := find_lt HZ.out
        have hmm1 : m < L1 := by rw [HL1.out]; exact hml
        obtain ⟨b1, o1, t1, t2, t3, t4, t5, t6, rfl, hb1, hpk, e0, e1, e2, e3, e4, e5, e6, e7⟩ := pkg_at HR.out.pkgs hmm1
        have HSUMS := Lib.hid (fun (o r : Bool) (u v : Int) ho hr hu hv => HMORE.out n HNN.out m HZ.out o r u v ho hr hu hv)
        have HPKM := Lib.hid (nth_mem hml)
        obtain ⟨pk, hpke⟩ : ∃ pk, nth x.pkgs m = pk := ⟨_, rfl⟩
        rw [hpke] at hpk e0 e1 HSUMS HPKM
        obtain ⟨⟨B1, M1, d1, rfl⟩, ⟨B2, M2, d2, rfl⟩, ⟨B3, M3, d3, rfl⟩, ⟨B4, M4, d4, rfl⟩, ⟨B5, M5, d5, rfl⟩, ⟨B6, M6, d6, rfl⟩⟩ := hpk.sls
        have HPKG := Lib.hid hpk
        have HVARS := Lib.hid hpk.vars
        have HPROV := Lib.hid hpk.prov
        have HPVL := Lib.hid hpk.prov.len
        have HRELS := Lib.hid hpk.rels
        have HRL := Lib.hid hpk.rels.len
        have hcd3 := hpk.prov.cap
        have hcd1 := hpk.rels.cap
        obtain ⟨rk, hrk⟩ : ∃ rk, rankN pk n.ver = rk := ⟨_, rfl⟩
        have HRN := Lib.hid hrk
        have hrb := rank_le (HTM.out.small.each _ HPKM.out).2.1 n.ver
        rw [hrk] at hrb
        obtain ⟨u, hu⟩ : ∃ u, ((Va.unusualB (Va.usualB pk.vars) n.sets : Nat) : Int) = u := ⟨_, rfl⟩
        have HUB := Lib.hid hu
        have hub : 0 ≤ u ∧ u ≤ 50 := by
          have h1 : Va.unusualB (Va.usualB pk.vars) n.sets ≤ n.sets.length := List.countP_le_length
          have h2 := HTM.out.sets n HNM.out
          omega
        have e0 := (HX2.out.bel.cell (p := ⟨b1, o1 + m * 8, none⟩) hb1).trans e0
        have e1 := (HX2.out.bel.cell (p := ⟨b1, o1 + m * 8 + 1, none⟩) hb1).trans e1
        have e2 := (HX2.out.bel.cell (p := ⟨b1, o1 + m * 8 + 2, none⟩) hb1).trans e2
        have e3 := (HX2.out.bel.cell (p := ⟨b1, o1 + m * 8 + 3, none⟩) hb1).trans e3
        have e4 := (HX2.out.bel.cell (p := ⟨b1, o1 + m * 8 + 4, none⟩) hb1).trans e4
        have e5 := (HX2.out.bel.cell (p := ⟨b1, o1 + m * 8 + 5, none⟩) hb1).trans e5
        have e6 := (HX2.out.bel.cell (p := ⟨b1, o1 + m * 8 + 6, none⟩) hb1).trans e6
        have e7 := (HX2.out.bel.cell (p := ⟨b1, o1 + m * 8 + 7, none⟩) hb1).trans e7
        have x0 := HX2.out.get 0 0 (v := .slice (some ⟨b1, o1, none⟩) L1 c1) rfl rfl
        rw [Nat.add_zero] at x0
        have m0 : (0 : Int) ≤ (m : Int) := by omega
        have m1 : (m : Int) < (L1 : Int) := by omega
        have hbx := heap_alloc_new w2 (.cells #[.string pk.name, .int .i64 pk.line, .slice B1 M1 d1, .slice B2 M2 d2, .slice B3 M3 d3, .slice B4 M4 d4, .slice B5 M5 d5, .slice B6 M6 d6] 51)
        have hbl := below_alloc' w2 (.cells #[.string pk.name, .int .i64 pk.line, .slice B1 M1 d1, .slice B2 M2 d2, .slice B3 M3 d3, .slice B4 M4 d4, .slice B5 M5 d5, .slice B6 M6 d6] 51)
        have HB11 := Lib.hid (show w.heap.size + 4 < w2.heap.size from lt_of_heap (HX2.out.blk 4 _ _ rfl))
        generalize hw3 : w2.alloc (.cells #[.string pk.name, .int .i64 pk.line, .slice B1 M1 d1, .slice B2 M2 d2, .slice B3 M3 d3, .slice B4 M4 d4, .slice B5 M5 d5, .slice B6 M6 d6] 51) = w3 at hbx hbl
        have HW3 := Lib.hid hw3
        obtain ⟨b11, hb11⟩ : ∃ b11, w2.heap.size = b11 := ⟨_, rfl⟩
        have HE11 := Lib.hid hb11
        have HX3 := Lib.hid (HX2.out.step hbl)
        have HN3 := Lib.hid (heap_below HN2.out hbl)
        have HP3 := Lib.hid (show w3.heap[b11]? = some (.cells #[.string pk.name, .int .i64 pk.line, .slice B1 M1 d1, .slice B2 M2 d2, .slice B3 M3 d3, .slice B4 M4 d4, .slice B5 M5 d5, .slice B6 M6 d6] 51 (0, 0)) by rw [← hb11]; exact hbx)
        have HNE11 := Lib.hid (show b11 ≠ w.heap.size + 4 by have := HB11.out; omega)
        obtain ⟨o, ho⟩ : ∃ o, oldB pk n.ver = o := ⟨_, rfl⟩
        have HOB := Lib.hid ho
        clear hpk hpke hml hrk hu hw3 hb11 hbx hbl ho HB11 HB9 HMORE HSK
        obtain ⟨ee, hee⟩ : ∃ ee, a0 + (if o then 1 else 0) = ee := ⟨_, rfl⟩
        have HEE := Lib.hid hee
        have hbee : 0 ≤ ee ∧ ee ≤ 80000 := by subst hee; cases o <;> simp <;> omega
        clear hee
        go_upto_block 2 with fail
        rw [HW3.out, HE11.out]
        clear e0 e1 e2 e3 e4 e5 e6 e7 x0 HX2 HN2
        go_cut [23] from 23 to 138 (fun s23 wx => s23 = .int .i64 (i : Int) ∧ Hid (Bxs w wx [(#[.slice (some ⟨b1, o1, none⟩) L1 c1, .slice A2 L2 c2], 25), (#[.slice A3 L3 c3], 28), (#[.slice (some ⟨bb, off, none⟩) L4 c4], 31), (#[.int .i64 0, .int .i64 0, .int .i64 0, .int .i64 0, .int .i64 0, .int .i64 0], 38), (#[.int .i64 ee, .int .i64 a1, .int .i64 a2, .int .i64 a3, .int .i64 a4, .int .i64 L4], 38)]) ∧ Hid (wx.heap[b9]? = some (.cells #[.string n.name, .string n.ver, .slice A5 L5 c5, .slice A6 L6 c6] 63 (0, 0))) ∧ Hid (wx.heap[b11]? = some (.cells #[.string pk.name, .int .i64 pk.line, .slice B1 M1 d1, .slice B2 M2 d2, .slice B3 M3 d3, .slice B4 M4 d4, .slice B5 M5 d5, .slice B6 M6 d6] 51 (0, 0))))
        case first =>
          go_wp2_with fail
          have HBL := Lib.hid (Below.refl w3.heap.size w3)
          go_loopw [45] (fun j wr => ∃ k : Nat, k ≤ M1 ∧ j = .int .i64 k ∧ Hid ((pk.rels.take k).any (oldR n.ver) = false) ∧ Hid (Below w3.heap.size w3 wr)) (fun j _ => M1 - (RowKit.intOf j).toNat)
          case atStart => exact ⟨0, Nat.zero_le _, rfl, Lib.hid (by simp), HBL⟩
          case round =>
            clear HBL
            obtain ⟨k, hk, rfl, HA, HBL⟩ := hrel
            obtain ⟨wo, hwo⟩ : ∃ wo : World, wo = wr := ⟨_, rfl⟩
            subst hwo
            have HXT := Lib.hid (HX3.out.step HBL.out)
            have HNT := Lib.hid (heap_below HN3.out HBL.out)
            have HPT := Lib.hid (heap_below HP3.out HBL.out)
            have HBLK := HBL
            clear HX3 HN3 HP3 HBL
            by_cases hlt2 : k < M1
            · obtain ⟨b2, o2, rfl, hb2', -, r0, r1⟩ := rel_at HRELS.out hlt2
              have hkl : k < pk.rels.length := by rw [← HRL.out]; exact hlt2
              have HAN := Lib.hid (fun h => oldR_snoc (v := n.ver) hkl HA.out h)
              have HAY := Lib.hid (fun h => any_at (p := oldR n.ver) hkl h)
              obtain ⟨⟨rv, ro⟩, hrr⟩ : ∃ r, nth pk.rels k = r := ⟨_, rfl⟩
              rw [hrr] at r0 r1 HAN HAY
              have r0 := (HXT.out.bel.cell (p := ⟨b2, o2 + k * 2, none⟩) hb2').trans r0
              have r1 := (HXT.out.bel.cell (p := ⟨b2, o2 + k * 2 + 1, none⟩) hb2').trans r1
              have pt2 := cells_get HPT.out 2 (v := .slice (some ⟨b2, o2, none⟩) M1 d1) rfl
              have nt1 := cells_get HNT.out 1 (v := .string n.ver) rfl
              have q0 := cell_regrown r0
              have q1 := cell_regrown r1
              have q2 := cell_regrown pt2
              have q3 := cell_regrown nt1
              have k0 : (0 : Int) ≤ (k : Int) := by omega
              have k1 : (k : Int) < (M1 : Int) := by omega
              clear hrr hkl r0 r1 pt2 nt1
              by_cases e : rv = n.ver
              · have f1 : (rv.toList == n.ver.toList) = true := by rw [e]; simp
                have HOR := Lib.hid (show oldR n.ver (rv, ro) = ro by unfold oldR; rw [show eqS rv n.ver = true from f1]; rfl)
                clear e
                go_wp2_with fail
                refine wp_region_quiet_below (by kernel_rfl) (by kernel_rfl) ?_
                repeat (go_big_quiet_step (fail))
                refine wpQuiet_nil ?_
                intro w4 hw'
                have hb4 : Below wo.heap.size wo w4 := by obtain ⟨⟨dq, osq⟩, hw''⟩ := hw'; rw [hw'']; exact below_regrown wo dq osq
                have HXU := Lib.hid (HXT.out.step hb4)
                have HNU := Lib.hid (heap_below HNT.out hb4)
                have HPU := Lib.hid (heap_below HPT.out hb4)
                cases ro with
                | false =>
                  have HV := Lib.hid (HAN.out HOR.out)
                  have HBU := Lib.hid (show Below w3.heap.size w3 w4 from (HBLK.out).trans (hb4.mono HBLK.out.size))
                  clear hw' hb4 q0 q1 q2 q3
                  go_wp2
                  go_roundw
                  case rel => exact ⟨k + 1, by omega, by go_num, HV, HBU⟩
                  case measure => simp [RowKit.intOf]; omega
                | true =>
                  obtain rfl : o = true := by rw [← HOB.out]; exact HAY.out HOR.out
                  have y0 := HXU.out.get 4 0 (v := .int .i64 a0) rfl rfl
                  have y1 := HXU.out.free 4 0 rfl
                  obtain rfl : a0 + 1 = ee := HEE.out
                  clear hw' hb4 q0 q1 q2 q3
                  go_wp2
                  go_meet
                  exact ⟨rfl, Lib.hid (HXU.out.set 4 0 rfl (.int .i64 (a0 + 1))), Lib.hid (heap_set_far HNU.out HNE9.out), Lib.hid (heap_set_far HPU.out HNE11.out)⟩
              · have f1 : (rv.toList == n.ver.toList) = false := by
                  have : Va.eqS rv n.ver ≠ true := fun h => e (Va.eqS_iff.1 h)
                  simpa [Va.eqS] using this
                have f2 : ¬ rv.toList = n.ver.toList := by simpa using f1
                have HV := Lib.hid (HAN.out (show oldR n.ver (rv, ro) = false by unfold oldR; rw [show eqS rv n.ver = false from f1]; rfl))
                clear e
                go_wp2_with fail
                refine wp_region_quiet_below (by kernel_rfl) (by kernel_rfl) ?_
                repeat (go_big_quiet_step (fail))
                refine wpQuiet_nil ?_
                intro w4 hw'
                have hb4 : Below wo.heap.size wo w4 := by obtain ⟨⟨dq, osq⟩, hw''⟩ := hw'; rw [hw'']; exact below_regrown wo dq osq
                have HBU := Lib.hid (show Below w3.heap.size w3 w4 from (HBLK.out).trans (hb4.mono HBLK.out.size))
                clear hw' hb4 q0 q1 q2 q3
                go_wp2
                go_roundw
                case rel => exact ⟨k + 1, by omega, by go_num, HV, HBU⟩
                case measure => simp [RowKit.intOf]; omega
            · obtain rfl : o = false := by rw [← HOB.out]; exact old_no HA.out (by rw [← HRL.out]; omega)
              obtain rfl : a0 = ee := by have := HEE.out; simpa using this
              clear HA HBLK
              go_wp2
              go_meet
              exact ⟨rfl, HXT, HNT, HPT⟩
        case rest =>
          obtain ⟨rfl, HXT, HNT, HPT⟩ := hcut
          clear HX3 HN3 HP3
          have pt0 := cells_get HPT.out 0 (v := .string pk.name) rfl
          have pt1 := cells_get HPT.out 1 (v := .int .i64 pk.line) rfl
          have pt2 := cells_get HPT.out 2 (v := .slice B1 M1 d1) rfl
          have pt3 := cells_get HPT.out 3 (v := .slice B2 M2 d2) rfl
          have pt4 := cells_get HPT.out 4 (v := .slice B3 M3 d3) rfl
          have pt5 := cells_get HPT.out 5 (v := .slice B4 M4 d4) rfl
          have pt6 := cells_get HPT.out 6 (v := .slice B5 M5 d5) rfl
          have pt7 := cells_get HPT.out 7 (v := .slice B6 M6 d6) rfl
          have nt1 := cells_get HNT.out 1 (v := .string n.ver) rfl
          go_wp2_with fail
          refine (refRank_is _ _ _ _ _ _ _ pk n.ver (HPKG.out.below HXT.out.bel (Nat.le_refl _)) _ rfl).mono ?_
          rintro e wu ⟨rfl, hbu⟩
          have HXU := Lib.hid (HXT.out.step hbu)
          have HNU := Lib.hid (heap_below HNT.out hbu)
          have HPU := Lib.hid (heap_below HPT.out hbu)
          have hmx : max (0 : Int) (rankI pk n.ver) = rk := HRN.out
          have x0 := HXU.out.get 0 0 (v := .slice (some ⟨b1, o1, none⟩) L1 c1) rfl rfl
          have x1 := HXU.out.get 0 1 (v := .slice A2 L2 c2) rfl rfl
          have x2 := HXU.out.get 1 0 (v := .slice A3 L3 c3) rfl rfl
          rw [Nat.add_zero] at x0 x1
          clear hbu pt0 pt1 pt2 pt3 pt4 pt5 pt6 pt7 nt1 HXT HNT HPT
          go_wp2_with fail
          clear hmx
          refine (refRooted_is _ _ _ _ x q _ (HR.out.below HXU.out.bel (Nat.le_refl _)) (HQ.out.below HXU.out.bel (Nat.le_refl _)) HLX.out _ rfl).mono ?_
          rintro e ws ⟨rfl, hbu⟩
          have HXS := Lib.hid (HXU.out.step hbu)
          have HNS := Lib.hid (heap_below HNU.out hbu)
          have HPS := Lib.hid (heap_below HPU.out hbu)
          clear hbu x0 x1 x2 HXU HNU HPU
          have HXU := HXS
          have HNU := HNS
          have HPU := HPS
          clear HXS HNS HPS
          obtain ⟨wu, hwu⟩ : ∃ wu : World, wu = ws := ⟨_, rfl⟩
          subst hwu
          obtain ⟨rb, hrb⟩ : ∃ rb, rootedB x q (m : Int) = rb := ⟨_, rfl⟩
          have HRB := Lib.hid hrb
          rw [hrb]
          clear hrb
          obtain ⟨ea, hea⟩ : ∃ ea, a1 + (if rb then rk else 0) = ea := ⟨_, rfl⟩
          obtain ⟨eb, heb⟩ : ∃ eb, a4 + (if rb then 0 else rk) = eb := ⟨_, rfl⟩
          have hbea : 0 ≤ ea ∧ ea ≤ 80000 := by subst hea; cases rb <;> simp <;> omega
          have hbeb : 0 ≤ eb ∧ eb ≤ 80000 := by subst heb; cases rb <;> simp <;> omega
          have HEA := Lib.hid hea
          have HEB := Lib.hid heb
          have HSUM := Lib.hid (show Sums x q g (g.take (i + 1)) ee ea (a2 + u) (a3 + sumV x (goodV x q g) pk pk.prov.length) eb by
            have := HSUMS.out o rb u _ HOB.out HRB.out HUB.out rfl
            rw [HRN.out, HEA.out, HEB.out, HEE.out] at this
            exact this)
          clear hea heb
          go_upto_if 78 with fail
          go_cut [13, 23] from 23 to 138 (fun s13 s23 wx => s13 = .int .i64 rk ∧ s23 = .int .i64 (i : Int) ∧ Hid (Bxs w wx [(#[.slice (some ⟨b1, o1, none⟩) L1 c1, .slice A2 L2 c2], 25), (#[.slice A3 L3 c3], 28), (#[.slice (some ⟨bb, off, none⟩) L4 c4], 31), (#[.int .i64 0, .int .i64 0, .int .i64 0, .int .i64 0, .int .i64 0, .int .i64 0], 38), (#[.int .i64 ee, .int .i64 ea, .int .i64 a2, .int .i64 a3, .int .i64 eb, .int .i64 L4], 38)]) ∧ Hid (wx.heap[b9]? = some (.cells #[.string n.name, .string n.ver, .slice A5 L5 c5, .slice A6 L6 c6] 63 (0, 0))) ∧ Hid (wx.heap[b11]? = some (.cells #[.string pk.name, .int .i64 pk.line, .slice B1 M1 d1, .slice B2 M2 d2, .slice B3 M3 d3, .slice B4 M4 d4, .slice B5 M5 d5, .slice B6 M6 d6] 51 (0, 0))))
          case first =>
            cases rb with
            | true =>
              obtain rfl : a1 + rk = ea := HEA.out
              obtain rfl : a4 = eb := by have := HEB.out; simpa using this
              have HWR1 : IntKind.i64.wrap (a1 + rk) = a1 + rk := IntWalk.i64_in _ (by omega)
              have y0 := HXU.out.get 4 1 (v := .int .i64 a1) rfl rfl
              have y1 := HXU.out.free 4 1 rfl
              go_wp2
              go_meet
              exact ⟨rfl, rfl, Lib.hid (HXU.out.set 4 1 rfl (.int .i64 (a1 + rk))), Lib.hid (heap_set_far HNU.out HNE9.out), Lib.hid (heap_set_far HPU.out HNE11.out)⟩
            | false =>
              obtain rfl : a1 = ea := by have := HEA.out; simpa using this
              obtain rfl : a4 + rk = eb := HEB.out
              have HWR1 : IntKind.i64.wrap (a4 + rk) = a4 + rk := IntWalk.i64_in _ (by omega)
              have y0 := HXU.out.get 4 4 (v := .int .i64 a4) rfl rfl
              have y1 := HXU.out.free 4 4 rfl
              go_wp2
              go_meet
              exact ⟨rfl, rfl, Lib.hid (HXU.out.set 4 4 rfl (.int .i64 (a4 + rk))), Lib.hid (heap_set_far HNU.out HNE9.out), Lib.hid (heap_set_far HPU.out HNE11.out)⟩
          case rest =>
            obtain ⟨rfl, rfl, HXT, HNT, HPT⟩ := hcut
            obtain ⟨wt, hwt⟩ : ∃ wt : World, wt = wc := ⟨_, rfl⟩
            subst hwt
            clear HXU HNU HPU
            have y0 := HXT.out.get 4 2 (v := .int .i64 a2) rfl rfl
            have pv := cells_get HPT.out 3 (v := .slice B2 M2 d2) rfl
            have nv := cells_get HNT.out 2 (v := .slice A5 L5 c5) rfl
            have q0 := cell_regrown y0
            have q1 := cell_regrown pv
            have q2 := cell_regrown nv
            have CU := Lib.hid (show ∀ d os, Calls Tryz.prog 29 #[.slice B2 M2 d2, .slice A5 L5 c5] (Go.Sort.grow (redrawn wt d) os) fun e w'' => e = .returned (.int .i64 u) ∧ ∃ p : Regrown, w'' = Go.Sort.grow (redrawn wt p.d) p.os from
              fun d os => Calls.regrown_of (by
                have := Va.refUnusual_any (Go.Sort.grow (redrawn wt d) os) (.slice B2 M2 d2) (.slice A5 L5 c5) pk.vars n.sets (to_vars ((HVARS.out.below HXT.out.bel (Nat.le_refl _)).below (below_regrown wt d os) (Nat.le_refl _))) (to_sets ((HSETS.out.below HXT.out.bel (Nat.le_refl _)).below (below_regrown wt d os) (Nat.le_refl _)))
                rw [HUB.out] at this
                exact this))
            have hw : IntKind.i64.wrap (a2 + u) = a2 + u := IntWalk.i64_in _ (by omega)
            clear y0 pv nv
            go_wp2_with fail
            refine Co.quiet_then2 rfl rfl rfl (by kernel_rfl) (by kernel_rfl) (by kernel_rfl) ?_
            dsimp only [List.dropLast, List.cons_append, List.nil_append, List.getLast]
            repeat (go_big_quiet_step ((go_at_call 29; with_reducible exact CU.out _ _)))
            refine wpQuiet_nil ?_
            intro w8 hw'
            have hb8 : Below wt.heap.size wt w8 := by obtain ⟨⟨dq, osq⟩, hw''⟩ := hw'; rw [hw'']; exact below_regrown wt dq osq
            have HXU := Lib.hid (HXT.out.step hb8)
            have HNV := Lib.hid (heap_set_far (heap_below HNT.out hb8) HNE9.out (j := 2) (v := .int .i64 (a2 + u)))
            have HPV := Lib.hid (heap_set_far (heap_below HPT.out hb8) HNE11.out (j := 2) (v := .int .i64 (a2 + u)))
            have z0 := HXU.out.get 4 2 (v := .int .i64 a2) rfl rfl
            have z1 := HXU.out.free 4 2 rfl
            have HXV := Lib.hid (show Bxs w _ [(#[.slice (some ⟨b1, o1, none⟩) L1 c1, .slice A2 L2 c2], 25), (#[.slice A3 L3 c3], 28), (#[.slice (some ⟨bb, off, none⟩) L4 c4], 31), (#[.int .i64 0, .int .i64 0, .int .i64 0, .int .i64 0, .int .i64 0, .int .i64 0], 38), (#[.int .i64 ee, .int .i64 ea, .int .i64 (a2 + u), .int .i64 a3, .int .i64 eb, .int .i64 L4], 38)] from HXU.out.set 4 2 rfl (.int .i64 (a2 + u)))
            clear hw' hb8 q0 q1 q2 CU hw HXU HXT HNT HPT
            go_simp
            clear z0 z1
            generalize w8.setCell ⟨w.heap.size + 4, 2, none⟩ (.int .i64 (a2 + u)) = wv at HXV HNV HPV ⊢

            have HB0 := Lib.hid (show ∃ y : Int, (0 ≤ y ∧ y ≤ 100000) ∧ sumV x (goodV x q g) pk 0 + a3 = y ∧ Bxs w wv [(#[.slice (some ⟨b1, o1, none⟩) L1 c1, .slice A2 L2 c2], 25), (#[.slice A3 L3 c3], 28), (#[.slice (some ⟨bb, off, none⟩) L4 c4], 31), (#[.int .i64 0, .int .i64 0, .int .i64 0, .int .i64 0, .int .i64 0, .int .i64 0], 38), (#[.int .i64 ee, .int .i64 ea, .int .i64 (a2 + u), .int .i64 y, .int .i64 eb, .int .i64 L4], 38)] from ⟨a3, ⟨hb3.1, by omega⟩, by simp [sumV], HXV.out⟩)
            have pv := cells_get HPV.out 4 (v := .slice B3 M3 d3) rfl
            go_wp2
            clear pv
            go_loopw [101] (fun j wr => ∃ k : Nat, k ≤ M3 ∧ j = .int .i64 k ∧ Hid (∃ y : Int, (0 ≤ y ∧ y ≤ 100000) ∧ sumV x (goodV x q g) pk k + a3 = y ∧ Bxs w wr [(#[.slice (some ⟨b1, o1, none⟩) L1 c1, .slice A2 L2 c2], 25), (#[.slice A3 L3 c3], 28), (#[.slice (some ⟨bb, off, none⟩) L4 c4], 31), (#[.int .i64 0, .int .i64 0, .int .i64 0, .int .i64 0, .int .i64 0, .int .i64 0], 38), (#[.int .i64 ee, .int .i64 ea, .int .i64 (a2 + u), .int .i64 y, .int .i64 eb, .int .i64 L4], 38)]) ∧ Hid (wr.heap[b9]? = some (.cells #[.string n.name, .string n.ver, .slice A5 L5 c5, .slice A6 L6 c6] 63 (0, 0))) ∧ Hid (wr.heap[b11]? = some (.cells #[.string pk.name, .int .i64 pk.line, .slice B1 M1 d1, .slice B2 M2 d2, .slice B3 M3 d3, .slice B4 M4 d4, .slice B5 M5 d5, .slice B6 M6 d6] 51 (0, 0)))) (fun j _ => M3 - (RowKit.intOf j).toNat)
            case atStart => exact ⟨0, Nat.zero_le _, rfl, HB0, HNV, HPV⟩
            case round =>
              clear HB0 HNV HPV HXV
              obtain ⟨k, hk, rfl, HE, HNV, HPV⟩ := hrel
              obtain ⟨y, hy, hys, hxv⟩ := HE.out
              have HXV := Lib.hid hxv
              have HYS := Lib.hid hys
              clear hxv hys HE
              by_cases hlt3 : k < M3
              · obtain ⟨b3, o3, rfl, hb3', hvz, w0⟩ := str_at (HPROV.out) hlt3
                have hkl : k < pk.prov.length := by rw [← HPVL.out]; exact hlt3
                have w0 := (HXV.out.bel.cell (p := ⟨b3, o3 + k, none⟩) hb3').trans w0
                obtain ⟨v, hv⟩ : ∃ v, nth pk.prov k = v := ⟨_, rfl⟩
                rw [hv] at w0
                have HV := Lib.hid hv
                have pv := cells_get HPV.out 4 (v := .slice (some ⟨b3, o3, none⟩) M3 d3) rfl
                have x0 := HXV.out.get 0 0 (v := .slice (some ⟨b1, o1, none⟩) L1 c1) rfl rfl
                have x1 := HXV.out.get 0 1 (v := .slice A2 L2 c2) rfl rfl
                rw [Nat.add_zero] at x0 x1
                have k0 : (0 : Int) ≤ (k : Int) := by omega
                have k1 : (k : Int) < (M3 : Int) := by omega
                obtain ⟨p, hp⟩ : ∃ p, virtB x v = p := ⟨_, rfl⟩
                obtain ⟨r2, hr2⟩ : ∃ r, neededB x q g v = r := ⟨_, rfl⟩
                obtain ⟨t, ht⟩ : ∃ t, hasS (pk.prov.take k) v = t := ⟨_, rfl⟩
                have HPB := Lib.hid hp
                have HRB := Lib.hid hr2
                have HTB := Lib.hid ht
                have HGV := Lib.hid (show (goodV x q g (nth pk.prov k) && !hasS (pk.prov.take k) (nth pk.prov k)) = (p && r2 && !t) by rw [hv, ht]; unfold goodV; rw [hp, hr2])
                clear hv hkl hp hr2 ht hb3' hvz
                go_wp2_with fail
                refine (refVirtual_is _ _ _ x v (HR.out.below HXV.out.bel (Nat.le_refl _)) HLX.out p HPB.out).mono ?_
                rintro e w5 ⟨rfl, hb5⟩
                have HXW := Lib.hid (HXV.out.step hb5)
                have HNW := Lib.hid (heap_below HNV.out hb5)
                have HPW := Lib.hid (heap_below HPV.out hb5)
                clear hb5 pv x0 x1 w0 HXV HNV HPV
                cases p with
                | false =>
                  have HY := Lib.hid (show sumV x (goodV x q g) pk (k + 1) + a3 = y by rw [oneV_no rfl (by rw [HGV.out]; rfl)]; exact HYS.out)
                  go_wp2
                  go_roundw
                  case rel => exact ⟨k + 1, by omega, by go_num, Lib.hid ⟨y, hy, HY.out, HXW.out⟩, HNW, HPW⟩
                  case measure => simp [RowKit.intOf]; omega
                | true =>
                  have x0 := HXW.out.get 0 0 (v := .slice (some ⟨b1, o1, none⟩) L1 c1) rfl rfl
                  have x1 := HXW.out.get 0 1 (v := .slice A2 L2 c2) rfl rfl
                  have x2 := HXW.out.get 1 0 (v := .slice A3 L3 c3) rfl rfl
                  have x3 := HXW.out.get 2 0 (v := .slice (some ⟨bb, off, none⟩) L4 c4) rfl rfl
                  rw [Nat.add_zero] at x0 x1
                  go_wp2_with fail
                  refine (refNeeds_is _ _ _ _ _ x q g v (HR.out.below HXW.out.bel (Nat.le_refl _)) (HQ.out.below HXW.out.bel (Nat.le_refl _)) (HG.out.below HXW.out.bel (Nat.le_refl _)) r2 HRB.out).mono ?_
                  rintro e w6 ⟨rfl, hb6⟩
                  have HXV := Lib.hid (HXW.out.step hb6)
                  have HNV := Lib.hid (heap_below HNW.out hb6)
                  have HPV := Lib.hid (heap_below HPW.out hb6)
                  clear hb6 x0 x1 x2 x3 HXW HNW HPW
                  cases r2 with
                  | false =>
                    have HY := Lib.hid (show sumV x (goodV x q g) pk (k + 1) + a3 = y by rw [oneV_no rfl (by rw [HGV.out]; rfl)]; exact HYS.out)
                    go_wp2
                    go_roundw
                    case rel => exact ⟨k + 1, by omega, by go_num, Lib.hid ⟨y, hy, HY.out, HXV.out⟩, HNV, HPV⟩
                    case measure => simp [RowKit.intOf]; omega
                  | true =>
                    have pv := cells_get HPV.out 4 (v := .slice (some ⟨b3, o3, none⟩) M3 d3) rfl
                    have kc : (k : Int) ≤ (d3 : Int) := by have := hcd3; omega
                    go_wp2_with fail
                    refine (refHas_is _ _ (pk.prov.take k) v ((HPROV.out.below HXV.out.bel (Nat.le_refl _)).take (by omega)) t HTB.out).mono ?_
                    rintro e w7 ⟨rfl, rfl⟩
                    clear pv
                    cases t with
                    | true =>
                      have HY := Lib.hid (show sumV x (goodV x q g) pk (k + 1) + a3 = y by rw [oneV_no rfl (by rw [HGV.out]; rfl)]; exact HYS.out)
                      go_wp2
                      go_roundw
                      case rel => exact ⟨k + 1, by omega, by go_num, Lib.hid ⟨y, hy, HY.out, HXV.out⟩, HNV, HPV⟩
                      case measure => simp [RowKit.intOf]; omega
                    | false =>
                      obtain ⟨pu, hu⟩ : ∃ u, prefR x v pk.name = u := ⟨_, rfl⟩
                      have HU := Lib.hid hu
                      have hub := pref_le HTM.out.prefs v pk.name
                      rw [hu] at hub
                      have HY := Lib.hid (show sumV x (goodV x q g) pk (k + 1) + a3 = y + pu by
                        rw [oneV_yes (y := pu) rfl (by rw [HGV.out]; rfl) (by rw [HV.out]; exact HU.out)]
                        have := HYS.out
                        omega)
                      have hyu : y + pu ≤ 100000 := by
                        have := HY.out
                        have := sumV_le' HTM.out (goodV x q g) HPKM.out (k := k + 1) (by rw [← HPVL.out]; omega)
                        omega
                      have y0 := HXV.out.get 4 3 (v := .int .i64 y) rfl rfl
                      have x0 := HXV.out.get 0 0 (v := .slice (some ⟨b1, o1, none⟩) L1 c1) rfl rfl
                      have x1 := HXV.out.get 0 1 (v := .slice A2 L2 c2) rfl rfl
                      rw [Nat.add_zero] at x0 x1
                      have pn := cells_get HPV.out 0 (v := .string pk.name) rfl
                      obtain ⟨wy, hwy⟩ : ∃ wy : World, wy = w6 := ⟨_, rfl⟩
                      subst hwy
                      have q0 := cell_regrown y0
                      have q1 := cell_regrown x0
                      have q2 := cell_regrown x1
                      have q3 := cell_regrown pn
                      have CP := Lib.hid (show ∀ d os, Calls Tryz.prog 33 #[.agg #[.slice (some ⟨b1, o1, none⟩) L1 c1, .slice A2 L2 c2], .string v, .string pk.name] (Go.Sort.grow (redrawn wy d) os) fun e w'' => e = .returned (.int .i64 pu) ∧ ∃ p : Regrown, w'' = Go.Sort.grow (redrawn wy p.d) p.os from
                        fun d os => Calls.regrown_of (refPrefer10_is _ _ _ x v pk.name ((HR.out.below HXV.out.bel (Nat.le_refl _)).below (below_regrown wy d os) (Nat.le_refl _)) pu HU.out))
                      have hw : IntKind.i64.wrap (y + pu) = y + pu := IntWalk.i64_in _ (by omega)
                      have HWR := Lib.hid hw
                      clear hu y0 x0 x1 pn hw
                      go_wp2_with fail
                      refine Co.quiet_then2 rfl rfl rfl (by kernel_rfl) (by kernel_rfl) (by kernel_rfl) ?_
                      dsimp only [List.dropLast, List.cons_append, List.nil_append, List.getLast]
                      have hw := HWR.out
                      repeat (go_big_quiet_step ((go_at_call 33; with_reducible exact CP.out _ _)))
                      refine wpQuiet_nil ?_
                      intro w8 hw'
                      have hb8 : Below wy.heap.size wy w8 := by obtain ⟨⟨dq, osq⟩, hw''⟩ := hw'; rw [hw'']; exact below_regrown wy dq osq
                      have HXW := Lib.hid (HXV.out.step hb8)
                      have HNW := Lib.hid (heap_set_far (heap_below HNV.out hb8) HNE9.out (j := 3) (v := .int .i64 (y + pu)))
                      have HPW := Lib.hid (heap_set_far (heap_below HPV.out hb8) HNE11.out (j := 3) (v := .int .i64 (y + pu)))
                      have z0 := HXW.out.get 4 3 (v := .int .i64 y) rfl rfl
                      have z1 := HXW.out.free 4 3 rfl
                      have HXS := Lib.hid (show Bxs w _ [(#[.slice (some ⟨b1, o1, none⟩) L1 c1, .slice A2 L2 c2], 25), (#[.slice A3 L3 c3], 28), (#[.slice (some ⟨bb, off, none⟩) L4 c4], 31), (#[.int .i64 0, .int .i64 0, .int .i64 0, .int .i64 0, .int .i64 0, .int .i64 0], 38), (#[.int .i64 ee, .int .i64 ea, .int .i64 (a2 + u), .int .i64 (y + pu), .int .i64 eb, .int .i64 L4], 38)] from HXW.out.set 4 3 rfl (.int .i64 (y + pu)))
                      clear hw' hb8 q0 q1 q2 q3 CP
                      go_simp
                      go_wp2
                      go_roundw
                      case rel => exact ⟨k + 1, by omega, by go_num, Lib.hid ⟨y + pu, by omega, HY.out, HXS.out⟩, HNW, HPW⟩
                      case measure => simp [RowKit.intOf]; omega
              · have hkn : k = pk.prov.length := by rw [← HPVL.out]; omega
                have HSM := Lib.hid (show Sums x q g (g.take (i + 1)) ee ea (a2 + u) y eb by
                  have h1 := HSUM.out
                  have h2 : a3 + sumV x (goodV x q g) pk pk.prov.length = y := by have := HYS.out; rw [hkn] at this; omega
                  rw [h2] at h1
                  simpa [HRN.out] using h1)
                go_wp2
                go_roundw
                case rel => first | exact ⟨i + 1, ee, ea, (a2 + u), y, eb, by omega, by go_num, HSM, HXV⟩ | ((repeat apply Exists.intro); exact ⟨⟨i + 1, ee, ea, (a2 + u), y, eb, by omega, by go_num, HSM, HXV⟩, rfl⟩)
                case measure => simp [RowKit.intOf]; omega
    · have hkn : i = g.length := by rw [← HL4.out]; omega
      have HC := Lib.hid (show costV (costL x q g) = .agg #[.int .i64 a0, .int .i64 a1, .int .i64 a2, .int .i64 a3, .int .i64 a4, .int .i64 L4] by
        have h1 := HS.out
        rw [hkn, List.take_length] at h1
        exact h1.cost HL4.out)
      have y0 := HX.out.get 4 0 (v := .int .i64 a0) rfl rfl
      have y1 := HX.out.get 4 1 (v := .int .i64 a1) rfl rfl
      have y2 := HX.out.get 4 2 (v := .int .i64 a2) rfl rfl
      have y3 := HX.out.get 4 3 (v := .int .i64 a3) rfl rfl
      have y4 := HX.out.get 4 4 (v := .int .i64 a4) rfl rfl
      have y5 := HX.out.get 4 5 (v := .int .i64 L4) rfl rfl
      have z0 := HX.out.get 3 0 (v := .int .i64 0) rfl rfl
      have z1 := HX.out.get 3 1 (v := .int .i64 0) rfl rfl
      have z2 := HX.out.get 3 2 (v := .int .i64 0) rfl rfl
      have z3 := HX.out.get 3 3 (v := .int .i64 0) rfl rfl
      have z4 := HX.out.get 3 4 (v := .int .i64 0) rfl rfl
      have z5 := HX.out.get 3 5 (v := .int .i64 0) rfl rfl
      have f0 := HX.out.free 3 0 rfl
      have f1 := HX.out.free 3 1 rfl
      have f2 := HX.out.free 3 2 rfl
      have f3 := HX.out.free 3 3 rfl
      have f4 := HX.out.free 3 4 rfl
      have f5 := HX.out.free 3 5 rfl
      have HBE := Lib.hid HX.out.bel
      clear hkn HS HX
      go_wp2
      refine bodyPost_ret (v := .agg #[.int .i64 a0, .int .i64 a1, .int .i64 a2, .int .i64 a3, .int .i64 a4, .int .i64 L4]) (by simp [results, Tryz.results11, go_sem, World.cell?_setCell_same', z0, z1, z2, z3, z4, z5]) rfl ⟨by rw [HC.out], ?_⟩
      have hle : w.heap.size ≤ w.heap.size + 3 := by omega
      exact (((((HBE.out.setCell hle _).setCell hle _).setCell hle _).setCell hle _).setCell hle _).setCell hle _
end Go.Proofs.YtaahdhpljlkfjaaGreat.Rc
