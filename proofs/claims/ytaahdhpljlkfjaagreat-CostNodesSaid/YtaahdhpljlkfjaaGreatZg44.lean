/- What a graph costs, as the program has it. -/
import Derived.Test.YtaahdhpljlkfjaaGreatZg38
import Derived.Test.YtaahdhpljlkfjaaGreatZg40
import Derived.Test.YtaahdhpljlkfjaaGreatZg43
import Derived.Test.YtaahdhpljlkfjaaGreatZg26
import Derived.Lib.MinMax
import Derived.IntWalk
import Derived.Deep.CutRange
namespace Go.Proofs.YtaahdhpljlkfjaaGreat.Rc
open Go.RowKit

/-- What the closure that asks for a root stands on. -/
structure Rts (w0 w : World) (P : Nat) (A : Option Addr) (L c : Nat) (x : Rec) (q : List Root) : Prop where
  box : w.heap[P]? = some (.cells #[.slice A L c] 86 (0, 0))
  row : OwnK intK 3 w w w0.heap.size (.slice A L c) (allT x q)
theorem Rts.below {w0 w w' : World} {P : Nat} {A : Option Addr} {L c : Nat} {x : Rec} {q : List Root} (h : Rts w0 w P A L c x q) (hb : Below w.heap.size w w') : Rts w0 w' P A L c x q := ⟨heap_below h.box hb, (h.row.below hb).fromI⟩
theorem Rts.set {w0 w : World} {P : Nat} {A : Option Addr} {L c : Nat} {x : Rec} {q : List Root} {B : Nat} {cs : Array Value} (h : Rts w0 w P A L c x q) (hB : w.heap[B]? = some (.cells cs 38 (0, 0))) (j : Nat) (v : Value) : Rts w0 (w.setCell ⟨B, j, none⟩ v) P A L c x q := by
  refine ⟨heap_set_far h.box (fun e => ?_), ((h.row.touch ((Touch.refl w (fun i => i = B)).set B j v rfl) (fun g hg e => ?_)).fromI)⟩
  · have := h.box
    rw [e, hB] at this
    injection this with this
    injection this with _ this
    exact absurd this (by decide)
  · obtain ⟨css, _, hraw⟩ := h.row
    exact own_apart hraw hB (by decide) (by rw [hg, e])
theorem Rts.rows {w0 w : World} {P : Nat} {A : Option Addr} {L c : Nat} {x : Rec} {q : List Root} (h : Rts w0 w P A L c x q) : RowD intK w (.slice A L c) (allT x q) := h.row.row (Below.refl _ _)
theorem Sums.cost2 {x : Rec} {q : List Root} {g : List Node} {a0 a1 a2 a3 a4 y : Int} {L : Nat} (h : Sums x q g g a0 a1 a2 a3 a4) (hL : L = g.length) (ht : sumL (prefT x g) (namesN x q g) = y) : costV (costL x q g) = .agg #[.int .i64 a0, .int .i64 a1, .int .i64 a2, .int .i64 y, .int .i64 a4, .int .i64 L] := by
  have e : a3 = y := by rw [h.s3, ← ht]; exact (pref_swap x q g (onces_nodup _) (fun s => namesN_mem s)).symm
  rw [← e]; exact h.cost hL
theorem namesN_len {x : Rec} (h : RecSmall x) {q : List Root} (hq : q.length ≤ 40) {g : List Node} (hg : g.length ≤ 30) : (namesN x q g).length ≤ 2000 := by
  have h1 := nodesN_len h g (rootsN x q)
  have h2 := rootsN_len x q
  have h3 : (namesN x q g).length ≤ (nodesN x (rootsN x q) g).length := (onces_nodup _).length_le_of_subset fun s hs => onces_mem.1 hs
  omega

set_option maxRecDepth 100000 in
set_option maxHeartbeats 6400000 in
theorem of_is (w : World) (v1 v2 vq vg : Value) (x : Rec) (q : List Root) (g : List Node) (h : IsRec w v1 v2 x) (hq : RowD rootK w vq q) (hg : RowD nodeK w vg g) (ht : Tame x g) (hl : q.length ≤ 40) :
    Calls Tryz.prog 10 #[.agg #[v1, v2], .agg #[vq], .agg #[vg]] w (GivesC (costL x q g) w) := by
  obtain ⟨A1, L1, c1, A2, L2, c2, rfl, rfl, hL1, hL2, hc1, hm1, hc2, hm2⟩ := rec_box h
  obtain ⟨A3, L3, c3, rfl⟩ := hq.sl
  obtain ⟨A4, L4, c4, rfl⟩ := hg.sl
  have HX0 := Lib.hid (((Bxs.three w #[.slice A1 L1 c1, .slice A2 L2 c2] 25 #[.slice A3 L3 c3] 28 #[.slice A4 L4 c4] 31).push (by simp) #[.int .i64 0, .int .i64 0, .int .i64 0, .int .i64 0, .int .i64 0, .int .i64 0] 38).push (by simp) #[.int .i64 0, .int .i64 0, .int .i64 0, .int .i64 0, .int .i64 0, .int .i64 0] 38)
  have HR := Lib.hid h
  have HQ := Lib.hid hq
  have HG := Lib.hid hg
  have HL1 := Lib.hid hL1
  have HL4 := Lib.hid hg.len
  have hcg := hg.cap
  have HTM := Lib.hid ht
  have HL40 := Lib.hid hl
  have hl30 : L4 ≤ 30 := by rw [hg.len]; exact ht.len
  have HLX := Lib.hid (Nat.le_trans ht.small.pkgs (show 30 ≤ 1000 by omega))
  clear h hL1 hL2 hq hg ht hl
  go_enter Tryz.func10, Tryz.ntmps10
  go_wp2_with fail
  simp only [Nat.add_assoc, Nat.reduceAdd]
  refine (roots_is _ _ _ _ x q (HR.out.below HX0.out.bel (Nat.le_refl _)) (HQ.out.below HX0.out.bel (Nat.le_refl _)) HTM.out.small.pkgs HL40.out).mono ?_
  rintro e w1 ⟨P, Ap, Lp, cp, rfl, hP, hbox, hrow, hb1⟩
  have HX1 := Lib.hid (HX0.out.step hb1)
  have HRT1 := Lib.hid (show Rts w w1 P Ap Lp cp x q from ⟨hbox, hrow.lower (HX0.out.bel.size)⟩)
  have x3 := HX1.out.get 2 0 (v := .slice A4 L4 c4) rfl rfl
  clear hP hbox hrow hb1 HX0
  go_wp2
  clear x3
  go_loopw [20] (fun j wr => ∃ (i : Nat) (a0 a1 a2 a3 a4 : Int), i ≤ L4 ∧ j = .int .i64 i ∧ Hid (Sums x q g (g.take i) a0 a1 a2 a3 a4) ∧ Hid (Bxs w wr [(#[.slice A1 L1 c1, .slice A2 L2 c2], 25), (#[.slice A3 L3 c3], 28), (#[.slice A4 L4 c4], 31), (#[.int .i64 0, .int .i64 0, .int .i64 0, .int .i64 0, .int .i64 0, .int .i64 0], 38), (#[.int .i64 a0, .int .i64 a1, .int .i64 a2, .int .i64 0, .int .i64 a4, .int .i64 i], 38)]) ∧ Hid (Rts w wr P Ap Lp cp x q)) (fun j _ => L4 - (RowKit.intOf j).toNat)
  case atStart => exact ⟨0, 0, 0, 0, 0, 0, Nat.zero_le _, rfl, Lib.hid (Sums.start x q g), HX1, HRT1⟩
  case round =>
    clear HX1 HRT1
    obtain ⟨i, a0, a1, a2, a3, a4, hi, rfl, HS, HX, HRT⟩ := hrel
    obtain ⟨ha0, ha1, ha2, hb3, ha4⟩ := HS.out.le HTM.out
    by_cases hlt : i < L4
    · obtain ⟨bb, off, u1, u2, rfl, hbb, hn, pw0, pw1, pw2, pw3⟩ := node_at HG.out hlt
      have hil : i < g.length := by rw [← HL4.out]; exact hlt
      have HSK := Lib.hid (fun h => HS.out.skip hil h)
      have HMORE := Lib.hid (fun (n : Node) (hn : nth g i = n) (m : Nat) (hz : findR x n.name = m) (o r : Bool) (u v : Int) ho hr hu hv => HS.out.more (m := m) (u := u) (v := v) (o := o) (r := r) hil hn hz ho hr hu hv)
      have hnmem := nth_mem hil
      obtain ⟨n, hnn⟩ : ∃ n, nth g i = n := ⟨_, rfl⟩
      rw [hnn] at hn pw0 pw1 HSK hnmem
      have HNN := Lib.hid hnn
      have HNM := Lib.hid hnmem
      obtain ⟨A5, L5, c5, rfl⟩ := hn.sets.sl
      obtain ⟨A6, L6, c6, rfl⟩ := hn.needs.sl
      have HSETS := Lib.hid hn.sets
      have p0 := (HX.out.bel.cell (p := ⟨bb, off + i * 4, none⟩) hbb).trans pw0
      have p1 := (HX.out.bel.cell (p := ⟨bb, off + i * 4 + 1, none⟩) hbb).trans pw1
      have p2 := (HX.out.bel.cell (p := ⟨bb, off + i * 4 + 2, none⟩) hbb).trans pw2
      have p3 := (HX.out.bel.cell (p := ⟨bb, off + i * 4 + 3, none⟩) hbb).trans pw3
      have g0 : (0 : Int) ≤ (i : Int) := by omega
      have g1 : (i : Int) < (L4 : Int) := by omega
      have hbx := heap_alloc_new wr (.cells #[.string n.name, .string n.ver, .slice A5 L5 c5, .slice A6 L6 c6] 63)
      have hbl := below_alloc' wr (.cells #[.string n.name, .string n.ver, .slice A5 L5 c5, .slice A6 L6 c6] 63)
      have HB9 := Lib.hid (show w.heap.size + 4 < wr.heap.size from lt_of_heap (HX.out.blk 4 _ _ rfl))
      clear pw0 pw1 pw2 pw3
      go_upto_region 6 with fail
      clear p0 p1 p2 p3
      generalize wr.alloc (.cells #[.string n.name, .string n.ver, .slice A5 L5 c5, .slice A6 L6 c6] 63) = w1 at hbx hbl ⊢
      obtain ⟨b9, hb9⟩ : ∃ b9, wr.heap.size = b9 := ⟨_, rfl⟩
      rw [hb9] at hbx HB9 ⊢
      have HX1 := Lib.hid (HX.out.step hbl)
      have HN1 := Lib.hid (show w1.heap[b9]? = some (.cells #[.string n.name, .string n.ver, .slice A5 L5 c5, .slice A6 L6 c6] 63 (0, 0)) from hbx)
      have HRT1 := Lib.hid (HRT.out.below hbl)
      have HNE9 := Lib.hid (show b9 ≠ w.heap.size + 4 by have := HB9.out; omega)
      have y0 := HX1.out.get 4 5 (v := .int .i64 i) rfl rfl
      have y1 := HX1.out.free 4 5 rfl
      clear hb9 hbx hbl HB9 HX HRT
      go_upto_region 7 with fail
      clear y0 y1
      have HX2 := Lib.hid (show Bxs w _ [(#[.slice A1 L1 c1, .slice A2 L2 c2], 25), (#[.slice A3 L3 c3], 28), (#[.slice (some ⟨bb, off, none⟩) L4 c4], 31), (#[.int .i64 0, .int .i64 0, .int .i64 0, .int .i64 0, .int .i64 0, .int .i64 0], 38), (#[.int .i64 a0, .int .i64 a1, .int .i64 a2, .int .i64 0, .int .i64 a4, .int .i64 ((i : Int) + 1)], 38)] from HX1.out.set 4 5 rfl (.int .i64 ((i : Int) + 1)))
      have HN2 := Lib.hid (heap_set_far HN1.out HNE9.out (j := 5) (v := .int .i64 ((i : Int) + 1)))
      have HRT2 := Lib.hid (HRT1.out.set (HX1.out.blk 4 _ _ rfl) 5 (.int .i64 ((i : Int) + 1)))
      clear HX1 HN1 HRT1
      generalize w1.setCell ⟨w.heap.size + 4, 5, none⟩ (.int .i64 ((i : Int) + 1)) = w2 at HX2 HN2 HRT2 ⊢
      have x0 := HX2.out.get 0 0 (v := .slice A1 L1 c1) rfl rfl
      have x1 := HX2.out.get 0 1 (v := .slice A2 L2 c2) rfl rfl
      rw [Nat.add_zero] at x0 x1
      have n0 := cells_get HN2.out 0 (v := .string n.name) rfl
      obtain ⟨z, hz⟩ : ∃ z, findR x n.name = z := ⟨_, rfl⟩
      have HZ := Lib.hid hz
      clear hn hnn hil hz hnmem
      go_wp2_with fail
      refine (find_is _ _ _ x n.name (HR.out.below HX2.out.bel (Nat.le_refl _)) z HZ.out).mono ?_
      rintro e w3 ⟨rfl, hb2⟩
      have HX3 := Lib.hid (HX2.out.step hb2)
      have HN3 := Lib.hid (heap_below HN2.out hb2)
      have HRT3 := Lib.hid (HRT2.out.below hb2)
      clear hb2 x0 x1 n0 HX2 HN2 HRT2
      by_cases hz0 : z < 0
      · have HV := Lib.hid (HSK.out (by rw [HZ.out]; exact hz0))
        go_wp2
        go_roundw
        case rel => exact ⟨i + 1, a0, a1, a2, a3, a4, by omega, by go_num, HV, HX3, HRT3⟩
        case measure => simp [RowKit.intOf]; omega
      · obtain ⟨m, rfl⟩ : ∃ m : Nat, z = m := ⟨z.toNat, by omega⟩
        have hml := find_lt HZ.out
        have hmm1 : m < L1 := by rw [HL1.out]; exact hml
        obtain ⟨b1, o1, t1, t2, t3, t4, t5, t6, rfl, hb1, hpk, ew0, ew1, ew2, ew3, ew4, ew5, ew6, ew7⟩ := pkg_at HR.out.pkgs hmm1
        have HSUMS := Lib.hid (fun (o r : Bool) (u v : Int) ho hr hu hv => HMORE.out n HNN.out m HZ.out o r u v ho hr hu hv)
        have HPKM := Lib.hid (nth_mem hml)
        obtain ⟨pk, hpke⟩ : ∃ pk, nth x.pkgs m = pk := ⟨_, rfl⟩
        rw [hpke] at hpk ew0 ew1 HSUMS HPKM
        obtain ⟨⟨B1, M1, d1, rfl⟩, ⟨B2, M2, d2, rfl⟩, ⟨B3, M3, d3, rfl⟩, ⟨B4, M4, d4, rfl⟩, ⟨B5, M5, d5, rfl⟩, ⟨B6, M6, d6, rfl⟩⟩ := hpk.sls
        have HPKG := Lib.hid hpk
        have HVARS := Lib.hid hpk.vars
        have HRELS := Lib.hid hpk.rels
        have HVL := Lib.hid (show pk.vars.length ≤ 60000 from Nat.le_trans (HTM.out.small.each _ HPKM.out).2.2.1 (by omega))
        obtain ⟨rk, hrk⟩ : ∃ rk, rankN pk n.ver = rk := ⟨_, rfl⟩
        have HRN := Lib.hid hrk
        have hrb := rank_le (HTM.out.small.each _ HPKM.out).2.1 n.ver
        rw [hrk] at hrb
        obtain ⟨u, hu⟩ : ∃ u, ((Va.unusualB (Va.usualB pk.vars) n.sets : Nat) : Int) = u := ⟨_, rfl⟩
        have HUB := Lib.hid hu
        have hub : 0 ≤ u ∧ u ≤ 50 := by
          have h1 : Va.unusualB (Va.usualB pk.vars) n.sets ≤ n.sets.length := List.countP_le_length
          have h2 := HTM.out.sets n HNM.out
          omega
        have e0 := (HX3.out.bel.cell (p := ⟨b1, o1 + m * 8, none⟩) hb1).trans ew0
        have e1 := (HX3.out.bel.cell (p := ⟨b1, o1 + m * 8 + 1, none⟩) hb1).trans ew1
        have e2 := (HX3.out.bel.cell (p := ⟨b1, o1 + m * 8 + 2, none⟩) hb1).trans ew2
        have e3 := (HX3.out.bel.cell (p := ⟨b1, o1 + m * 8 + 3, none⟩) hb1).trans ew3
        have e4 := (HX3.out.bel.cell (p := ⟨b1, o1 + m * 8 + 4, none⟩) hb1).trans ew4
        have e5 := (HX3.out.bel.cell (p := ⟨b1, o1 + m * 8 + 5, none⟩) hb1).trans ew5
        have e6 := (HX3.out.bel.cell (p := ⟨b1, o1 + m * 8 + 6, none⟩) hb1).trans ew6
        have e7 := (HX3.out.bel.cell (p := ⟨b1, o1 + m * 8 + 7, none⟩) hb1).trans ew7
        have x0 := HX3.out.get 0 0 (v := .slice (some ⟨b1, o1, none⟩) L1 c1) rfl rfl
        rw [Nat.add_zero] at x0
        have m0 : (0 : Int) ≤ (m : Int) := by omega
        have m1 : (m : Int) < (L1 : Int) := by omega
        have hbx := heap_alloc_new w3 (.cells #[.string pk.name, .int .i64 pk.line, .slice B1 M1 d1, .slice B2 M2 d2, .slice B3 M3 d3, .slice B4 M4 d4, .slice B5 M5 d5, .slice B6 M6 d6] 51)
        have hbl := below_alloc' w3 (.cells #[.string pk.name, .int .i64 pk.line, .slice B1 M1 d1, .slice B2 M2 d2, .slice B3 M3 d3, .slice B4 M4 d4, .slice B5 M5 d5, .slice B6 M6 d6] 51)
        have HB11 := Lib.hid (show w.heap.size + 4 < w3.heap.size from lt_of_heap (HX3.out.blk 4 _ _ rfl))
        obtain ⟨o, ho⟩ : ∃ o, oldB pk n.ver = o := ⟨_, rfl⟩
        have HOB := Lib.hid ho
        clear hpk hpke hml hrk hu ho HMORE HSK ew0 ew1 ew2 ew3 ew4 ew5 ew6 ew7
        go_upto_region 10 with fail
        clear e0 e1 e2 e3 e4 e5 e6 e7 x0
        generalize w3.alloc (.cells #[.string pk.name, .int .i64 pk.line, .slice B1 M1 d1, .slice B2 M2 d2, .slice B3 M3 d3, .slice B4 M4 d4, .slice B5 M5 d5, .slice B6 M6 d6] 51) = w4 at hbx hbl ⊢
        obtain ⟨b11, hb11⟩ : ∃ b11, w3.heap.size = b11 := ⟨_, rfl⟩
        rw [hb11] at hbx HB11 ⊢
        have HX4 := Lib.hid (HX3.out.step hbl)
        have HN4 := Lib.hid (heap_below HN3.out hbl)
        have HRT4 := Lib.hid (HRT3.out.below hbl)
        have HP4 := Lib.hid (show w4.heap[b11]? = some (.cells #[.string pk.name, .int .i64 pk.line, .slice B1 M1 d1, .slice B2 M2 d2, .slice B3 M3 d3, .slice B4 M4 d4, .slice B5 M5 d5, .slice B6 M6 d6] 51 (0, 0)) from hbx)
        have HNE11 := Lib.hid (show b11 ≠ w.heap.size + 4 by have := HB11.out; omega)
        have p2 := cells_get HP4.out 2 (v := .slice B1 M1 d1) rfl
        have n1 := cells_get HN4.out 1 (v := .string n.ver) rfl
        clear hb11 hbx hbl HB11 HX3 HN3 HRT3
        go_wp2_with fail
        refine (containsRel_is _ _ pk.rels n.ver (HRELS.out.below HX4.out.bel (Nat.le_refl _)) o HOB.out).mono ?_
        rintro e w5 ⟨rfl, hb2⟩
        have HX5 := Lib.hid (HX4.out.step hb2)
        have HN5 := Lib.hid (heap_below HN4.out hb2)
        have HP5 := Lib.hid (heap_below HP4.out hb2)
        have HRT5 := Lib.hid (HRT4.out.below hb2)
        clear hb2 p2 n1 HX4 HN4 HP4 HRT4
        obtain ⟨ee, hee⟩ : ∃ ee, a0 + (if o then 1 else 0) = ee := ⟨_, rfl⟩
        have HEE := Lib.hid hee
        have hbee : 0 ≤ ee ∧ ee ≤ 80000 := by subst hee; cases o <;> simp <;> omega
        clear hee
        go_upto_if 44 with fail
        go_cut [20] from 20 to 76 (fun s20 wx => s20 = .int .i64 (i : Int) ∧ Hid (Bxs w wx [(#[.slice (some ⟨b1, o1, none⟩) L1 c1, .slice A2 L2 c2], 25), (#[.slice A3 L3 c3], 28), (#[.slice (some ⟨bb, off, none⟩) L4 c4], 31), (#[.int .i64 0, .int .i64 0, .int .i64 0, .int .i64 0, .int .i64 0, .int .i64 0], 38), (#[.int .i64 ee, .int .i64 a1, .int .i64 a2, .int .i64 0, .int .i64 a4, .int .i64 ((i : Int) + 1)], 38)]) ∧ Hid (wx.heap[b9]? = some (.cells #[.string n.name, .string n.ver, .slice A5 L5 c5, .slice A6 L6 c6] 63 (0, 0))) ∧ Hid (wx.heap[b11]? = some (.cells #[.string pk.name, .int .i64 pk.line, .slice B1 M1 d1, .slice B2 M2 d2, .slice B3 M3 d3, .slice B4 M4 d4, .slice B5 M5 d5, .slice B6 M6 d6] 51 (0, 0))) ∧ Hid (Rts w wx P Ap Lp cp x q))
        case first =>
          cases o with
          | true =>
            obtain rfl : a0 + 1 = ee := HEE.out
            have y0 := HX5.out.get 4 0 (v := .int .i64 a0) rfl rfl
            have y1 := HX5.out.free 4 0 rfl
            go_wp2
            go_meet
            exact ⟨rfl, Lib.hid (HX5.out.set 4 0 rfl (.int .i64 (a0 + 1))), Lib.hid (heap_set_far HN5.out HNE9.out), Lib.hid (heap_set_far HP5.out HNE11.out), Lib.hid (HRT5.out.set (HX5.out.blk 4 _ _ rfl) 0 _)⟩
          | false =>
            obtain rfl : a0 = ee := by have := HEE.out; simpa using this
            go_wp2
            go_meet
            exact ⟨rfl, HX5, HN5, HP5, HRT5⟩
        case rest =>
          obtain ⟨rfl, HX6, HN6, HP6, HRT6⟩ := hcut
          obtain ⟨w6, hw6⟩ : ∃ w6 : World, w6 = wc := ⟨_, rfl⟩
          subst hw6
          clear HX5 HN5 HP5 HRT5
          have pt0 := cells_get HP6.out 0 (v := .string pk.name) rfl
          have pt1 := cells_get HP6.out 1 (v := .int .i64 pk.line) rfl
          have pt2 := cells_get HP6.out 2 (v := .slice B1 M1 d1) rfl
          have pt3 := cells_get HP6.out 3 (v := .slice B2 M2 d2) rfl
          have pt4 := cells_get HP6.out 4 (v := .slice B3 M3 d3) rfl
          have pt5 := cells_get HP6.out 5 (v := .slice B4 M4 d4) rfl
          have pt6 := cells_get HP6.out 6 (v := .slice B5 M5 d5) rfl
          have pt7 := cells_get HP6.out 7 (v := .slice B6 M6 d6) rfl
          have nt1 := cells_get HN6.out 1 (v := .string n.ver) rfl
          go_wp2_with fail
          refine (rank_is _ _ _ _ _ _ _ pk n.ver (HPKG.out.below HX6.out.bel (Nat.le_refl _)) _ rfl).mono ?_
          rintro e w7 ⟨rfl, hb7⟩
          have HX7 := Lib.hid (HX6.out.step hb7)
          have HN7 := Lib.hid (heap_below HN6.out hb7)
          have HP7 := Lib.hid (heap_below HP6.out hb7)
          have HRT7 := Lib.hid (HRT6.out.below hb7)
          have hmx : max (rankI pk n.ver) (0 : Int) = rk := by rw [Int.max_comm]; exact HRN.out
          clear hb7 pt0 pt1 pt2 pt3 pt4 pt5 pt6 pt7 nt1 HX6 HN6 HP6 HRT6
          go_wp2_with fail
          clear hmx
          refine (rooted_is _ P Ap Lp cp x q _ HRT7.out.box HRT7.out.rows _ rfl).mono ?_
          rintro e w8 ⟨rfl, rfl⟩
          obtain ⟨rb, hrb⟩ : ∃ rb, rootedB x q (m : Int) = rb := ⟨_, rfl⟩
          have HRB := Lib.hid hrb
          rw [hrb]
          obtain ⟨ea, hea⟩ : ∃ ea, a1 + (if rb then rk else 0) = ea := ⟨_, rfl⟩
          obtain ⟨eb, heb⟩ : ∃ eb, a4 + (if rb then 0 else rk) = eb := ⟨_, rfl⟩
          have hbea : 0 ≤ ea ∧ ea ≤ 80000 := by subst hea; cases rb <;> simp <;> omega
          have hbeb : 0 ≤ eb ∧ eb ≤ 80000 := by subst heb; cases rb <;> simp <;> omega
          have HEA := Lib.hid hea
          have HEB := Lib.hid heb
          have HSUM := Lib.hid (show Sums x q g (g.take (i + 1)) ee ea (a2 + u) (a3 + sumV x (goodV x q g) pk pk.prov.length) eb by
            have := HSUMS.out o rb u _ HOB.out HRB.out HUB.out rfl
            rw [HRN.out, HEA.out, HEB.out, HEE.out] at this
            exact this)
          clear hea heb hrb
          go_upto_if 56 with fail
          go_cut [20] from 20 to 76 (fun s20 wx => s20 = .int .i64 (i : Int) ∧ Hid (Bxs w wx [(#[.slice (some ⟨b1, o1, none⟩) L1 c1, .slice A2 L2 c2], 25), (#[.slice A3 L3 c3], 28), (#[.slice (some ⟨bb, off, none⟩) L4 c4], 31), (#[.int .i64 0, .int .i64 0, .int .i64 0, .int .i64 0, .int .i64 0, .int .i64 0], 38), (#[.int .i64 ee, .int .i64 ea, .int .i64 a2, .int .i64 0, .int .i64 eb, .int .i64 ((i : Int) + 1)], 38)]) ∧ Hid (wx.heap[b9]? = some (.cells #[.string n.name, .string n.ver, .slice A5 L5 c5, .slice A6 L6 c6] 63 (0, 0))) ∧ Hid (wx.heap[b11]? = some (.cells #[.string pk.name, .int .i64 pk.line, .slice B1 M1 d1, .slice B2 M2 d2, .slice B3 M3 d3, .slice B4 M4 d4, .slice B5 M5 d5, .slice B6 M6 d6] 51 (0, 0))) ∧ Hid (Rts w wx P Ap Lp cp x q))
          case first =>
            cases rb with
            | true =>
              obtain rfl : a1 + rk = ea := HEA.out
              obtain rfl : a4 = eb := by have := HEB.out; simpa using this
              have y0 := HX7.out.get 4 1 (v := .int .i64 a1) rfl rfl
              have y1 := HX7.out.free 4 1 rfl
              go_wp2
              go_meet
              exact ⟨rfl, Lib.hid (HX7.out.set 4 1 rfl (.int .i64 (a1 + rk))), Lib.hid (heap_set_far HN7.out HNE9.out), Lib.hid (heap_set_far HP7.out HNE11.out), Lib.hid (HRT7.out.set (HX7.out.blk 4 _ _ rfl) 1 _)⟩
            | false =>
              obtain rfl : a1 = ea := by have := HEA.out; simpa using this
              obtain rfl : a4 + rk = eb := HEB.out
              have y0 := HX7.out.get 4 4 (v := .int .i64 a4) rfl rfl
              have y1 := HX7.out.free 4 4 rfl
              go_wp2
              go_meet
              exact ⟨rfl, Lib.hid (HX7.out.set 4 4 rfl (.int .i64 (a4 + rk))), Lib.hid (heap_set_far HN7.out HNE9.out), Lib.hid (heap_set_far HP7.out HNE11.out), Lib.hid (HRT7.out.set (HX7.out.blk 4 _ _ rfl) 4 _)⟩
          case rest =>
            obtain ⟨rfl, HX8, HN8, HP8, HRT8⟩ := hcut
            obtain ⟨w8, hw8⟩ : ∃ w8 : World, w8 = wc := ⟨_, rfl⟩
            subst hw8
            clear HX7 HN7 HP7 HRT7
            have y0 := HX8.out.get 4 2 (v := .int .i64 a2) rfl rfl
            have pv := cells_get HP8.out 3 (v := .slice B2 M2 d2) rfl
            have nv := cells_get HN8.out 2 (v := .slice A5 L5 c5) rfl
            have q0 := cell_regrown y0
            have q1 := cell_regrown pv
            have q2 := cell_regrown nv
            have CU := Lib.hid (show ∀ d os, Calls Tryz.prog 24 #[.slice B2 M2 d2, .slice A5 L5 c5] (Go.Sort.grow (redrawn w8 d) os) fun e w'' => e = .returned (.int .i64 u) ∧ ∃ p : Regrown, w'' = Go.Sort.grow (redrawn w8 p.d) p.os from
              fun d os => Calls.regrown_of (by
                have := Va.unusual_any (Go.Sort.grow (redrawn w8 d) os) (.slice B2 M2 d2) (.slice A5 L5 c5) pk.vars n.sets (to_vars ((HVARS.out.below HX8.out.bel (Nat.le_refl _)).below (below_regrown w8 d os) (Nat.le_refl _))) (to_sets ((HSETS.out.below HX8.out.bel (Nat.le_refl _)).below (below_regrown w8 d os) (Nat.le_refl _))) HVL.out
                rw [HUB.out] at this
                exact this))
            have hw : IntKind.i64.wrap (a2 + u) = a2 + u := IntWalk.i64_in _ (by omega)
            clear y0 pv nv
            go_wp2_with fail
            refine Co.quiet_then2 rfl rfl rfl (by kernel_rfl) (by kernel_rfl) (by kernel_rfl) ?_
            dsimp only [List.dropLast, List.cons_append, List.nil_append, List.getLast]
            repeat (go_big_quiet_step ((go_at_call 24; with_reducible exact CU.out _ _)))
            refine wpQuiet_nil ?_
            intro w9 hw'
            have hb9 : Below w8.heap.size w8 w9 := by obtain ⟨⟨dq, osq⟩, hw''⟩ := hw'; rw [hw'']; exact below_regrown w8 dq osq
            have HX9 := Lib.hid (HX8.out.step hb9)
            have HRT9 := Lib.hid (HRT8.out.below hb9)
            have z0 := HX9.out.get 4 2 (v := .int .i64 a2) rfl rfl
            have z1 := HX9.out.free 4 2 rfl
            have HXV := Lib.hid (show Bxs w _ [(#[.slice (some ⟨b1, o1, none⟩) L1 c1, .slice A2 L2 c2], 25), (#[.slice A3 L3 c3], 28), (#[.slice (some ⟨bb, off, none⟩) L4 c4], 31), (#[.int .i64 0, .int .i64 0, .int .i64 0, .int .i64 0, .int .i64 0, .int .i64 0], 38), (#[.int .i64 ee, .int .i64 ea, .int .i64 (a2 + u), .int .i64 0, .int .i64 eb, .int .i64 ((i + 1 : Nat) : Int)], 38)] from HX9.out.set 4 2 rfl (.int .i64 (a2 + u)))
            have HRTV := Lib.hid (HRT9.out.set (HX9.out.blk 4 _ _ rfl) 2 (.int .i64 (a2 + u)))
            clear hw' hb9 q0 q1 q2 CU hw
            go_simp
            clear z0 z1
            go_wp2
            go_roundw
            case rel => first | exact ⟨i + 1, ee, ea, a2 + u, _, eb, by omega, by go_num, HSUM, HXV, HRTV⟩ | ((repeat apply Exists.intro); exact ⟨⟨i + 1, ee, ea, a2 + u, _, eb, by omega, by go_num, HSUM, HXV, HRTV⟩, rfl⟩)
            case measure => simp [RowKit.intOf]; omega
    · have hkn : i = g.length := by rw [← HL4.out]; omega
      have hiL : i = L4 := by omega
      subst hiL
      obtain ⟨y, hy⟩ : ∃ y, sumL (prefT x g) (namesN x q g) = y := ⟨_, rfl⟩
      have HY := Lib.hid hy
      have HC := Lib.hid (show costV (costL x q g) = .agg #[.int .i64 a0, .int .i64 a1, .int .i64 a2, .int .i64 y, .int .i64 a4, .int .i64 i] by
        have h1 := HS.out
        rw [hkn, List.take_length] at h1
        exact h1.cost2 HL4.out hy)
      have HNL := Lib.hid (namesN_len HTM.out.small HL40.out HTM.out.len)
      have x0 := HX.out.get 0 0 (v := .slice A1 L1 c1) rfl rfl
      have x1 := HX.out.get 0 1 (v := .slice A2 L2 c2) rfl rfl
      have x2 := HX.out.get 1 0 (v := .slice A3 L3 c3) rfl rfl
      have x3 := HX.out.get 2 0 (v := .slice A4 i c4) rfl rfl
      rw [Nat.add_zero] at x0 x1
      clear hkn hy
      go_wp2_with fail
      refine (preferred_is _ _ _ _ _ x q g (HR.out.below HX.out.bel (Nat.le_refl _)) (HQ.out.below HX.out.bel (Nat.le_refl _)) (HG.out.below HX.out.bel (Nat.le_refl _)) HTM.out HL40.out HNL.out).mono ?_
      rintro e w1 ⟨rfl, hb1⟩
      rw [HY.out]
      have HX1 := Lib.hid (HX.out.step hb1)
      clear hb1 x0 x1 x2 x3 HX HRT HS
      have y3 := HX1.out.get 4 3 (v := .int .i64 0) rfl rfl
      have y4 := HX1.out.free 4 3 rfl
      go_upto_region 19 with fail
      clear y3 y4
      have HX2 := Lib.hid (show Bxs w _ [(#[.slice A1 L1 c1, .slice A2 L2 c2], 25), (#[.slice A3 L3 c3], 28), (#[.slice A4 i c4], 31), (#[.int .i64 0, .int .i64 0, .int .i64 0, .int .i64 0, .int .i64 0, .int .i64 0], 38), (#[.int .i64 a0, .int .i64 a1, .int .i64 a2, .int .i64 y, .int .i64 a4, .int .i64 i], 38)] from HX1.out.set 4 3 rfl (.int .i64 y))
      generalize w1.setCell ⟨w.heap.size + 4, 3, none⟩ (.int .i64 y) = w2 at HX2 ⊢
      have y0 := HX2.out.get 4 0 (v := .int .i64 a0) rfl rfl
      have y1 := HX2.out.get 4 1 (v := .int .i64 a1) rfl rfl
      have y2 := HX2.out.get 4 2 (v := .int .i64 a2) rfl rfl
      have y3 := HX2.out.get 4 3 (v := .int .i64 y) rfl rfl
      have y4 := HX2.out.get 4 4 (v := .int .i64 a4) rfl rfl
      have y5 := HX2.out.get 4 5 (v := .int .i64 i) rfl rfl
      have z0 := HX2.out.get 3 0 (v := .int .i64 0) rfl rfl
      have z1 := HX2.out.get 3 1 (v := .int .i64 0) rfl rfl
      have z2 := HX2.out.get 3 2 (v := .int .i64 0) rfl rfl
      have z3 := HX2.out.get 3 3 (v := .int .i64 0) rfl rfl
      have z4 := HX2.out.get 3 4 (v := .int .i64 0) rfl rfl
      have z5 := HX2.out.get 3 5 (v := .int .i64 0) rfl rfl
      have f0 := HX2.out.free 3 0 rfl
      have f1 := HX2.out.free 3 1 rfl
      have f2 := HX2.out.free 3 2 rfl
      have f3 := HX2.out.free 3 3 rfl
      have f4 := HX2.out.free 3 4 rfl
      have f5 := HX2.out.free 3 5 rfl
      have HBE := Lib.hid HX2.out.bel
      clear HX1 HX2
      go_wp2
      refine bodyPost_ret (v := .agg #[.int .i64 a0, .int .i64 a1, .int .i64 a2, .int .i64 y, .int .i64 a4, .int .i64 i]) (by simp [results, Tryz.results10, go_sem, World.cell?_setCell_same', z0, z1, z2, z3, z4, z5]) rfl ⟨by rw [HC.out], ?_⟩
      have hle : w.heap.size ≤ w.heap.size + 3 := by omega
      exact (((((HBE.out.setCell hle _).setCell hle _).setCell hle _).setCell hle _).setCell hle _).setCell hle _
end Go.Proofs.YtaahdhpljlkfjaaGreat.Rc
