/- The closure. -/
import Derived.Test.YtggejmojbebhfaaNdName
import Derived.Test.YtggejmojbebhfaaNdKeys
import Derived.Deep.LoopGhost
namespace Go.Proofs.Ytggejmojbebhfaa.Rc
open Go.RowKit Go.Maps

/-- The head is cut off. -/
theorem St.cut {w0 w : World} {v1 v2 vq : Value} {met : List Int} {A : Option Addr} {L c : Nat} {m : Int} {work : List Int} (h : St w0 w v1 v2 vq met (.slice A L c) (m :: work)) :
    St w0 (w.setCell ⟨w0.heap.size + 4, 0, none⟩ (sliced A 1 L c 1)) v1 v2 vq met (sliced A 1 L c 1) work := by
  obtain ⟨t1, t2⟩ := h.tail.cut
  have hs := cells_set h.b4 0 (sliced A 1 L c 1)
  have tt : Touch w (w.setCell ⟨w0.heap.size + 4, 0, none⟩ (sliced A 1 L c 1)) (fun i => i = w0.heap.size + 4) := (Touch.refl w _).set _ 0 _ rfl
  refine ⟨h.bel.grown (grown_set w _ 0 _) h.bel.size (fun k e => by cases e; omega), heap_set_far h.b0 (by omega), heap_set_far h.b1 (by omega), h.set.touch tt (by omega), heap_set_far h.b3 (by omega), by simpa using hs, t1.touch tt (fun g e e2 => ?_)⟩
  subst e2
  rw [t2] at e
  exact h.tail.apart h.b4 (by decide) e
/-- 's[1:]', at the operation. -/
theorem wpList_cut {ops : Array Oper} {rest : List Oper} {o : Oper} {a : Act} {Q : Exit → Act → World → Prop} (hgd : o.guard = none) (s : Operand)
    (ho : o.op = .slice 31 s (some (.const (.int .i64 1))) none none) {w : World} {A : Option Addr} {L c : Nat} {vs : Value} (hs : a.eval s = .slice A L c) (hL : 1 ≤ L) (hv : sliced A 1 L c 1 = vs)
    (hK : wpList Try.prog ops Q rest (a.put o.dst vs) w) : wpList Try.prog ops Q (o :: rest) a w := by
  refine wpList_plain hgd fun K hK' => ?_
  have hrun := run_slice_l (P := Try.prog) w 31 A L c (by kernel_rfl) .i64 1 (by omega) (by omega)
  have hsz : ((sizeOf (Try.prog.elem 31)).run Try.prog w) = .ok 1 w := by kernel_rfl
  rw [hsz] at hrun
  unfold Oper.wp
  simp only [Result.andThen] at hrun
  rw [show (1 : Int).toNat = 1 from rfl, hv] at hrun
  simp [execOp, ho, hs, show a.eval (.const (.int .i64 1)) = .int .i64 1 from rfl, run_sliceAt_slice (P := Try.prog) w 31 (.slice A L c) (some (.int .i64 1)) none none (by kernel_rfl), hrun, Result.andThen]
  exact hK' _ _ hK
theorem drop_cons {l : List Int} {p : Nat} (h : p < l.length) : l.drop p = nth l p :: l.drop (p + 1) := by rw [List.drop_eq_getElem_cons h, nth_lt h]
theorem st_start (w : World) (v1 v2 vq : Value) : St w (((((w.alloc (.cells #[v1, v2] 25)).alloc (.cells #[vq] 37)).alloc (.map #[] 0)).alloc (.cells #[.map (some (w.heap.size + 2))] 87)).alloc (.cells #[.slice none 0 0] 31)) v1 v2 vq [] (.slice none 0 0) [] := by
  have g0 := heap_alloc_new w (.cells #[v1, v2] 25)
  generalize h1 : w.alloc (.cells #[v1, v2] 25) = w1 at *
  have s1 : w1.heap.size = w.heap.size + 1 := by rw [← h1]; simp
  have b1 : Below w.heap.size w w1 := by rw [← h1]; exact below_alloc' w _
  have g1 := heap_alloc_new w1 (.cells #[vq] 37)
  have f0 := heap_below g0 (below_alloc' w1 (.cells #[vq] 37))
  have b2 := b1.alloc b1.size (.cells #[vq] 37)
  generalize h2 : w1.alloc (.cells #[vq] 37) = w2 at *
  have s2 : w2.heap.size = w.heap.size + 2 := by rw [← h2]; simp; omega
  have g2 := heap_alloc_new w2 (.map #[] 0)
  have f1 := heap_below g1 (below_alloc' w2 (.map #[] 0))
  have f0 := heap_below f0 (below_alloc' w2 (.map #[] 0))
  have b3 := b2.alloc b2.size (.map #[] 0)
  generalize h3 : w2.alloc (.map #[] 0) = w3 at *
  have s3 : w3.heap.size = w.heap.size + 3 := by rw [← h3]; simp; omega
  have g3 := heap_alloc_new w3 (.cells #[.map (some (w.heap.size + 2))] 87)
  have f2 := heap_below g2 (below_alloc' w3 (.cells #[.map (some (w.heap.size + 2))] 87))
  have f1 := heap_below f1 (below_alloc' w3 (.cells #[.map (some (w.heap.size + 2))] 87))
  have f0 := heap_below f0 (below_alloc' w3 (.cells #[.map (some (w.heap.size + 2))] 87))
  have b4 := b3.alloc b3.size (.cells #[.map (some (w.heap.size + 2))] 87)
  generalize h4 : w3.alloc (.cells #[.map (some (w.heap.size + 2))] 87) = w4 at *
  have s4 : w4.heap.size = w.heap.size + 4 := by rw [← h4]; simp; omega
  have g4 := heap_alloc_new w4 (.cells #[.slice none 0 0] 31)
  have f3 := heap_below g3 (below_alloc' w4 (.cells #[.slice none 0 0] 31))
  have f2 := heap_below f2 (below_alloc' w4 (.cells #[.slice none 0 0] 31))
  have f1 := heap_below f1 (below_alloc' w4 (.cells #[.slice none 0 0] 31))
  have f0 := heap_below f0 (below_alloc' w4 (.cells #[.slice none 0 0] 31))
  have b5 := b4.alloc b4.size (.cells #[.slice none 0 0] 31)
  rw [s1] at f1; rw [s2] at f2; rw [s3] at f3; rw [s4] at g4
  exact ⟨b5, f0, f1, SetI.mk f2, f3, g4, TailI.nil _ _⟩

set_option maxRecDepth 100000 in
set_option maxHeartbeats 3200000 in
theorem closure_any (w : World) (v1 v2 vq : Value) (x : Rec) (q : List Root) (hr : IsRec w v1 v2 x) (hq : RowD rootK w vq q) (hl : x.pkgs.length ≤ 1000) :
    Calls Try.prog 30 #[.agg #[v1, v2], .agg #[vq]] w (GivesI (closeL x q) w) := by
  obtain ⟨a1, n1, k1, rfl⟩ := hr.pkgs.sl
  obtain ⟨a2, n2, k2, rfl⟩ := hr.prefs.sl
  obtain ⟨Aq, Lq, cq, rfl⟩ := hq.sl
  have hs := st_start w (.slice a1 n1 k1) (.slice a2 n2 k2) (.slice Aq Lq cq)
  have HS := Lib.hid hs
  have r0 := cells_get hs.b1 0 (v := .slice Aq Lq cq) rfl
  have HR := Lib.hid hr
  have HQ := Lib.hid hq
  have HQL := Lib.hid hq.len
  have hqc := hq.cap
  have HL := Lib.hid hl
  have hmm := @run_makeMap Try.prog
  clear hs hr hq hl
  go_enter Try.func30, Try.ntmps30
  go_wp2
  simp only [Nat.add_assoc, Nat.reduceAdd]
  have hlq : Lq ≤ 9223372036854775807 := by omega
  go_loopw [18] (fun i wr => ∃ (k : Nat) (v' : Value) (met : List Int), k ≤ Lq ∧ i = .int .i64 k ∧ Hid (Roots x q met k) ∧ St w wr (.slice a1 n1 k1) (.slice a2 n2 k2) (.slice Aq Lq cq) met v' met) (fun i _ => Lq - (RowKit.intOf i).toNat)
  case atStart => exact ⟨0, .slice none 0 0, [], Nat.zero_le _, rfl, Lib.hid (Roots.start x q), by simpa using HS.out⟩
  case round =>
    clear HS r0
    obtain ⟨k, v', met, hk, rfl, HRO, hst⟩ := hrel
    have HS := Lib.hid hst
    by_cases hlt : k < Lq
    · have hkl : k < q.length := by rw [← HQL.out]; exact hlt
      obtain ⟨b, off, u1, u2, rfl, hb, hsp, hline, c0, c1, c2, c3⟩ := root_at (HQ.out.below hst.bel (Nat.le_refl _)) hlt
      obtain ⟨A5, L5, c5, rfl⟩ := hsp.spans.sl
      obtain ⟨A6, L6, c6, rfl⟩ := hsp.sets.sl
      have HRN := Lib.hid (HRO.out.step hkl)
      have HS2 := Lib.hid (hst.alloc (.cells #[.string (nth q k).spec.name, .slice A5 L5 c5, .slice A6 L6 c6, .int .i64 (nth q k).line] 75))
      clear hst hsp hkl
      go_wp2_with fail
      refine (name_any w _ _ _ _ v' met met x _ _ _ HS2.out HR.out HL.out HRO.out.nodup (fun t ht => (HRO.out.sound t ht).range) (Nat.le_refl _) ⟨_, _, _, rfl⟩ ⟨_, _, _, rfl⟩).mono ?_
      rintro e w2 ⟨rfl, v2, ext, he, hst2⟩
      have HST := Lib.hid hst2
      have HE := Lib.hid he
      clear hst2 he c0 c1 c2 c3
      go_wp2
      go_roundw
      case rel => exact ⟨k + 1, v2, met ++ ext, by omega, by go_num, by rw [← HE.out]; exact HRN, HST.out⟩
      case measure => simp [RowKit.intOf]; omega
    · obtain rfl : k = Lq := by omega
      have HBF := Lib.hid (HRO.out.bfs (by rw [HQL.out]; exact Nat.le_refl _))
      clear hst
      go_wp2
      go_loopg [] x.pkgs.length (fun g wr => ∃ (p : Nat) (met : List Int) (v' : Value), g = x.pkgs.length - p ∧ Hid (Bfs x q met p) ∧ St w wr (.slice a1 n1 k1) (.slice a2 n2 k2) (.slice Aq k cq) met v' (met.drop p))
      case atStart => exact ⟨0, met, v', by omega, HBF, by simpa using HS.out⟩
      case round =>
        clear HS HBF HRO
        obtain ⟨p, met, v', rfl, HB, hst⟩ := hrel
        obtain ⟨A, L, c, rfl⟩ := hst.tail.sl
        obtain ⟨hlen, hlc, hcm⟩ := hst.tail.len
        have hL : L = met.length - p := by rw [hlen, List.length_drop]
        have s4 := cells_get hst.b4 0 (v := .slice A L c) rfl
        clear hlen
        by_cases hp : p < met.length
        · have hst' := hst
          rw [drop_cons hp] at hst'
          obtain ⟨g, o, rfl, hh⟩ := hst'.tail.head
          obtain ⟨m, hm⟩ : ∃ m, nth met p = m := ⟨_, rfl⟩
          rw [hm] at hh
          have hrg := (HB.out.sound m (hm ▸ nth_mem hp)).range
          obtain ⟨mi, rfl⟩ : ∃ mi : Nat, m = (mi : Int) := ⟨m.toNat, by omega⟩
          have hmi : mi < n1 := by have := HR.out.pkgs.len; omega
          obtain ⟨b, off, u1, u2, u3, u4, u5, u6, rfl, hb, hpk, d0, d1, d2, d3, d4, d5, d6, d7⟩ := pkg_at HR.out.pkgs hmi
          have d0 := (hst.bel.cell (p := ⟨b, off + mi * 8, none⟩) hb).trans d0
          have d1 := (hst.bel.cell (p := ⟨b, off + mi * 8 + 1, none⟩) hb).trans d1
          have d2 := (hst.bel.cell (p := ⟨b, off + mi * 8 + 2, none⟩) hb).trans d2
          have d3 := (hst.bel.cell (p := ⟨b, off + mi * 8 + 3, none⟩) hb).trans d3
          have d4 := (hst.bel.cell (p := ⟨b, off + mi * 8 + 4, none⟩) hb).trans d4
          have d5 := (hst.bel.cell (p := ⟨b, off + mi * 8 + 5, none⟩) hb).trans d5
          have d6 := (hst.bel.cell (p := ⟨b, off + mi * 8 + 6, none⟩) hb).trans d6
          have d7 := (hst.bel.cell (p := ⟨b, off + mi * 8 + 7, none⟩) hb).trans d7
          have hb : b < wr.heap.size := Nat.lt_of_lt_of_le hb hst.bel.size
          obtain ⟨⟨A3, L3, c3, rfl⟩, ⟨A4, L4, c4, rfl⟩, ⟨A5, L5, c5, rfl⟩, ⟨A6, L6, c6, rfl⟩, ⟨A7, L7, c7, rfl⟩, ⟨A8, L8, c8, rfl⟩⟩ := hpk.sls
          have s0 := cells_get hst.b0 0 (v := .slice (some ⟨b, off, none⟩) n1 k1) rfl
          have f4 := cells_free hst.b4 0
          have HS := Lib.hid hst'
          have HPK := Lib.hid hpk
          have HPKE := Lib.hid (show pk x (nth met p) = nth x.pkgs mi by rw [hm]; rfl)
          have HP := Lib.hid hp
          have L0 : 0 < L := by omega
          clear hst hst' hpk hm hrg hL
          go_wp2_with fail
          go_region_held3 (fun w' => w'.cell? ⟨w.heap.size, 0, none⟩ = some (.slice (some ⟨b, off, none⟩) n1 k1) ∧ w'.cell? ⟨w.heap.size + 4, 0, none⟩ = some (.slice (some ⟨g, o, none⟩) L c) ∧ w'.cell? ⟨g, o, none⟩ = some (.int .i64 mi) ∧ w'.cell? ⟨b, off + mi * 8, none⟩ = some (.string (nth x.pkgs mi).name) ∧ w'.cell? ⟨b, off + mi * 8 + 1, none⟩ = some (.int .i64 (nth x.pkgs mi).line) ∧ w'.cell? ⟨b, off + mi * 8 + 2, none⟩ = some (.slice A3 L3 c3) ∧ w'.cell? ⟨b, off + mi * 8 + 3, none⟩ = some (.slice A4 L4 c4) ∧ w'.cell? ⟨b, off + mi * 8 + 4, none⟩ = some (.slice A5 L5 c5) ∧ w'.cell? ⟨b, off + mi * 8 + 5, none⟩ = some (.slice A6 L6 c6) ∧ w'.cell? ⟨b, off + mi * 8 + 6, none⟩ = some (.slice A7 L7 c7) ∧ w'.cell? ⟨b, off + mi * 8 + 7, none⟩ = some (.slice A8 L8 c8)) (go_keep) (fail)
          have HS2 := (HS.out.alloc (.cells #[.string (nth x.pkgs mi).name, .int .i64 (nth x.pkgs mi).line, .slice A3 L3 c3, .slice A4 L4 c4, .slice A5 L5 c5, .slice A6 L6 c6, .slice A7 L7 c7, .slice A8 L8 c8] 45)).drew
          have hbx : ((wr.alloc (.cells #[.string (nth x.pkgs mi).name, .int .i64 (nth x.pkgs mi).line, .slice A3 L3 c3, .slice A4 L4 c4, .slice A5 L5 c5, .slice A6 L6 c6, .slice A7 L7 c7, .slice A8 L8 c8] 45)).drew).heap[wr.heap.size]? = some (.cells #[.string (nth x.pkgs mi).name, .int .i64 (nth x.pkgs mi).line, .slice A3 L3 c3, .slice A4 L4 c4, .slice A5 L5 c5, .slice A6 L6 c6, .slice A7 L7 c7, .slice A8 L8 c8] 45 (0, 0)) := heap_alloc_new wr _
          generalize ((wr.alloc (.cells #[.string (nth x.pkgs mi).name, .int .i64 (nth x.pkgs mi).line, .slice A3 L3 c3, .slice A4 L4 c4, .slice A5 L5 c5, .slice A6 L6 c6, .slice A7 L7 c7, .slice A8 L8 c8] 45)).drew) = w2 at *
          have t5 := cells_get hbx 5 (v := .slice A6 L6 c6) rfl
          have s4 := cells_get HS2.b4 0 (v := .slice (some ⟨g, o, none⟩) L c) rfl
          have f4 := cells_free HS2.b4 0
          have HC := Lib.hid HS2.cut
          have t6 : (w2.setCell ⟨w.heap.size + 4, 0, none⟩ (sliced (some ⟨g, o, none⟩) 1 L c 1)).cell? ⟨wr.heap.size, 5, none⟩ = some (.slice A6 L6 c6) := cells_get (heap_set_far hbx (by have := HS.out.b4; have := lt_of_heap this; omega)) 5 rfl
          generalize hsl : sliced (some ⟨g, o, none⟩) 1 L c 1 = vs at *
          obtain ⟨Av, Lv, cv, rfl⟩ : ∃ Av Lv cv, vs = .slice Av Lv cv := ⟨_, _, _, hsl.symm⟩
          have HSL := Lib.hid hsl
          clear hsl
          have HDE := Lib.hid HPK.out.deps
          have hdc := HPK.out.deps.cap
          clear HS2 hbx d0 d1 d2 d3 d4 d5 d6 d7 s0
          go_wp2_with (refine wpList_cut rfl (.tmp 37) rfl rfl L0 HSL.out ?_)
          generalize hw3 : w2.setCell ⟨w.heap.size + 4, 0, none⟩ (.slice Av Lv cv) = w3 at *
          clear t6 hw3 s4 f4 t5 hb hh
          have HDS := Lib.hid (Deps.start HB.out hp)
          rw [HPKE.out] at HDS
          go_loopw [42] (fun i wr => ∃ (j : Nat) (v' : Value) (met : List Int), j ≤ L6 ∧ i = .int .i64 j ∧ Hid (Deps x q (nth x.pkgs mi).deps met p j) ∧ St w wr (.slice (some ⟨b, off, none⟩) n1 k1) (.slice a2 n2 k2) (.slice Aq k cq) met v' (met.drop (p + 1))) (fun i _ => L6 - (RowKit.intOf i).toNat)
          case atStart => exact ⟨0, _, met, Nat.zero_le _, rfl, HDS, HC.out⟩
          case round =>
            clear HC HDS HS HB HP
            obtain ⟨j, v3, met, hj, rfl, HD, hst⟩ := hrel
            have HDL := Lib.hid HDE.out.len
            by_cases hlt : j < L6
            · have hjl : j < (nth x.pkgs mi).deps.length := by rw [← HDL.out]; exact hlt
              obtain ⟨b4, o4, u1, u2, u3, u4, rfl, hb4, hsa, hsb, hln, c0, c1, c2, c3, c4, c5, c6⟩ := two_at (HDE.out.below hst.bel (Nat.le_refl _)) hlt
              obtain ⟨B1, M1, C1, rfl⟩ := hsa.spans.sl
              obtain ⟨B2, M2, C2, rfl⟩ := hsa.sets.sl
              obtain ⟨B3, M3, C3, rfl⟩ := hsb.spans.sl
              obtain ⟨B4, M4, C4, rfl⟩ := hsb.sets.sl
              have HDN := Lib.hid (HD.out.step hjl)
              have HS := Lib.hid (hst.alloc (.cells #[.string (nth (nth x.pkgs mi).deps j).a.name, .slice B1 M1 C1, .slice B2 M2 C2, .string (nth (nth x.pkgs mi).deps j).b.name, .slice B3 M3 C3, .slice B4 M4 C4, .int .i64 (nth (nth x.pkgs mi).deps j).line] 80))
              clear hst hsa hsb hjl
              go_wp2_with fail
              refine (name_any w _ _ _ _ v3 met (met.drop (p + 1)) x _ _ _ HS.out HR.out HL.out HD.out.bfs.nodup (fun t ht => (HD.out.bfs.sound t ht).range) (by rw [List.length_drop]; omega) ⟨_, _, _, rfl⟩ ⟨_, _, _, rfl⟩).mono ?_
              rintro e w4 ⟨rfl, v4, ext, he, hst2⟩
              have HST := Lib.hid hst2
              have HE := Lib.hid he
              clear hst2 he c0 c1 c2 c3 c4 c5 c6
              go_wp2
              go_roundw
              case rel => exact ⟨j + 1, v4, met ++ ext, by omega, by go_num, by rw [← HE.out]; exact HDN, by rw [List.drop_append_of_le_length (by have := HD.out.lt; omega)]; exact HST.out⟩
              case measure => simp [RowKit.intOf]; omega
            · obtain rfl : j = L6 := by omega
              have HBN := Lib.hid (HD.out.finish (by rw [HDL.out]; exact Nat.le_refl _))
              have hpl := HD.out.lt
              have hml := HD.out.bfs.len
              have HS := Lib.hid hst
              clear hst
              go_wp2
              go_roundg (x.pkgs.length - (p + 1))
              case measure => omega
              case rel => exact ⟨p + 1, met, v3, rfl, HBN, HS.out⟩
        · have hL0 : L = 0 := by omega
          subst hL0
          have HE := Lib.hid (HB.out.end (by omega))
          have HS := Lib.hid hst
          have l3 := cells_get hst.b3 0 (v := .map (some (w.heap.size + 2))) rfl
          clear hst hL
          have HML := Lib.hid (HB.out.len)
          clear HB
          go_wp2_with fail
          refine (keys_is _ _).mono ?_
          rintro e w1 ⟨rfl, rfl⟩
          go_wp2_with fail
          refine (sorted_keys wr (w.heap.size + 2) met HS.out.set (Nat.le_trans HML.out (Nat.le_trans HL.out (by omega)))).mono ?_
          rintro e w2 ⟨A9, n9, c9, rfl, hown, hb⟩
          have HO := Lib.hid hown
          have HB2 := Lib.hid (HS.out.step hb).bel
          clear hown hb l3
          go_wp2
          go_ret
          exact ⟨_, _, _, rfl, by rw [← HE.out]; exact HO.out.base HS.out.bel.size, HB2.out⟩
end Go.Proofs.Ytggejmojbebhfaa.Rc
