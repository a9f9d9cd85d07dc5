/- The packages that the roots may mean, and the closure that asks for one. -/
import Derived.Test.YtaahdhpljlkfjaaGreatZg35
import Derived.Test.YtaahdhpljlkfjaaGreatZg31
import Derived.Test.YtaahdhpljlkfjaaGreatZg38
import Derived.Test.YtaahdhpljlkfjaaGreatZg39
namespace Go.Proofs.YtaahdhpljlkfjaaGreat.Rc
open Go.RowKit

theorem elemInt : Elem intK 86 3 :=
  ⟨Tryz.underlying86, ⟨.int .i64 0, 8, by kernel_rfl, by rfl, by decide, by decide⟩, by decide, by
    rintro w cs x ⟨rfl, _⟩ u hu
    simp at hu
    subst hu; rfl⟩
theorem OwnK.fromI {e : TypeId} {w0 w w1 : World} {base : Nat} {v : Value} {l : List Int} (h : OwnK intK e w0 w base v l) : OwnK intK e w1 w base v l := by
  obtain ⟨css, h1, h2⟩ := h
  exact ⟨css, ⟨h1.1, h1.2⟩, h2⟩
def allT (x : Rec) (q : List Root) : List Int := q.flatMap fun r => targs x r.spec.name
theorem allT_snoc (x : Rec) {q : List Root} {k : Nat} (hk : k < q.length) : allT x (q.take (k + 1)) = allT x (q.take k) ++ targs x (nth q k).spec.name := by
  unfold allT; rw [take_snoc hk, List.flatMap_append]; simp
theorem allT_len {x : Rec} (h : x.pkgs.length ≤ 30) : ∀ q : List Root, (allT x q).length ≤ 31 * q.length
  | [] => Nat.le_refl _
  | r :: q => by
    have h1 := allT_len h q
    have h2 := targs_len x r.spec.name
    unfold allT at h1 ⊢
    rw [List.flatMap_cons, List.length_append, List.length_cons]
    omega
theorem allT_mem {x : Rec} {q : List Root} {i : Int} : decide (i ∈ allT x q) = rootedB x q i := by
  rw [Bool.eq_iff_iff, decide_eq_true_iff]
  unfold allT rootedB
  rw [List.mem_flatMap, List.any_eq_true]
  constructor
  · rintro ⟨r, hr, h⟩; exact ⟨r, hr, decide_eq_true h⟩
  · rintro ⟨r, hr, h⟩; exact ⟨r, hr, of_decide_eq_true h⟩
theorem containsI_is (w : World) (v : Value) (l : List Int) (n : Int) (h : RowD intK w v l) (b : Bool) (hb : decide (n ∈ l) = b) :
    Calls Tryz.prog 42 #[v, .int .i64 n] w fun e w' => e = .returned (.bool b) ∧ w = w' := by
  obtain ⟨A, L, c, rfl⟩ := h.sl
  have hL := h.len
  have hc := h.cap
  by_cases h0 : L = 0
  · subst h0
    obtain rfl : l = [] := List.eq_nil_of_length_eq_zero hL.symm
    refine (Tryz.slices_Contains_int_empty A c n w).mono ?_
    rintro e w' ⟨rfl, rfl⟩
    exact ⟨by rw [← hb]; simp, rfl⟩
  · obtain ⟨b0, off, rfl, _, _, _⟩ := int_at h (j := 0) (by omega)
    refine (Tryz.slices_Contains_int b0 off L c l n w (by omega) (by omega) (fun j hj => ?_)).mono ?_
    · obtain ⟨b1, off1, e, _, _, c0⟩ := int_at h (j := j) (by omega)
      cases e
      rw [c0, nth_lt hj]
      simp [hj]
    · rintro e w' ⟨rfl, rfl⟩
      refine ⟨?_, rfl⟩
      rw [← hb, hL, List.take_length]
      congr 2
      rw [Bool.eq_iff_iff]; simp
def RootsD (x : Rec) (q : List Root) (w : World) (e : Ending) (w' : World) : Prop := ∃ (P : Nat) (A : Option Addr) (L c : Nat), e = .returned (.func (.func 41) #[] #[.pointer (some ⟨P, 0, none⟩)]) ∧ w.heap.size ≤ P ∧ w'.heap[P]? = some (.cells #[.slice A L c] 86 (0, 0)) ∧ OwnK intK 3 w' w' w.heap.size (.slice A L c) (allT x q) ∧ Below w.heap.size w w'
theorem rooted_is (w : World) (P : Nat) (A : Option Addr) (L c : Nat) (x : Rec) (q : List Root) (i : Int) (hP : w.heap[P]? = some (.cells #[.slice A L c] 86 (0, 0))) (h : RowD intK w (.slice A L c) (allT x q)) (b : Bool) (hb : rootedB x q i = b) :
    Calls Tryz.prog 41 #[.int .i64 i, .pointer (some ⟨P, 0, none⟩)] w fun e w' => e = .returned (.bool b) ∧ w = w' := by
  have y0 := cells_get hP 0 (v := .slice A L c) rfl
  have HC := Lib.hid (containsI_is w (.slice A L c) (allT x q) i h b (by rw [allT_mem]; exact hb))
  clear h hb hP
  go_enter Tryz.func41, Tryz.ntmps41
  go_wp2_with fail
  refine HC.out.mono ?_
  rintro e w1 ⟨rfl, rfl⟩
  go_wp2
  go_ret
  exact ⟨rfl, rfl⟩
set_option maxRecDepth 100000 in
set_option maxHeartbeats 3200000 in
theorem roots_is (w : World) (v1 v2 vq : Value) (x : Rec) (q : List Root) (h : IsRec w v1 v2 x) (hq : RowD rootK w vq q) (hl : x.pkgs.length ≤ 30) (hl2 : q.length ≤ 40) :
    Calls Tryz.prog 20 #[.agg #[v1, v2], .agg #[vq]] w (RootsD x q w) := by
  obtain ⟨A1, L1, c1, A2, L2, c2, rfl, rfl, hL1, hL2, hc1, hm1, hc2, hm2⟩ := rec_box h
  obtain ⟨A3, L3, c3, rfl⟩ := hq.sl
  have HX0 := Lib.hid (Bxs.three w #[.slice A1 L1 c1, .slice A2 L2 c2] 25 #[.slice A3 L3 c3] 28 #[.slice none 0 0] 86)
  have HR := Lib.hid h
  have HQ := Lib.hid hq
  have HL := Lib.hid hq.len
  have hcq := hq.cap
  have HLX := Lib.hid (show x.pkgs.length ≤ 1000 by omega)
  have HL30 := Lib.hid hl
  have HL40 := Lib.hid hl2
  clear h hL1 hL2 hq hl hl2
  go_enter Tryz.func20, Tryz.ntmps20
  have x3 := HX0.out.get 1 0 (v := .slice A3 L3 c3) rfl rfl
  go_wp2
  simp only [Nat.add_assoc, Nat.reduceAdd]
  clear x3
  go_loopw [11] (fun j wr => ∃ (k : Nat) (A : Option Addr) (L c : Nat), k ≤ L3 ∧ j = .int .i64 k ∧ Hid (Bxs w wr [(#[.slice A1 L1 c1, .slice A2 L2 c2], 25), (#[.slice A3 L3 c3], 28), (#[.slice A L c], 86)]) ∧ Hid (OwnK intK 3 w wr w.heap.size (.slice A L c) (allT x (q.take k)))) (fun j _ => L3 - (RowKit.intOf j).toNat)
  case atStart => exact ⟨0, none, 0, 0, Nat.zero_le _, rfl, HX0, Lib.hid (OwnK.nil _ _ _ _)⟩
  case round =>
    clear HX0
    obtain ⟨k, A, L, c, hk, rfl, HX, HO⟩ := hrel
    by_cases hlt : k < L3
    · obtain ⟨bb, off, u1, u2, rfl, hbb, hs, -, p0, p1, p2, p3⟩ := root_at (HQ.out.below HX.out.bel (Nat.le_refl _)) hlt
      have hkl : k < q.length := by rw [← HL.out]; exact hlt
      have HSN := Lib.hid (allT_snoc x hkl)
      have HLEN := Lib.hid (show (allT x (q.take k)).length ≤ 1240 by
        have h1 := allT_len HL30.out (q.take k)
        have h2 := HL40.out
        rw [List.length_take] at h1; omega)
      obtain ⟨r, hr⟩ : ∃ r, nth q k = r := ⟨_, rfl⟩
      rw [hr] at hs p0 p3 HSN
      obtain ⟨B1, M1, d1, rfl⟩ := hs.spans.sl
      obtain ⟨B2, M2, d2, rfl⟩ := hs.sets.sl
      have HTL := Lib.hid (show (allT x (q.take k)).length + (targs x r.spec.name).length ≤ 100000 by
        have h1 := targs_len x r.spec.name
        have h2 := HLX.out
        have h3 := HLEN.out
        omega)
      have hbl := below_alloc' wr (.cells #[.string r.spec.name, .slice B1 M1 d1, .slice B2 M2 d2, .int .i64 r.line] 61)
      have hnew := heap_alloc_new wr (.cells #[.string r.spec.name, .slice B1 M1 d1, .slice B2 M2 d2, .int .i64 r.line] 61)
      have g0 : (0 : Int) ≤ (k : Int) := by omega
      have g1 : (k : Int) < (L3 : Int) := by omega
      have HB7 := Lib.hid (show w.heap.size + 2 < wr.heap.size from lt_of_heap (HX.out.blk 2 _ _ rfl))
      clear hr hkl hs
      go_wp2_with fail
      clear p0 p1 p2 p3
      generalize wr.alloc (.cells #[.string r.spec.name, .slice B1 M1 d1, .slice B2 M2 d2, .int .i64 r.line] 61) = w1 at hbl hnew ⊢
      have HX1 := Lib.hid (HX.out.step hbl)
      have HO1 := Lib.hid (HO.out.below hbl)
      obtain ⟨b7, hb7⟩ : ∃ b7, wr.heap.size = b7 := ⟨_, rfl⟩
      rw [hb7] at hnew HB7 ⊢
      have HN1 := Lib.hid hnew
      have HXd := Lib.hid HX1.out.drew
      have HNd := Lib.hid (heap_below hnew (show Below w1.heap.size w1 w1.drew from ⟨rfl, rfl, rfl, Nat.le_refl _, fun _ _ => rfl⟩))
      have HOd := Lib.hid HO1.out.drew
      have x0 := HX1.out.get 0 0 (v := .slice A1 L1 c1) rfl rfl
      have x1 := HX1.out.get 0 1 (v := .slice A2 L2 c2) rfl rfl
      have x2 := HX1.out.get 2 0 (v := .slice A L c) rfl rfl
      have n0 := cells_get HN1.out 0 (v := .string r.spec.name) rfl
      rw [Nat.add_zero] at x0 x1
      have hne : ¬ b7 = w.heap.size + 2 := by have := HB7.out; omega
      have hne2 : ¬ w.heap.size = w.heap.size + 2 := by omega
      clear hbl hnew hb7 HX HO
      refine wp_region_held_drew (S := (fun W => W.cell? ⟨w.heap.size, 0, none⟩ = some (.slice A1 L1 c1) ∧ W.cell? ⟨w.heap.size, 1, none⟩ = some (.slice A2 L2 c2) ∧ W.cell? ⟨b7, 0, none⟩ = some (.string r.spec.name))) (by kernel_rfl) ⟨x0, x1, n0⟩ (fun hS0 => ?_)
      refine wpAnyH_take (i := 1) (v := .agg #[.slice A1 L1 c1, .slice A2 L2 c2]) rfl (by kernel_rfl) (by kernel_rfl) (by kernel_rfl) (fun _ _ _ h => h) (Or.inl ⟨by rfl, ?_⟩) hS0 ?_
      · (intro W hW; obtain ⟨q1, q2, q3⟩ := hW; go_simp)
      refine wpAnyH_take (i := 2) (v := .pointer (some ⟨b7, 0, none⟩)) rfl (by kernel_rfl) (by kernel_rfl) (by kernel_rfl) (fun _ _ _ h => h) (Or.inl ⟨by rfl, ?_⟩) hS0 ?_
      · (intro W hW; obtain ⟨q1, q2, q3⟩ := hW; go_simp)
      refine wpAnyH_take (i := 3) (v := .pointer (some ⟨b7, 0, none⟩)) rfl (by kernel_rfl) (by kernel_rfl) (by kernel_rfl) (fun _ _ _ h => h) (Or.inl ⟨by rfl, ?_⟩) hS0 ?_
      · (intro W hW; obtain ⟨q1, q2, q3⟩ := hW; go_simp)
      refine wpAnyH_take (i := 4) (v := .string r.spec.name) rfl (by kernel_rfl) (by kernel_rfl) (by kernel_rfl) (fun _ _ _ h => h) (Or.inl ⟨by rfl, ?_⟩) hS0 ?_
      · (intro W hW; obtain ⟨q1, q2, q3⟩ := hW; go_simp)
      refine wpAnyH_ready (rs := [0, 5]) (by kernel_rfl) (by simp) ?_
      refine AllReadyH.cons rfl (fun K hK => ?_) (AllReadyH.cons rfl (fun K hK => ?_) AllReadyH.nil)
      · go_simp
        refine hK.out _ _ ⟨x0, x1, n0⟩ (fun hS1 => ?_)
        clear hK K
        refine wpAnyH_ready (rs := [5]) (by kernel_rfl) (by simp) ?_
        refine AllReadyH.cons rfl (fun K hK => ?_) AllReadyH.nil
        go_simp
        refine (targets_any _ _ _ x _ (HR.out.below HXd.out.bel (Nat.le_refl _)) HLX.out).mono ?_
        rintro e w2 ⟨A4, L4, c4, rfl, hown, hb2⟩
        have HX2 := Lib.hid (HXd.out.step hb2)
        have HO2 := Lib.hid (HOd.out.below hb2)
        have HT2 := Lib.hid (targs_row hown HLX.out)
        have HN2 := Lib.hid (heap_below HNd.out hb2)
        have y0 := HX2.out.get 0 0 (v := .slice A1 L1 c1) rfl rfl
        have y1 := HX2.out.get 0 1 (v := .slice A2 L2 c2) rfl rfl
        have y2 := HX2.out.get 2 0 (v := .slice A L c) rfl rfl
        have m0 := cells_get HN2.out 0 (v := .string r.spec.name) rfl
        rw [Nat.add_zero] at y0 y1
        clear hown hb2
        refine hK.out _ _ ⟨y0, y1, m0⟩ (fun hS2 => ?_)
        clear hK K
        refine wpAnyH_ready (rs := [6]) (by kernel_rfl) (by simp) ?_
        refine AllReadyH.cons rfl (fun K hK => ?_) AllReadyH.nil
        refine step_app_row elemInt rfl (.tmp 15) (.tmp 20) rfl rfl rfl rfl (Below.refl _ _) HO2.out.fromI HT2.out HTL.out HX2.out.bel.size ?_
        intro A7 n7 k7 w6 hown6 hg6
        have HO6 := Lib.hid hown6
        have HX6 := Lib.hid (HX2.out.grownK HO2.out (by simp) hg6)
        have HN6 := Lib.hid (heap_grown HN2.out hg6 (fun e => (by obtain ⟨css, _, hraw⟩ := HO2.out; exact own_apart hraw HN2.out (by decide) e.symm)))
        have z0 := HX6.out.get 0 0 (v := .slice A1 L1 c1) rfl rfl
        have z1 := HX6.out.get 0 1 (v := .slice A2 L2 c2) rfl rfl
        have z2 := HX6.out.get 2 0 (v := .slice A L c) rfl rfl
        have z3 := HX6.out.free 2 0 rfl
        have o0 := cells_get HN6.out 0 (v := .string r.spec.name) rfl
        rw [Nat.add_zero] at z0 z1
        clear hown6 hg6 y0 y1 y2 m0
        refine hK.out _ _ ⟨z0, z1, o0⟩ (fun hS4 => ?_)
        clear hK K
        refine wpAnyH_ready (rs := [7]) (by kernel_rfl) (by simp) ?_
        refine AllReadyH.cons rfl (fun K hK => ?_) AllReadyH.nil
        go_simp
        have HX7 := Lib.hid (show Bxs w _ [(#[.slice A1 L1 c1, .slice A2 L2 c2], 25), (#[.slice (some ⟨bb, off, none⟩) L3 c3], 28), (#[.slice A7 n7 k7], 86)] from HX6.out.set 2 0 rfl (.slice A7 n7 k7))
        have HO7 := Lib.hid (show OwnK intK 3 w (w6.setCell ⟨w.heap.size + 2, 0, none⟩ (.slice A7 n7 k7)) w.heap.size (.slice A7 n7 k7) (allT x (q.take (k + 1))) by
          rw [HSN.out]
          exact (HO6.out.touch ((Touch.refl w6 (fun i => i = w.heap.size + 2)).set _ 0 (.slice A7 n7 k7) rfl) (fun g hg e => by
            obtain ⟨css, _, hraw⟩ := HO6.out
            exact own_apart hraw (HX6.out.blk 2 _ _ rfl) (by decide) (by rw [hg, e]))).fromI)
        have HN7 := Lib.hid (heap_set_far HN6.out hne (j := 0) (v := .slice A7 n7 k7))
        have v0 := HX7.out.get 0 0 (v := .slice A1 L1 c1) rfl rfl
        have v1 := HX7.out.get 0 1 (v := .slice A2 L2 c2) rfl rfl
        rw [Nat.add_zero] at v0 v1
        have v2 := cells_get HN7.out 0 (v := .string r.spec.name) rfl
        refine hK.out _ _ ⟨v0, v1, v2⟩ (fun hS5 => ?_)
        clear hK K
        refine wpAnyH_done (by kernel_rfl) ?_ _
        clear z0 z1 z2 z3 o0 v0 v1 v2
        go_wp2
        go_roundw
        case rel => exact ⟨k + 1, A7, n7, k7, by omega, by go_num, HX7, HO7⟩
        case measure => simp [RowKit.intOf]; omega
      · go_simp
        refine (targets_any _ _ _ x _ (HR.out.below HXd.out.bel (Nat.le_refl _)) HLX.out).mono ?_
        rintro e w2 ⟨A4, L4, c4, rfl, hown, hb2⟩
        have HX2 := Lib.hid (HXd.out.step hb2)
        have HO2 := Lib.hid (HOd.out.below hb2)
        have HT2 := Lib.hid (targs_row hown HLX.out)
        have HN2 := Lib.hid (heap_below HNd.out hb2)
        have y0 := HX2.out.get 0 0 (v := .slice A1 L1 c1) rfl rfl
        have y1 := HX2.out.get 0 1 (v := .slice A2 L2 c2) rfl rfl
        have y2 := HX2.out.get 2 0 (v := .slice A L c) rfl rfl
        have m0 := cells_get HN2.out 0 (v := .string r.spec.name) rfl
        rw [Nat.add_zero] at y0 y1
        clear hown hb2
        refine hK.out _ _ ⟨y0, y1, m0⟩ (fun hS2 => ?_)
        clear hK K
        refine wpAnyH_ready (rs := [0]) (by kernel_rfl) (by simp) ?_
        refine AllReadyH.cons rfl (fun K hK => ?_) AllReadyH.nil
        go_simp
        refine hK.out _ _ ⟨y0, y1, m0⟩ (fun hS3 => ?_)
        clear hK K
        refine wpAnyH_ready (rs := [6]) (by kernel_rfl) (by simp) ?_
        refine AllReadyH.cons rfl (fun K hK => ?_) AllReadyH.nil
        refine step_app_row elemInt rfl (.tmp 15) (.tmp 20) rfl rfl rfl rfl (Below.refl _ _) HO2.out.fromI HT2.out HTL.out HX2.out.bel.size ?_
        intro A7 n7 k7 w6 hown6 hg6
        have HO6 := Lib.hid hown6
        have HX6 := Lib.hid (HX2.out.grownK HO2.out (by simp) hg6)
        have HN6 := Lib.hid (heap_grown HN2.out hg6 (fun e => (by obtain ⟨css, _, hraw⟩ := HO2.out; exact own_apart hraw HN2.out (by decide) e.symm)))
        have z0 := HX6.out.get 0 0 (v := .slice A1 L1 c1) rfl rfl
        have z1 := HX6.out.get 0 1 (v := .slice A2 L2 c2) rfl rfl
        have z2 := HX6.out.get 2 0 (v := .slice A L c) rfl rfl
        have z3 := HX6.out.free 2 0 rfl
        have o0 := cells_get HN6.out 0 (v := .string r.spec.name) rfl
        rw [Nat.add_zero] at z0 z1
        clear hown6 hg6 y0 y1 y2 m0
        refine hK.out _ _ ⟨z0, z1, o0⟩ (fun hS4 => ?_)
        clear hK K
        refine wpAnyH_ready (rs := [7]) (by kernel_rfl) (by simp) ?_
        refine AllReadyH.cons rfl (fun K hK => ?_) AllReadyH.nil
        go_simp
        have HX7 := Lib.hid (show Bxs w _ [(#[.slice A1 L1 c1, .slice A2 L2 c2], 25), (#[.slice (some ⟨bb, off, none⟩) L3 c3], 28), (#[.slice A7 n7 k7], 86)] from HX6.out.set 2 0 rfl (.slice A7 n7 k7))
        have HO7 := Lib.hid (show OwnK intK 3 w (w6.setCell ⟨w.heap.size + 2, 0, none⟩ (.slice A7 n7 k7)) w.heap.size (.slice A7 n7 k7) (allT x (q.take (k + 1))) by
          rw [HSN.out]
          exact (HO6.out.touch ((Touch.refl w6 (fun i => i = w.heap.size + 2)).set _ 0 (.slice A7 n7 k7) rfl) (fun g hg e => by
            obtain ⟨css, _, hraw⟩ := HO6.out
            exact own_apart hraw (HX6.out.blk 2 _ _ rfl) (by decide) (by rw [hg, e]))).fromI)
        have HN7 := Lib.hid (heap_set_far HN6.out hne (j := 0) (v := .slice A7 n7 k7))
        have v0 := HX7.out.get 0 0 (v := .slice A1 L1 c1) rfl rfl
        have v1 := HX7.out.get 0 1 (v := .slice A2 L2 c2) rfl rfl
        rw [Nat.add_zero] at v0 v1
        have v2 := cells_get HN7.out 0 (v := .string r.spec.name) rfl
        refine hK.out _ _ ⟨v0, v1, v2⟩ (fun hS5 => ?_)
        clear hK K
        refine wpAnyH_done (by kernel_rfl) ?_ _
        clear z0 z1 z2 z3 o0 v0 v1 v2
        go_wp2
        go_roundw
        case rel => exact ⟨k + 1, A7, n7, k7, by omega, by go_num, HX7, HO7⟩
        case measure => simp [RowKit.intOf]; omega
    · have HF := Lib.hid (show OwnK intK 3 wr wr w.heap.size (.slice A L c) (allT x q) by
        have h1 := HO.out.fromI (w1 := wr)
        rw [show k = q.length by rw [← HL.out]; omega, List.take_length] at h1
        exact h1)
      go_wp2
      go_ret
      exact ⟨w.heap.size + 2, A, L, c, rfl, Nat.le_add_right _ _, HX.out.blk 2 _ _ rfl, HF.out, HX.out.bel⟩
end Go.Proofs.YtaahdhpljlkfjaaGreat.Rc
