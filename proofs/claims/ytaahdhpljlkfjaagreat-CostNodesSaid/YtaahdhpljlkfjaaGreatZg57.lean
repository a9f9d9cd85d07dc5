/- A graph put together of two parts: plain mathematics; and a row's parts. -/
import Derived.Test.YtaahdhpljlkfjaaGreatZg46
import Derived.Test.YtaahdhpljlkfjaaGreatZg47
import Derived.Test.YtaahdhpljlkfjaaGreatZg54
import Derived.Test.YtaahdhpljlkfjaaGreatZg55
import Derived.Deep.CutRange
import Derived.Deep.CutBlock
import Derived.Lib.QuietBelow
import Derived.BigQuiet
import Derived.Test.YtaahdhpljlkfjaaGreatRows
import Derived.WalkKit
import Derived.ProofKit
import Derived.OpenShut
import Derived.ShutString
import Derived.ChangeOld
import Derived.Below
namespace Go.Proofs.YtaahdhpljlkfjaaGreat.Rc
open Go.RowKit

theorem cost_parts (x : Rec) (q : List Root) (g : List Node) (k : Nat) {i : Nat} (hi : i < 6) (h3 : i ≠ 3) : nth (costL x q g) i = nth (costL x q (g.take k)) i + nth (costL x q (g.drop k)) i := by
  have hs : ∀ f : Node → Int, sumL f g = sumL f (g.take k) + sumL f (g.drop k) := fun f => by rw [← sumL_app, List.take_append_drop]
  match i, hi, h3 with
  | 0, _, _ => exact hs (fOld x)
  | 1, _, _ => exact hs (fRoot x q)
  | 2, _, _ => exact hs (fUn x)
  | 3, _, h => exact absurd rfl h
  | 4, _, _ => exact hs (fOther x q)
  | 5, _, _ =>
    show (g.length : Int) = ((g.take k).length : Int) + ((g.drop k).length : Int)
    rw [List.length_take, List.length_drop]; omega
theorem needed_mono {x : Rec} {q : List Root} {g : List Node} {k : Nat} {s : ByteArray} (h : neededB x q (g.take k) s = true) : neededB x q g s = true := by
  unfold neededB at *
  rw [Bool.or_eq_true] at *
  refine h.imp id fun h => ?_
  obtain ⟨n, hn, hp⟩ := List.any_eq_true.1 h
  exact List.any_eq_true.2 ⟨n, List.mem_of_mem_take hn, hp⟩
theorem sumV_mono {x : Rec} (hp : ∀ f ∈ x.prefs, f.names.length ≤ 50) {Q R : ByteArray → Bool} (h : ∀ s, Q s = true → R s = true) (p : Pkg) : ∀ k, sumV x Q p k ≤ sumV x R p k
  | 0 => Int.le_refl _
  | k + 1 => by
    have ih := sumV_mono hp h p k
    have hn := (pref_le hp (nth p.prov k) p.name).1
    unfold sumV oneV
    cases hq : Q (nth p.prov k) with
    | true => rw [h _ hq]; omega
    | false =>
      rw [Bool.false_and, if_neg (by decide)]
      split <;> omega
theorem sumL_mono {α : Type} {f g : α → Int} {l : List α} (h : ∀ a ∈ l, f a ≤ g a) : sumL f l ≤ sumL g l := by
  induction l with
  | nil => exact Int.le_refl _
  | cons a l ih =>
    rw [sumL_cons, sumL_cons]
    have h1 := h a (by simp)
    have h2 := ih fun b hb => h b (by simp [hb])
    omega
theorem cost_vir {x : Rec} {g : List Node} (h : Tame x g) (q : List Root) (k : Nat) : nth (costL x q (g.take k)) 3 ≤ nth (costL x q g) 3 := by
  show sumL (fVir x q (g.take k)) (g.take k) ≤ sumL (fVir x q g) g
  have h1 : sumL (fVir x q (g.take k)) (g.take k) ≤ sumL (fVir x q g) (g.take k) := by
    refine sumL_mono fun n _ => ?_
    unfold fVir
    split
    · refine sumV_mono h.prefs (fun s hs => ?_) _ _
      unfold goodV at *
      rw [Bool.and_eq_true] at *
      exact ⟨hs.1, needed_mono hs.2⟩
    · exact Int.le_refl _
  have h2 : sumL (fVir x q g) g = sumL (fVir x q g) (g.take k) + sumL (fVir x q g) (g.drop k) := by rw [← sumL_app, List.take_append_drop]
  have h3 := (sumL_le (f := fVir x q g) (B := 2500) (l := g.drop k) fun n hn => vir_le h q (List.mem_of_mem_drop hn)).1
  omega
theorem Tame.drop {x : Rec} {g : List Node} (h : Tame x g) (k : Nat) : Tame x (g.drop k) := ⟨h.small, h.prefs, by have := h.len; rw [List.length_drop]; omega, fun n hn => h.sets n (List.mem_of_mem_drop hn)⟩
theorem cost_le {x : Rec} {g : List Node} (h : Tame x g) (q : List Root) {i : Nat} (hi : i < 6) : 0 ≤ nth (costL x q g) i ∧ nth (costL x q g) i ≤ 80000 := by
  have hs : Sums x q g (g.take g.length) (sumL (fOld x) g) (sumL (fRoot x q) g) (sumL (fUn x) g) (sumL (fVir x q g) g) (sumL (fOther x q) g) := by
    rw [List.take_length]; exact ⟨rfl, rfl, rfl, rfl, rfl⟩
  have hb := hs.le h
  have hl := h.len
  match i, hi with
  | 0, _ => show 0 ≤ sumL (fOld x) g ∧ sumL (fOld x) g ≤ 80000; omega
  | 1, _ => show 0 ≤ sumL (fRoot x q) g ∧ sumL (fRoot x q) g ≤ 80000; omega
  | 2, _ => show 0 ≤ sumL (fUn x) g ∧ sumL (fUn x) g ≤ 80000; omega
  | 3, _ => show 0 ≤ sumL (fVir x q g) g ∧ sumL (fVir x q g) g ≤ 80000; omega
  | 4, _ => show 0 ≤ sumL (fOther x q) g ∧ sumL (fOther x q) g ≤ 80000; omega
  | 5, _ => show 0 ≤ (g.length : Int) ∧ (g.length : Int) ≤ 80000; omega
theorem nth_drop {α : Type} [Inhabited α] (l : List α) (k j : Nat) : nth (l.drop k) j = nth l (k + j) := by unfold nth; rw [List.getElem?_drop]
/-- A part of a row, as a slice expression gives it. -/
theorem RowD.part {α : Type} [Inhabited α] {K : Kd α} {w : World} {A : Option Addr} {L c lo hi : Nat} {l : List α} (h : RowD K w (.slice A L c) l) (h1 : lo ≤ hi) (h2 : hi ≤ L) : RowD K w (sliced A lo hi c K.n) ((l.take hi).drop lo) := by
  have hL := h.len
  have hc := h.cap
  have hlen : ((l.take hi).drop lo).length = hi - lo := by rw [List.length_drop, List.length_take]; omega
  refine ⟨if c = lo then A else A.map (·.add (lo * K.n)), c - lo, by unfold sliced; rw [hlen], by rw [hlen]; omega, by unfold maxLen; omega, fun hp => ?_⟩
  rw [hlen] at hp
  obtain ⟨A', c', e, q1, q2, q3⟩ := h
  injection e with e1 e2 e3
  subst e1; subst e3
  obtain ⟨b, off, rfl, hb, hcell⟩ := q3 (by omega)
  refine ⟨b, off + lo * K.n, by rw [if_neg (by omega), Option.map_some, add_spot rfl], hb, fun j hj => ?_⟩
  rw [hlen] at hj
  obtain ⟨cs, g1, g2⟩ := hcell (lo + j) (by omega)
  refine ⟨cs, by rw [nth_drop, nth_take (by omega)]; exact g1, fun i hi' => ?_⟩
  rw [show off + lo * K.n + j * K.n + i = off + (lo + j) * K.n + i by rw [Nat.add_mul]; omega]
  exact g2 i hi'
theorem RowD.lo {α : Type} [Inhabited α] {K : Kd α} {w : World} {A : Option Addr} {L c k : Nat} {l : List α} (h : RowD K w (.slice A L c) l) (hk : k ≤ L) : RowD K w (sliced A 0 k c K.n) (l.take k) := h.part (Nat.zero_le _) hk
theorem RowD.hi {α : Type} [Inhabited α] {K : Kd α} {w : World} {A : Option Addr} {L c k : Nat} {l : List α} (h : RowD K w (.slice A L c) l) (hk : k ≤ L) : RowD K w (sliced A k L c K.n) (l.drop k) := by
  have := h.part hk (Nat.le_refl _)
  rwa [h.len, List.take_length, ← h.len] at this
end Go.Proofs.YtaahdhpljlkfjaaGreat.Rc

/- CostNodes' walk. -/
namespace Go.Proofs.YtaahdhpljlkfjaaGreat.Rc
open Go.RowKit Go.Sort

set_option maxRecDepth 100000 in
set_option maxHeartbeats 6400000 in
theorem costNodes_any (w : World) (v1 v2 vq vg : Value) (m : Int) (x : Rec) (q : List Root) (g : List Node) (h : IsRec w v1 v2 x) (hq : RowD rootK w vq q) (hg : RowD nodeK w vg g) (hm : (Lit.int .u8 m).wf = true) :
    Calls Tryz.prog 4 #[.agg #[v1, v2], .agg #[vq], .agg #[vg], .int .u8 m] w fun e w' => e = .returned (.bool true) ∧ Below w.heap.size w w' := by
  obtain ⟨A1, L1, c1, A2, L2, c2, rfl, rfl, hL1, hL2, hc1, hm1, hc2, hm2⟩ := rec_box h
  obtain ⟨A3, L3, c3, rfl⟩ := hq.sl
  obtain ⟨A4, L4, c4, rfl⟩ := hg.sl
  have HX0 := Lib.hid (Bxs.three w #[.slice A1 L1 c1, .slice A2 L2 c2] 25 #[.slice A3 L3 c3] 28 #[.slice A4 L4 c4] 31)
  have HR := Lib.hid h
  have HQ := Lib.hid hq
  have HG := Lib.hid hg
  have HGL := Lib.hid hg.len
  have hcg := hg.cap
  obtain ⟨n, rfl⟩ : ∃ n : Nat, m = n := ⟨m.toNat, by have := bounds_u8 hm; omega⟩
  have hn := bounds_u8 hm
  clear h hq hg hL1 hL2 hc1 hm1 hc2 hm2 hm
  go_enter Tryz.func4, Tryz.ntmps4
  go_wp2_with fail
  simp only [Nat.add_assoc, Nat.reduceAdd]
  refine (great07P_any _ _ _ x (HR.out.below HX0.out.bel (Nat.le_refl _))).mono ?_
  rintro e w1 ⟨b, rfl, hs, hb⟩
  have HX1 := Lib.hid (HX0.out.step hb)
  clear hb HX0
  cases b with
  | true =>
    clear hs
    go_wp2_with fail
    refine (fixed24_any _).mono ?_
    rintro e w9 ⟨rfl, hb9⟩
    have HB9 := Lib.hid (HX1.out.bel.trans (hb9.mono HX1.out.bel.size))
    clear hb9
    go_wp2
    go_ret
    exact ⟨rfl, HB9.out⟩
  | false =>
    have HS1 := Lib.hid (hs rfl)
    clear hs
    have x2 := HX1.out.get 1 0 (v := .slice A3 L3 c3) rfl rfl
    go_wp2_with fail
    refine (great08_any _ _ q (HQ.out.below HX1.out.bel (Nat.le_refl _))).mono ?_
    rintro e w2 ⟨b, rfl, hs, hb⟩
    have HX2 := Lib.hid (HX1.out.step hb)
    clear hb HX1 x2
    cases b with
    | true =>
      clear hs
      go_wp2_with fail
      refine (fixed24_any _).mono ?_
      rintro e w9 ⟨rfl, hb9⟩
      have HB9 := Lib.hid (HX2.out.bel.trans (hb9.mono HX2.out.bel.size))
      clear hb9
      go_wp2
      go_ret
      exact ⟨rfl, HB9.out⟩
    | false =>
      have HS2 := Lib.hid (hs rfl)
      clear hs
      have x3 := HX2.out.get 2 0 (v := .slice A4 L4 c4) rfl rfl
      go_wp2_with fail
      refine (greatGraph_any _ _ g (HG.out.below HX2.out.bel (Nat.le_refl _))).mono ?_
      rintro e w3 ⟨b, rfl, hs, hb⟩
      have HX3 := Lib.hid (HX2.out.step hb)
      clear hb HX2 x3
      cases b with
      | true =>
        clear hs
        go_wp2_with fail
        refine (fixed24_any _).mono ?_
        rintro e w9 ⟨rfl, hb9⟩
        have HB9 := Lib.hid (HX3.out.bel.trans (hb9.mono HX3.out.bel.size))
        clear hb9
        go_wp2
        go_ret
        exact ⟨rfl, HB9.out⟩
      | false =>
        have HS3 := Lib.hid (hs rfl)
        clear hs
        have x0 := HX3.out.get 0 0 (v := .slice A1 L1 c1) rfl rfl
        have x1 := HX3.out.get 0 1 (v := .slice A2 L2 c2) rfl rfl
        have x2 := HX3.out.get 1 0 (v := .slice A3 L3 c3) rfl rfl
        rw [Nat.add_zero] at x0 x1
        go_wp2_with fail
        refine (odd24_any _ _ _ _ x q (HR.out.below HX3.out.bel (Nat.le_refl _)) (HQ.out.below HX3.out.bel (Nat.le_refl _)) HS1.out.1.pkgs).mono ?_
        rintro e w5 ⟨b, rfl, hb⟩
        have HX5 := Lib.hid (HX3.out.step hb)
        clear hb HX3 x0 x1 x2
        cases b with
        | true =>
          go_wp2_with fail
          refine (fixed24_any _).mono ?_
          rintro e w9 ⟨rfl, hb9⟩
          have HB9 := Lib.hid (HX5.out.bel.trans (hb9.mono HX5.out.bel.size))
          clear hb9
          go_wp2
          go_ret
          exact ⟨rfl, HB9.out⟩
        | false =>
          have HT := Lib.hid (show Tame x g from ⟨HS1.out.1, HS1.out.2, HS3.out.1, HS3.out.2⟩)
          have HLQ := Lib.hid HS2.out.len
          have hl30 : L4 ≤ 30 := by rw [HGL.out]; exact HT.out.len
          obtain ⟨k, hk⟩ : ∃ k, n % (L4 + 1) = k := ⟨_, rfl⟩
          have hkl : k ≤ L4 := by have := Nat.mod_lt n (show 0 < L4 + 1 by omega); omega
          have hrem : (n : Int).tmod ((L4 : Int) + 1) = (k : Int) := by rw [← hk, show ((L4 : Int) + 1) = ((L4 + 1 : Nat) : Int) by omega]; simp [Int.tmod_eq_emod_of_nonneg]
          have hw1 : IntKind.i64.wrap ((L4 : Int) + 1) = (L4 : Int) + 1 := IntWalk.i64_in _ (by omega)
          have hw2 : IntKind.i64.wrap (n : Int) = (n : Int) := IntWalk.i64_in _ (by omega)
          have hw3 : IntKind.i64.wrap (k : Int) = (k : Int) := IntWalk.i64_in _ (by omega)
          have hnz : ¬ ((L4 : Int) + 1 = 0) := by omega
          have HK := Lib.hid hkl
          obtain ⟨l, hl⟩ : ∃ l, costL x q g = l := ⟨_, rfl⟩
          obtain ⟨a, ha⟩ : ∃ a, costL x q (g.take k) = a := ⟨_, rfl⟩
          obtain ⟨b, hb⟩ : ∃ b, costL x q (g.drop k) = b := ⟨_, rfl⟩
          have HCL := Lib.hid hl
          have HCA := Lib.hid ha
          have HCB := Lib.hid hb
          clear hl ha hb hk
          have x0 := HX5.out.get 0 0 (v := .slice A1 L1 c1) rfl rfl
          have x1 := HX5.out.get 0 1 (v := .slice A2 L2 c2) rfl rfl
          have x2 := HX5.out.get 1 0 (v := .slice A3 L3 c3) rfl rfl
          have x3 := HX5.out.get 2 0 (v := .slice A4 L4 c4) rfl rfl
          rw [Nat.add_zero] at x0 x1
          go_wp2_with fail
          refine (of_is _ _ _ _ _ x q g (HR.out.below HX5.out.bel (Nat.le_refl _)) (HQ.out.below HX5.out.bel (Nat.le_refl _)) (HG.out.below HX5.out.bel (Nat.le_refl _)) HT.out HLQ.out).mono ?_
          rw [HCL.out]
          rintro e w6 ⟨rfl, hb⟩
          have HX6 := Lib.hid (HX5.out.step hb)
          clear hb HX5 x0 x1 x2 x3
          have hn0 := heap_alloc_new w6 (.cells (costA l) 38)
          have hbl := below_alloc' w6 (.cells (costA l) 38)
          obtain ⟨B0, hB0⟩ : ∃ B0, w6.heap.size = B0 := ⟨_, rfl⟩
          have HE0 := Lib.hid hB0
          have HT0 := Lib.hid (show w.heap.size + 3 ≤ B0 by rw [← hB0]; exact HX6.out.top)
          unfold costA at hn0 hbl
          unfold costV
          have x0 := HX6.out.get 0 0 (v := .slice A1 L1 c1) rfl rfl
          have x1 := HX6.out.get 0 1 (v := .slice A2 L2 c2) rfl rfl
          have x2 := HX6.out.get 1 0 (v := .slice A3 L3 c3) rfl rfl
          have x3 := HX6.out.get 2 0 (v := .slice A4 L4 c4) rfl rfl
          rw [Nat.add_zero] at x0 x1
          go_wp2_with fail
          rw [HE0.out] at hn0
          generalize hw7 : w6.alloc (Obj.cells #[.int .i64 (nth l 0), .int .i64 (nth l 1), .int .i64 (nth l 2), .int .i64 (nth l 3), .int .i64 (nth l 4), .int .i64 (nth l 5)] 38) = w7 at hn0 hbl ⊢
          have HX7 := Lib.hid (HX6.out.step hbl)
          have HN0 := Lib.hid (show w7.heap[B0]? = some (.cells (costA l) 38 (0, 0)) from hn0)
          have HLO := Lib.hid (HG.out.take HK.out)
          obtain ⟨AH, hAH⟩ : ∃ a, (if c4 = k then A4 else Option.map (fun x => x.add (k * 4)) A4) = a := ⟨_, rfl⟩
          have HHI := Lib.hid (show RowD nodeK w (.slice AH (L4 - k) (c4 - k)) (g.drop k) by rw [← hAH]; exact HG.out.hi HK.out)
          have kc0 : (0 : Int) ≤ (k : Int) := by omega
          have kc1 : (k : Int) ≤ (c4 : Int) := by have := hcg.1; omega
          have kc2 : (k : Int) ≤ (L4 : Int) := by omega
          clear hn0 hbl hw7 hB0 x0 x1 x2 x3
          refine wp_region_held_drew (S := fun W => Bxs w W [(#[.slice A1 L1 c1, .slice A2 L2 c2], 25), (#[.slice A3 L3 c3], 28), (#[.slice A4 L4 c4], 31)] ∧ W.heap[B0]? = some (.cells (costA l) 38 (0, 0))) (by kernel_rfl) ⟨HX7.out.drew, HN0.out⟩ (fun hS0 => ?_)
          refine wpAnyH_take (i := 0) (v := .agg #[.slice A1 L1 c1, .slice A2 L2 c2]) rfl (by kernel_rfl) (by kernel_rfl) (by kernel_rfl) (fun _ _ _ h => h) (Or.inl ⟨by rfl, ?_⟩) hS0 ?_
          · intro W hW
            have hW := hW.1
            have q0 := hW.get 0 0 (v := .slice A1 L1 c1) rfl rfl
            have q1 := hW.get 0 1 (v := .slice A2 L2 c2) rfl rfl
            have q2 := hW.get 1 0 (v := .slice A3 L3 c3) rfl rfl
            have q3 := hW.get 2 0 (v := .slice A4 L4 c4) rfl rfl
            rw [Nat.add_zero] at q0 q1
            clear hW
            go_simp
          refine wpAnyH_take (i := 1) (v := .agg #[.slice A3 L3 c3]) rfl (by kernel_rfl) (by kernel_rfl) (by kernel_rfl) (fun _ _ _ h => h) (Or.inl ⟨by rfl, ?_⟩) hS0 ?_
          · intro W hW
            have hW := hW.1
            have q0 := hW.get 0 0 (v := .slice A1 L1 c1) rfl rfl
            have q1 := hW.get 0 1 (v := .slice A2 L2 c2) rfl rfl
            have q2 := hW.get 1 0 (v := .slice A3 L3 c3) rfl rfl
            have q3 := hW.get 2 0 (v := .slice A4 L4 c4) rfl rfl
            rw [Nat.add_zero] at q0 q1
            clear hW
            go_simp
          refine wpAnyH_take (i := 2) (v := .pointer (some ⟨w.heap.size + 2, 0, none⟩)) rfl (by kernel_rfl) (by kernel_rfl) (by kernel_rfl) (fun _ _ _ h => h) (Or.inl ⟨by rfl, ?_⟩) hS0 ?_
          · intro W hW
            have hW := hW.1
            have q0 := hW.get 0 0 (v := .slice A1 L1 c1) rfl rfl
            have q1 := hW.get 0 1 (v := .slice A2 L2 c2) rfl rfl
            have q2 := hW.get 1 0 (v := .slice A3 L3 c3) rfl rfl
            have q3 := hW.get 2 0 (v := .slice A4 L4 c4) rfl rfl
            rw [Nat.add_zero] at q0 q1
            clear hW
            go_simp
          refine wpAnyH_take (i := 3) (v := .slice A4 L4 c4) rfl (by kernel_rfl) (by kernel_rfl) (by kernel_rfl) (fun _ _ _ h => h) (Or.inl ⟨by rfl, ?_⟩) hS0 ?_
          · intro W hW
            have hW := hW.1
            have q0 := hW.get 0 0 (v := .slice A1 L1 c1) rfl rfl
            have q1 := hW.get 0 1 (v := .slice A2 L2 c2) rfl rfl
            have q2 := hW.get 1 0 (v := .slice A3 L3 c3) rfl rfl
            have q3 := hW.get 2 0 (v := .slice A4 L4 c4) rfl rfl
            rw [Nat.add_zero] at q0 q1
            clear hW
            go_simp
          refine wpAnyH_take (i := 4) (v := .int .i64 (k : Int)) rfl (by kernel_rfl) (by kernel_rfl) (by kernel_rfl) (fun _ _ _ h => h) (Or.inl ⟨by rfl, ?_⟩) hS0 ?_
          · intro W hW
            have hW := hW.1
            have q0 := hW.get 0 0 (v := .slice A1 L1 c1) rfl rfl
            have q1 := hW.get 0 1 (v := .slice A2 L2 c2) rfl rfl
            have q2 := hW.get 1 0 (v := .slice A3 L3 c3) rfl rfl
            have q3 := hW.get 2 0 (v := .slice A4 L4 c4) rfl rfl
            rw [Nat.add_zero] at q0 q1
            clear hW
            go_simp
          refine wpAnyH_take (i := 5) (v := .slice A4 k c4) rfl (by kernel_rfl) (by kernel_rfl) (by kernel_rfl) (fun _ _ _ h => h) (Or.inl ⟨by rfl, ?_⟩) hS0 ?_
          · intro W hW
            have hW := hW.1
            have q0 := hW.get 0 0 (v := .slice A1 L1 c1) rfl rfl
            have q1 := hW.get 0 1 (v := .slice A2 L2 c2) rfl rfl
            have q2 := hW.get 1 0 (v := .slice A3 L3 c3) rfl rfl
            have q3 := hW.get 2 0 (v := .slice A4 L4 c4) rfl rfl
            rw [Nat.add_zero] at q0 q1
            clear hW
            go_simp
          refine wpAnyH_take (i := 6) (v := .agg #[.slice A4 k c4]) rfl (by kernel_rfl) (by kernel_rfl) (by kernel_rfl) (fun _ _ _ h => h) (Or.inl ⟨by rfl, ?_⟩) hS0 ?_
          · intro W hW
            have hW := hW.1
            have q0 := hW.get 0 0 (v := .slice A1 L1 c1) rfl rfl
            have q1 := hW.get 0 1 (v := .slice A2 L2 c2) rfl rfl
            have q2 := hW.get 1 0 (v := .slice A3 L3 c3) rfl rfl
            have q3 := hW.get 2 0 (v := .slice A4 L4 c4) rfl rfl
            rw [Nat.add_zero] at q0 q1
            clear hW
            go_simp
          refine wpAnyH_take (i := 8) (v := .agg #[.slice A1 L1 c1, .slice A2 L2 c2]) rfl (by kernel_rfl) (by kernel_rfl) (by kernel_rfl) (fun _ _ _ h => h) (Or.inl ⟨by rfl, ?_⟩) hS0 ?_
          · intro W hW
            have hW := hW.1
            have q0 := hW.get 0 0 (v := .slice A1 L1 c1) rfl rfl
            have q1 := hW.get 0 1 (v := .slice A2 L2 c2) rfl rfl
            have q2 := hW.get 1 0 (v := .slice A3 L3 c3) rfl rfl
            have q3 := hW.get 2 0 (v := .slice A4 L4 c4) rfl rfl
            rw [Nat.add_zero] at q0 q1
            clear hW
            go_simp
          refine wpAnyH_take (i := 9) (v := .agg #[.slice A3 L3 c3]) rfl (by kernel_rfl) (by kernel_rfl) (by kernel_rfl) (fun _ _ _ h => h) (Or.inl ⟨by rfl, ?_⟩) hS0 ?_
          · intro W hW
            have hW := hW.1
            have q0 := hW.get 0 0 (v := .slice A1 L1 c1) rfl rfl
            have q1 := hW.get 0 1 (v := .slice A2 L2 c2) rfl rfl
            have q2 := hW.get 1 0 (v := .slice A3 L3 c3) rfl rfl
            have q3 := hW.get 2 0 (v := .slice A4 L4 c4) rfl rfl
            rw [Nat.add_zero] at q0 q1
            clear hW
            go_simp
          refine wpAnyH_take (i := 10) (v := .pointer (some ⟨w.heap.size + 2, 0, none⟩)) rfl (by kernel_rfl) (by kernel_rfl) (by kernel_rfl) (fun _ _ _ h => h) (Or.inl ⟨by rfl, ?_⟩) hS0 ?_
          · intro W hW
            have hW := hW.1
            have q0 := hW.get 0 0 (v := .slice A1 L1 c1) rfl rfl
            have q1 := hW.get 0 1 (v := .slice A2 L2 c2) rfl rfl
            have q2 := hW.get 1 0 (v := .slice A3 L3 c3) rfl rfl
            have q3 := hW.get 2 0 (v := .slice A4 L4 c4) rfl rfl
            rw [Nat.add_zero] at q0 q1
            clear hW
            go_simp
          refine wpAnyH_take (i := 11) (v := .slice A4 L4 c4) rfl (by kernel_rfl) (by kernel_rfl) (by kernel_rfl) (fun _ _ _ h => h) (Or.inl ⟨by rfl, ?_⟩) hS0 ?_
          · intro W hW
            have hW := hW.1
            have q0 := hW.get 0 0 (v := .slice A1 L1 c1) rfl rfl
            have q1 := hW.get 0 1 (v := .slice A2 L2 c2) rfl rfl
            have q2 := hW.get 1 0 (v := .slice A3 L3 c3) rfl rfl
            have q3 := hW.get 2 0 (v := .slice A4 L4 c4) rfl rfl
            rw [Nat.add_zero] at q0 q1
            clear hW
            go_simp
          refine wpAnyH_take (i := 12) (v := .int .i64 (k : Int)) rfl (by kernel_rfl) (by kernel_rfl) (by kernel_rfl) (fun _ _ _ h => h) (Or.inl ⟨by rfl, ?_⟩) hS0 ?_
          · intro W hW
            have hW := hW.1
            have q0 := hW.get 0 0 (v := .slice A1 L1 c1) rfl rfl
            have q1 := hW.get 0 1 (v := .slice A2 L2 c2) rfl rfl
            have q2 := hW.get 1 0 (v := .slice A3 L3 c3) rfl rfl
            have q3 := hW.get 2 0 (v := .slice A4 L4 c4) rfl rfl
            rw [Nat.add_zero] at q0 q1
            clear hW
            go_simp
          refine wpAnyH_take (i := 13) (v := .slice AH (L4 - k) (c4 - k)) rfl (by kernel_rfl) (by kernel_rfl) (by kernel_rfl) (fun _ _ _ h => h) (Or.inl ⟨by rfl, ?_⟩) hS0 ?_
          · intro W hW
            have hW := hW.1
            have q0 := hW.get 0 0 (v := .slice A1 L1 c1) rfl rfl
            have q1 := hW.get 0 1 (v := .slice A2 L2 c2) rfl rfl
            have q2 := hW.get 1 0 (v := .slice A3 L3 c3) rfl rfl
            have q3 := hW.get 2 0 (v := .slice A4 L4 c4) rfl rfl
            rw [Nat.add_zero] at q0 q1
            clear hW
            go_simp
            try exact hAH
          refine wpAnyH_take (i := 14) (v := .agg #[.slice AH (L4 - k) (c4 - k)]) rfl (by kernel_rfl) (by kernel_rfl) (by kernel_rfl) (fun _ _ _ h => h) (Or.inl ⟨by rfl, ?_⟩) hS0 ?_
          · intro W hW
            have hW := hW.1
            have q0 := hW.get 0 0 (v := .slice A1 L1 c1) rfl rfl
            have q1 := hW.get 0 1 (v := .slice A2 L2 c2) rfl rfl
            have q2 := hW.get 1 0 (v := .slice A3 L3 c3) rfl rfl
            have q3 := hW.get 2 0 (v := .slice A4 L4 c4) rfl rfl
            rw [Nat.add_zero] at q0 q1
            clear hW
            go_simp
          go_simp
          refine Co.two_boxes (S := fun W => Bxs w W [(#[.slice A1 L1 c1, .slice A2 L2 c2], 25), (#[.slice A3 L3 c3], 28), (#[.slice A4 L4 c4], 31)] ∧ W.heap[B0]? = some (.cells (costA l) 38 (0, 0))) (A := fun v1 v2 v3 v4 => { tmps := #[.agg #[.slice A1 L1 c1, .slice A2 L2 c2], .agg #[.slice A3 L3 c3], .agg #[.slice A4 L4 c4], .int .u8 (n : Int), .pointer (some ⟨w.heap.size, 0, none⟩), .pointer (some ⟨w.heap.size + 1, 0, none⟩), .pointer (some ⟨w.heap.size + 2, 0, none⟩), undef, .bool false, .int .i64 (k : Int), .pointer (some ⟨B0, 0, none⟩), v3, v4, undef, .agg #[.slice A1 L1 c1, .slice A2 L2 c2], .bool false, .bool false, .agg #[.slice A3 L3 c3], .bool false, .bool false, .bool false, .agg #[.slice A4 L4 c4], .bool false, .bool false, .bool false, .agg #[.slice A1 L1 c1, .slice A2 L2 c2], .agg #[.slice A3 L3 c3], .bool false, .bool false, undef, .int .u8 (n : Int), .int .i64 (n : Int), .pointer (some ⟨w.heap.size + 2, 0, none⟩), .slice A4 L4 c4, .int .i64 (L4 : Int), .int .i64 ((L4 : Int) + 1), .int .i64 (k : Int), .agg #[.slice A1 L1 c1, .slice A2 L2 c2], .agg #[.slice A3 L3 c3], .agg #[.slice A4 L4 c4], .agg #[.int .i64 (nth l 0), .int .i64 (nth l 1), .int .i64 (nth l 2), .int .i64 (nth l 3), .int .i64 (nth l 4), .int .i64 (nth l 5)], .agg #[.slice A1 L1 c1, .slice A2 L2 c2], .agg #[.slice A3 L3 c3], .pointer (some ⟨w.heap.size + 2, 0, none⟩), .slice A4 L4 c4, .int .i64 (k : Int), .slice A4 k c4, .agg #[.slice A4 k c4], v1, .agg #[.slice A1 L1 c1, .slice A2 L2 c2], .agg #[.slice A3 L3 c3], .pointer (some ⟨w.heap.size + 2, 0, none⟩), .slice A4 L4 c4, .int .i64 (k : Int), .slice AH (L4 - k) (c4 - k), .agg #[.slice AH (L4 - k) (c4 - k)], v2, undef, undef, undef, undef, undef, undef, undef, undef, undef, undef, undef, undef, undef, undef, undef, undef, undef, undef, undef, undef, undef, undef, undef, undef, undef, undef, undef, undef, undef, undef, undef, undef, undef, undef, undef], defers := [] }) (V1 := costV a) (V2 := costV b) (cs1 := costA a) (cs2 := costA b) (z := #[.int .i64 0, .int .i64 0, .int .i64 0, .int .i64 0, .int .i64 0, .int .i64 0]) (T := 38) (N := B0 + 1) (J := fun W => Bxs w W [(#[.slice A1 L1 c1, .slice A2 L2 c2], 25), (#[.slice A3 L3 c3], 28), (#[.slice A4 L4 c4], 31)] ∧ W.heap[B0]? = some (.cells (costA l) 38 (0, 0))) (c1 := 7) (c2 := 15) (p1 := 16) (p2 := 17) (s1 := 18) (s2 := 19)
            (Co.upward_of (by kernel_rfl)) (by decide) (by kernel_rfl) (Co.core_of (by kernel_rfl)) (Co.free_of (by kernel_rfl)) (Nat.le_of_ble_eq_true (by kernel_rfl))
            rfl rfl rfl rfl rfl rfl rfl rfl rfl rfl rfl rfl
            (Co.waits_of (by kernel_rfl)) (Co.waits_of (by kernel_rfl)) (Co.waits_of (by kernel_rfl)) (Co.waits_of (by kernel_rfl))
            ?_ ?_ ?_ ?_ ?_ ?_ (fun _ h => h) rfl rfl (fun _ _ h hb => ⟨h.1.step hb, heap_below h.2 hb⟩) (fun W B cs h hB => ⟨h.1.row (n := 3) (by have := HT0.out; omega) cs, by rw [setRow_other W B B0 cs (by omega)]; exact h.2⟩) (fun W h => lt_of_heap h.2) ?_ hS0
          · intro u1 u2 u3 u4 W K hJ hK
            dsimp only
            go_simp
            refine (of_is _ _ _ _ _ x q (g.take k) (HR.out.below hJ.1.bel (Nat.le_refl _)) (HQ.out.below hJ.1.bel (Nat.le_refl _)) (HLO.out.below hJ.1.bel (Nat.le_refl _)) (HT.out.take k) HLQ.out).mono ?_
            rw [HCA.out]
            rintro e w' ⟨rfl, hb⟩
            exact hK w' hb
          · intro u1 u2 u3 u4 W K hJ hK
            dsimp only
            go_simp
            refine (of_is _ _ _ _ _ x q (g.drop k) (HR.out.below hJ.1.bel (Nat.le_refl _)) (HQ.out.below hJ.1.bel (Nat.le_refl _)) (HHI.out.below hJ.1.bel (Nat.le_refl _)) (HT.out.drop k) HLQ.out).mono ?_
            rw [HCB.out]
            rintro e w' ⟨rfl, hb⟩
            exact hK w' hb
          · intro u1 u2 u3 u4 W K hK
            dsimp only
            go_simp
            exact hK
          · intro u1 u2 u3 u4 W K hK
            dsimp only
            go_simp
            exact hK
          · intro u2 u4 B old W K hB ho hK
            exact wp_store_row 38 (.tmp 11) (.tmp 48) rfl B (costA a) rfl rfl _ old hB (by kernel_rfl) ho (costA_one a) hK
          · intro u1 u3 B old W K hB ho hK
            exact wp_store_row 38 (.tmp 12) (.tmp 56) rfl B (costA b) rfl rfl _ old hB (by kernel_rfl) ho (costA_one b) hK
          · intro B1 B2 W hJ n1 n2 hne h1 h2
            have HXV := Lib.hid hJ.1
            have HB0 := Lib.hid hJ.2
            have HB1 := Lib.hid h1
            have HB2 := Lib.hid h2
            have HSUM := Lib.hid (show ∀ i, i < 6 → i ≠ 3 → nth l i = nth a i + nth b i from fun i hi h3 => by rw [← HCL.out, ← HCA.out, ← HCB.out]; exact cost_parts x q g k hi h3)
            have HLE := Lib.hid (show ∀ i, i < 6 → (0 ≤ nth a i ∧ nth a i ≤ 80000) ∧ 0 ≤ nth b i ∧ nth b i ≤ 80000 from fun i hi => by rw [← HCA.out, ← HCB.out]; exact ⟨cost_le (HT.out.take k) q hi, cost_le (HT.out.drop k) q hi⟩)
            have HGE := Lib.hid (show nth a 3 ≤ nth l 3 by rw [← HCL.out, ← HCA.out]; exact cost_vir HT.out q k)
            have HL5 := Lib.hid (show nth l 5 = (L4 : Int) by rw [← HCL.out, HGL.out]; rfl)
            clear hJ h1 h2 n1 n2 hne hS0 HLO HHI
            unfold costV
            dsimp only
            go_wp2
            go_loopw [57] (fun j wr => ∃ i : Nat, i ≤ 6 ∧ j = .int .i64 i ∧ Hid (Bxs w wr [(#[.slice A1 L1 c1, .slice A2 L2 c2], 25), (#[.slice A3 L3 c3], 28), (#[.slice A4 L4 c4], 31)]) ∧ Hid (wr.heap[B0]? = some (.cells (costA l) 38 (0, 0))) ∧ Hid (wr.heap[B1]? = some (.cells (costA a) 38 (0, 0))) ∧ Hid (wr.heap[B2]? = some (.cells (costA b) 38 (0, 0)))) (fun j _ => 6 - (RowKit.intOf j).toNat)
            case atStart => exact ⟨0, by omega, rfl, HXV, HB0, HB1, HB2⟩
            case round =>
              clear HXV HB0 HB1 HB2
              obtain ⟨i, hi, rfl, HXV, HB0, HB1, HB2⟩ := hrel
              by_cases hlt : i < 6
              · have i0 := index_cost hlt B0
                have i1 := index_cost hlt B1
                have i2 := index_cost hlt B2
                have y0 := cell_regrown (cells_get HB0.out i (costA_at l hlt))
                have y1 := cell_regrown (cells_get HB1.out i (costA_at a hlt))
                have y2 := cell_regrown (cells_get HB2.out i (costA_at b hlt))
                have g0 : (0 : Int) ≤ (i : Int) := by omega
                have g1 : (i : Int) < (6 : Int) := by omega
                have hle := HLE.out i hlt
                have hw : IntKind.i64.wrap (nth a i + nth b i) = nth a i + nth b i := IntWalk.i64_in _ (by omega)
                by_cases h3 : i = 3
                · obtain ⟨f1, f2⟩ : (((i : Int) == 3) = true) ∧ (((i : Int) != 3) = false) := by subst h3; exact ⟨rfl, rfl⟩
                  go_wp2_with fail
                  refine wp_region_quiet_below (by kernel_rfl) (by kernel_rfl) ?_
                  repeat (go_big_quiet_step (fail))
                  refine wpQuiet_nil ?_
                  intro w8 hw'
                  have hb : Below wr.heap.size wr w8 := by obtain ⟨⟨dq, osq⟩, hw''⟩ := hw'; rw [hw'']; exact below_regrown wr dq osq
                  have K0 := Lib.hid (heap_below HB0.out hb)
                  have K1 := Lib.hid (heap_below HB1.out hb)
                  have K2 := Lib.hid (heap_below HB2.out hb)
                  have KX := Lib.hid (HXV.out.step hb)
                  clear hw' hb y0 y1 y2
                  go_wp2
                  go_roundw
                  case rel => exact ⟨i + 1, by omega, by go_num, KX, K0, K1, K2⟩
                  case measure => simp [RowKit.intOf]; omega
                · obtain ⟨f1, f2⟩ : (((i : Int) == 3) = false) ∧ (((i : Int) != 3) = true) := int_apart (by omega)
                  obtain ⟨f3, f4⟩ := int_alike (HSUM.out i hlt h3)
                  go_wp2_with fail
                  refine wp_region_quiet_below (by kernel_rfl) (by kernel_rfl) ?_
                  repeat (go_big_quiet_step (fail))
                  refine wpQuiet_nil ?_
                  intro w8 hw'
                  have hb : Below wr.heap.size wr w8 := by obtain ⟨⟨dq, osq⟩, hw''⟩ := hw'; rw [hw'']; exact below_regrown wr dq osq
                  have K0 := Lib.hid (heap_below HB0.out hb)
                  have K1 := Lib.hid (heap_below HB1.out hb)
                  have K2 := Lib.hid (heap_below HB2.out hb)
                  have KX := Lib.hid (HXV.out.step hb)
                  clear hw' hb y0 y1 y2
                  go_wp2
                  go_roundw
                  case rel => exact ⟨i + 1, by omega, by go_num, KX, K0, K1, K2⟩
                  case measure => simp [RowKit.intOf]; omega
              · obtain rfl : i = 6 := by omega
                have hge := HGE.out
                have i3 : ∀ W : World, (Instr.indexAt 38 (.pointer (some ⟨B0, 0, none⟩)) (.int .i64 3)).run Tryz.prog W = .ok (.pointer (some ⟨B0, 3, none⟩)) W := fun W => index_cost (k := 3) (by omega) B0 W
                have i4 : ∀ W : World, (Instr.indexAt 38 (.pointer (some ⟨B1, 0, none⟩)) (.int .i64 3)).run Tryz.prog W = .ok (.pointer (some ⟨B1, 3, none⟩)) W := fun W => index_cost (k := 3) (by omega) B1 W
                have i5 : ∀ W : World, (Instr.indexAt 38 (.pointer (some ⟨B0, 0, none⟩)) (.int .i64 5)).run Tryz.prog W = .ok (.pointer (some ⟨B0, 5, none⟩)) W := fun W => index_cost (k := 5) (by omega) B0 W
                go_wp2_with fail
                refine (fixed24_any _).mono ?_
                rintro e w9 ⟨rfl, hb⟩
                have K0 := Lib.hid (heap_below HB0.out hb)
                have K1 := Lib.hid (heap_below HB1.out hb)
                have KX := Lib.hid (HXV.out.step hb)
                clear hb HB0 HB1 HB2 HXV
                have z0 := cells_get K0.out 3 (costA_at l (k := 3) (by omega))
                have z1 := cells_get K1.out 3 (costA_at a (k := 3) (by omega))
                have z2 := cells_get K0.out 5 (costA_at l (k := 5) (by omega))
                rw [HL5.out] at z2
                have x3 := KX.out.get 2 0 (v := .slice A4 L4 c4) rfl rfl
                go_wp2
                go_ret
                exact ⟨rfl, KX.out.bel⟩
theorem costNodes_w (cs0 : List Value) (x : Rec) (cs1 : List Value) (q : List Root) (cs2 : List Value) (g : List Node) (m : Int) (hm : (Lit.int .u8 m).wf = true) (w : World) (h : recK.is w cs0 x) (hq : reqK.is w cs1 q) (hg : graphK.is w cs2 g) :
    Calls Tryz.prog 4 #[.agg cs0.toArray, .agg cs1.toArray, .agg cs2.toArray, .int .u8 m] w fun e w' => e = .returned (.bool true) ∧ Below w.heap.size w w' := by
  obtain ⟨v1, v2, rfl, h⟩ := h
  obtain ⟨vq, rfl, hq⟩ := hq
  obtain ⟨vg, rfl, hg⟩ := hg
  exact costNodes_any w v1 v2 vq vg m x q g h hq hg hm
end Go.Proofs.YtaahdhpljlkfjaaGreat.Rc

/- 'CostNodes' holds at every input: the law's walk returns true and writes nothing that was there; so the row holds. No condition. -/
namespace Go.Proofs.YtaahdhpljlkfjaaGreat.costNodes
open Go.ChangeShapes Go.WideShapes Go.ChangeAt Go.RowKit
open Go.ChangeMaps (open_string shut_string)
set_option linter.unusedVariables false

theorem own : ownKnob Tryz.prog.godebug = none := by kernel_rfl
theorem laidOut : laidOutB Tryz.prog = true := by kernel_rfl

set_option maxRecDepth 100000 in
theorem lifted (os : Os) (started : os.Started) (H : Type) (enc : TypeId × Value → H) :
    ReturnsInHanded {} Tryz.checked os 4 .any (Rows.costNodesSpec.pre6 enc Tryz.prog Tryz.f4 Rows.costNodesRow.domain false) (Rows.costNodesSpec.post enc Tryz.prog Tryz.f4 false true false false) := by
  refine returnsInHanded_of_change (C := Tryz.checked) own started (by kernel_rfl) Tryz.func4
    (ChangeSpec.witness6 (enc := enc) (C := Tryz.checked) false ⟨#[], #[.agg #[.slice none 0 0, .slice none 0 0], .agg #[.slice none 0 0], .agg #[.slice none 0 0], .int .u8 0], []⟩ 8 (by kernel_rfl) (by kernel_rfl) (by kernel_rfl) (by kernel_rfl)) ?_
  intro W base args ds gs before hval0 hW hcnd _
  have hval : ∀ (j : Nat) t v, Tryz.f4.params[j]? = some t → args[j]? = some v → Value.okWide Tryz.prog W .any base t v := hval0
  have hW' := hW
  obtain ⟨p, q, hA0, hV, rfl, hfz, hnd⟩ := hW
  have hA : DataW.TrodAll enc Tryz.prog W 0 (fun _ => true) true Tryz.f4.params.toList args.toList ds p := hA0
  rw [Tryz.params4] at hA hval
  obtain ⟨v0, vs0, d0, ds0, p0, q0, hargs, rfl, rfl, h0, r0⟩ := trodAll_cons hA
  obtain ⟨v1, vs1, d1, ds1, p1, q1, rfl, rfl, rfl, h1, r1⟩ := trodAll_cons r0
  obtain ⟨v2, vs2, d2, ds2, p2, q2, rfl, rfl, rfl, h2, r2⟩ := trodAll_cons r1
  obtain ⟨v3, vs3, d3, ds3, p3, q3, rfl, rfl, rfl, h3, r3⟩ := trodAll_cons r2
  obtain ⟨rfl, rfl, rfl⟩ := trodAll_nil r3
  obtain rfl : args = #[v0, v1, v2, v3] := by cases args; simp_all
  obtain ⟨rfl, rfl⟩ := trodVars_none hV
  have k0 := h0
  have lt0 : ∀ x ∈ p0, x.block < W.heap.size := by obtain ⟨m, hm⟩ := k0; exact DataW.trod_lt m _ _ _ hm
  have k1 := h1
  have lt1 : ∀ x ∈ p1, x.block < W.heap.size := by obtain ⟨m, hm⟩ := k1; exact DataW.trod_lt m _ _ _ hm
  have k2 := h2
  have lt2 : ∀ x ∈ p2, x.block < W.heap.size := by obtain ⟨m, hm⟩ := k2; exact DataW.trod_lt m _ _ _ hm
  have k3 := h3
  have lt3 : ∀ x ∈ p3, x.block < W.heap.size := by obtain ⟨m, hm⟩ := k3; exact DataW.trod_lt m _ _ _ hm
  obtain ⟨cs0, z0, rfl, w0⟩ := Rc.open_val Tryz.underlying25 (fun h => Rc.open_rec h) (hval 0 25 v0 rfl rfl) h0
  obtain ⟨cs1, z1, rfl, w1⟩ := Rc.open_val Tryz.underlying28 (fun h => Rc.open_req h) (hval 1 28 v1 rfl rfl) h1
  obtain ⟨cs2, z2, rfl, w2⟩ := Rc.open_val Tryz.underlying31 (fun h => Rc.open_graph h) (hval 2 31 v2 rfl rfl) h2
  obtain ⟨a3, rfl, rfl, rfl, w3⟩ := open_int Tryz.underlying5 (hval 3 5 v3 rfl rfl) h3
  clear hA0 hval0
  refine (Rc.costNodes_w cs0 z0 cs1 z1 cs2 z2 a3 w3 W w0 w1 w2).mono fun e W' ⟨he, bel⟩ => ?_
  subst he
  exact ⟨_, rfl, _, _, _, [], _, [], hW', trodAll_mk1 (shut_bool Tryz.underlying4 _), (trodAll_cons_mk (Below.trod laidOut (by kernel_rfl) (of_decide_eq_true (by kernel_rfl)) k0 bel lt0) (trodAll_cons_mk (Below.trod laidOut (by kernel_rfl) (of_decide_eq_true (by kernel_rfl)) k1 bel lt1) (trodAll_cons_mk (Below.trod laidOut (by kernel_rfl) (of_decide_eq_true (by kernel_rfl)) k2 bel lt2) (trodAll_cons_mk (Below.trod laidOut (by kernel_rfl) (of_decide_eq_true (by kernel_rfl)) k3 bel lt3) trodAll_mk0)))), rfl, bel.frame _, fun h => by cases h⟩

theorem proved : Rows.CostNodesSaid :=
  OpenClaim.holds_of_wide 4 Tryz.f4 rfl rfl rfl rfl rfl rfl rfl ⟨rfl, rfl, rfl, rfl, rfl⟩ rfl rfl rfl rfl rfl (by kernel_rfl) Tryz.func4 (by kernel_rfl)
    (of_decide_eq_true (by kernel_rfl)) (by unfold Func.isWrapper; first | (rw [if_pos (by decide +kernel)]; kernel_rfl) | (rw [if_neg (by decide +kernel)]; exact ⟨rfl, rfl⟩))
    (fun os started H enc _ => lifted os started H enc)
end Go.Proofs.YtaahdhpljlkfjaaGreat.costNodes
