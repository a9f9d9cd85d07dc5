/- version.May answers as the document says, at every text. -/
import Derived.Test.YtdijkekglaimfaaGreatDoorVerIter
import Derived.RangeFuncFrom
namespace Go.Proofs.YtdijkekglaimfaaGreatDoor.Ver
open Go.RowKit Go.Shelf
attribute [local go_sem] Oper.semAt_some

theorem all_snoc {pre : List Pt} {x : Pt} (hp : ∀ p ∈ bss pre, part p = true) (h : part x.1 = true) : ∀ p ∈ bss (pre ++ [x]), part p = true := by
  rw [bss_snoc]; intro p hp'
  rcases List.mem_append.1 hp' with h' | h'
  · exact hp p h'
  · simp at h'; subst h'; exact h

theorem isWord_is (x : Pt) (b : Bool) (h : word x.1 = b) (w : World) :
    Calls Tryz.prog 57 #[.string ⟨x.1.toArray⟩] w fun e w' => e = .returned (.bool b) ∧ w = w' := by
  have := isWord_any ⟨x.1.toArray⟩ w (by have := x.2; unfold maxLen; show x.1.toArray.size ≤ _; simp; omega)
  simpa [h] using this
theorem isNumber_is (x : Pt) (b : Bool) (h : number x.1 = b) (w : World) :
    Calls Tryz.prog 58 #[.string ⟨x.1.toArray⟩] w fun e w' => e = .returned (.bool b) ∧ w = w' := by
  have := isNumber_any ⟨x.1.toArray⟩ w (by have := x.2; unfold maxLen; show x.1.toArray.size ≤ _; simp; omega)
  simpa [h] using this

theorem may_long {l : Bs} (h : 40 < l.length) : may l = false := by
  unfold may
  have : decide (l.length ≤ 40) = false := by simpa using h
  rw [this]; rfl

set_option maxHeartbeats 800000 in
theorem may_big (s : ByteArray) (w : World) (h : 40 < s.size) :
    Calls Tryz.prog 37 #[.string s] w fun e w' => e = .returned (.bool false) ∧ Below w.heap.size w w' := by
  have h' : (40 : Int) < (s.size : Int) := by omega
  go_enter Tryz.func37, Tryz.ntmps37
  go_wp2
  refine bodyPost_ret (v := .bool false) (by simp [results, Tryz.results37, go_sem]) rfl ⟨rfl, ?_⟩
  go_grown

set_option maxHeartbeats 4000000 in
set_option maxRecDepth 100000 in
theorem may_in (s : ByteArray) (w : World) (h : s.size ≤ 40) :
    CallsIn W0 6 Tryz.prog 37 #[.string s] w fun e w' => e = .returned (.bool (may s.data.toList)) ∧ Below w.heap.size w w' := by
  have h' : ¬ (40 : Int) < (s.size : Int) := by omega
  have h1 : 1 ≤ 6 := by omega
  refine callsIn_of_wp_marks Tryz.func37 rfl trivial ?_ rfl
  simp only [Tryz.ntmps37, List.size_toArray, List.length_cons, List.length_nil, Nat.reduceAdd, Nat.reduceSub, Array.replicate_succ, Array.replicate_zero, List.push_toArray, List.append_toArray, List.nil_append, List.cons_append]
  gi_wp2_with fail
  refine ⟨trivial, ?_⟩
  refine (callsIn_wide.2 (parts_any s _)).mono ?_
  rintro e w' ⟨rfl, rfl⟩
  gi_wp2_with fail
  have c0 := cell_new_l w (.bool false) 4
  have c1 := cell_new_l (w.alloc (.cells #[.bool false] 4)) (.int .i64 0) 3
  have c2 := cell_new_l ((w.alloc (.cells #[.bool false] 4)).alloc (.cells #[.int .i64 0] 3)) (.string s) 9
  simp only [World.size_alloc] at c1 c2
  have hB0 : Below w.heap.size w (((w.alloc (.cells #[.bool false] 4)).alloc (.cells #[.int .i64 0] 3)).alloc (.cells #[.string s] 9)) := (((Below.refl _ w).alloc (Nat.le_refl _) _).alloc (by simp) _).alloc (by simp; omega) _
  refine wpIn_rangeFunc_ownF rfl h1 (gf := 76) (lb := #[.pointer (some ⟨w.heap.size + 1 + 1, 0, none⟩)]) rfl trivial (enters_of Tryz.func76 (by kernel_rfl) rfl)
    (parts_stops 5 (by omega) (w.heap.size + 1 + 1) s _ (Below w.heap.size) c2.1 (by omega)) belowK_t (belowK_b (by simp; omega)) (Below.refl _ _) (fun _ => rfl)
    (fun pre W => (((∀ p ∈ bss pre, part p = true) ∧ pre.length ≤ 8) ∧ W.cell? ⟨w.heap.size, 0, none⟩ = some (.bool false) ∧ W.frozen? ⟨w.heap.size, 0, none⟩ = false ∧ W.cell? ⟨w.heap.size + 1, 0, none⟩ = some (.int .i64 pre.length) ∧ W.frozen? ⟨w.heap.size + 1, 0, none⟩ = false) ∧ Below w.heap.size w W)
    (fun c pre W => ((c = .ret ∧ (8 < pre.length ∨ ∃ p ∈ bss pre, part p = false)) ∧ W.cell? ⟨w.heap.size, 0, none⟩ = some (.bool false)) ∧ Below w.heap.size w W)
    (OwnFrom.and (Own.from (fun s A B row hs hg hr => ⟨hs.1, cell_kept hs.2.1 hg hr, (frozen_kept hs.2.1 hg hr).trans hs.2.2.1, cell_kept hs.2.2.2.1 hg hr, (frozen_kept hs.2.2.2.1 hg hr).trans hs.2.2.2.2⟩) _) (ownFrom_below (Nat.le_refl _) (by simp; omega)))
    (fun c => OwnFrom.and (Own.from (fun s A B row hs hg hr => ⟨hs.1, cell_kept hs.2 hg hr⟩) _) (ownFrom_below (Nat.le_refl _) (by simp; omega)))
    ⟨⟨⟨by simp [bss], by simp⟩, cell_alloc_l _ (cell_alloc_l _ c0.1), frozen_alloc_l _ (cell_alloc_l _ c0.1) (frozen_alloc_l _ c0.1 c0.2), cell_alloc_l _ c1.1, frozen_alloc_l _ c1.1 c1.2⟩, hB0⟩
    (fun x => { tmps := #[.string s, undef, .pointer (some ⟨w.heap.size, 0, none⟩), .pointer (some ⟨w.heap.size + 1, 0, none⟩), .string ⟨x.1.toArray⟩, .string s, .int .i64 s.size, .bool false, .string s, .func (.func 76) #[] #[.pointer (some ⟨w.heap.size + 1 + 1, 0, none⟩)], .string ⟨x.1.toArray⟩, undef, undef, undef, undef, undef, undef, undef, undef, undef, undef, undef, undef, undef, undef], defers := [] }) ?assign ?body ?done ?stop
  case assign =>
    intro l x W K hK
    simp only [encP]
    gi_wp2
    exact hK
  case body =>
    rintro l pre x W ⟨⟨⟨hp, hl⟩, hcr, hfr, hcn, hfn⟩, hB⟩ _
    have hcr1 : (W.setCell ⟨w.heap.size + 1, 0, none⟩ (.int .i64 ((pre.length : Int) + 1))).cell? ⟨w.heap.size, 0, none⟩ = some (.bool false) := by rw [World.cell?_setCell_other _ _ _ _ (by simp)]; exact hcr
    have hfr1 : (W.setCell ⟨w.heap.size + 1, 0, none⟩ (.int .i64 ((pre.length : Int) + 1))).frozen? ⟨w.heap.size, 0, none⟩ = false := by rw [World.frozen?_setCell]; exact hfr
    by_cases h8 : 8 < pre.length + 1
    · have h8' : (8 : Int) < (pre.length : Int) + 1 := by omega
      gi_wp2
      refine ⟨trivial, ?_⟩
      gi_wp2_with fail
      all_goals try (rename_i h9 h10; cases h9; done)
      refine ⟨trivial, ?_⟩
      gi_wp2_with fail
      exact ⟨(KeepsOthers.setCell _ _ _).trans (KeepsOthers.setCell _ _ _), ⟨⟨rfl, .inl (by simp; omega)⟩, World.cell?_setCell_same' _ _ _ (by rw [hcr1]; rfl)⟩, (hB.setCell (p := ⟨w.heap.size + 1, 0, none⟩) (by simp) _).setCell (p := ⟨w.heap.size, 0, none⟩) (by simp) _⟩
    · have h8' : ¬ (8 : Int) < (pre.length : Int) + 1 := by omega
      by_cases hw : word x.1 = true
      · gi_wp2_with (refine ⟨trivial, ?_⟩; gi_at_call 57; refine (CallsIn.inRound l (callsIn_wide.2 (isWord_is x true hw _))).mono ?_; rintro e w' ⟨rfl, rfl⟩)
        repeat (refine ⟨trivial, ?_⟩; gi_wp2)
        exact ⟨KeepsOthers.setCell _ _ _, (Below.refl w.heap.size W).setCell (p := ⟨w.heap.size + 1, 0, none⟩) (by simp) _, ⟨⟨all_snoc hp (by simp [part, hw]), by simp; omega⟩, hcr1, hfr1, by rw [World.cell?_setCell_same' _ _ _ (by rw [hcn]; rfl)]; simp, by rw [World.frozen?_setCell]; exact hfn⟩, hB.setCell (p := ⟨w.heap.size + 1, 0, none⟩) (by simp) _⟩
      · have hw : word x.1 = false := by simpa using hw
        by_cases hn : number x.1 = true
        · gi_wp2_with (first | (refine ⟨trivial, ?_⟩; gi_at_call 57; refine (CallsIn.inRound l (callsIn_wide.2 (isWord_is x false hw _))).mono ?_; rintro e w' ⟨rfl, rfl⟩) | (refine ⟨trivial, ?_⟩; gi_at_call 58; refine (CallsIn.inRound l (callsIn_wide.2 (isNumber_is x true hn _))).mono ?_; rintro e w' ⟨rfl, rfl⟩))
          repeat (refine ⟨trivial, ?_⟩; gi_wp2)
          exact ⟨KeepsOthers.setCell _ _ _, (Below.refl w.heap.size W).setCell (p := ⟨w.heap.size + 1, 0, none⟩) (by simp) _, ⟨⟨all_snoc hp (by simp [part, hn]), by simp; omega⟩, hcr1, hfr1, by rw [World.cell?_setCell_same' _ _ _ (by rw [hcn]; rfl)]; simp, by rw [World.frozen?_setCell]; exact hfn⟩, hB.setCell (p := ⟨w.heap.size + 1, 0, none⟩) (by simp) _⟩
        · have hn : number x.1 = false := by simpa using hn
          gi_wp2_with (first | (refine ⟨trivial, ?_⟩; gi_at_call 57; refine (CallsIn.inRound l (callsIn_wide.2 (isWord_is x false hw _))).mono ?_; rintro e w' ⟨rfl, rfl⟩) | (refine ⟨trivial, ?_⟩; gi_at_call 58; refine (CallsIn.inRound l (callsIn_wide.2 (isNumber_is x false hn _))).mono ?_; rintro e w' ⟨rfl, rfl⟩))
          repeat (refine ⟨trivial, ?_⟩; gi_wp2)
          exact ⟨(KeepsOthers.setCell _ _ _).trans (KeepsOthers.setCell _ _ _), ⟨⟨rfl, .inr ⟨x.1, by rw [bss_snoc]; simp, by simp [part, hw, hn]⟩⟩, World.cell?_setCell_same' _ _ _ (by rw [hcr1]; rfl)⟩, (hB.setCell (p := ⟨w.heap.size + 1, 0, none⟩) (by simp) _).setCell (p := ⟨w.heap.size, 0, none⟩) (by simp) _⟩
  case done =>
    rintro D ys W hD hS ⟨⟨⟨hp, hl⟩, hcr, hfr, _⟩, hB⟩ hK
    have hv : may s.data.toList = true := by
      unfold may
      rw [← hS, size_toList]
      have e1 : decide (s.size ≤ 40) = true := by simpa using h
      have e2 : decide ((bss ys).length ≤ 8) = true := by simp [bss]; exact hl
      have e3 : (bss ys).all part = true := List.all_eq_true.2 hp
      rw [e1, e2, e3]; rfl
    have Hv := Lib.hid hv
    clear hv hS hp
    gi_wp2
    have hK' := (KeepsOthers.setCell W ⟨w.heap.size, 0, none⟩ (.bool true)).same D _ hK rfl
    refine ⟨by simp, .inl ⟨_, _, rfl, run_takeDeferred hK', ?_⟩⟩
    have hc5 := cell_kept (World.cell?_setCell_same' W ⟨w.heap.size, 0, none⟩ (.bool true) (by rw [hcr]; rfl)) (grownBy_putObj' _ D (.deferred none)) (fun r e => by cases e; exact ⟨_, hK', rfl⟩)
    refine ⟨.bool true, ?_, by rw [Hv.out], (hB.setCell (p := ⟨w.heap.size, 0, none⟩) (by simp) _).trans (belowK_b (w := w) (Nat.le_refl _) _ D _ _ (by simp at hD; omega) hK' rfl rfl)⟩
    simp [results, Tryz.f37, go_sem, hc5]
  case stop =>
    rintro D c pre W hD hpre ⟨⟨⟨rfl, hbad⟩, hcr⟩, hB⟩ hK
    have hv : may s.data.toList = false := by
      unfold may
      rcases hbad with h8 | ⟨p, hp, hpf⟩
      · have : decide ((cut 46 s.data.toList).length ≤ 8) = false := by
          have := hpre.length_le; simp [bss] at this; simp; omega
        rw [this]; simp
      · have : (cut 46 s.data.toList).all part = false := List.all_eq_false.2 ⟨p, hpre.subset hp, by simp [hpf]⟩
        rw [this]; simp
    have Hv := Lib.hid hv
    clear hv hbad hpre
    gi_wp2
    refine ⟨by simp, .inl ⟨_, _, rfl, run_takeDeferred hK, ?_⟩⟩
    have hc5 := cell_kept hcr (grownBy_putObj' _ D (.deferred none)) (fun r e => by cases e; exact ⟨_, hK, rfl⟩)
    refine ⟨.bool false, ?_, by rw [Hv.out], hB.trans (belowK_b (w := w) (Nat.le_refl _) W D _ _ (by simp at hD; omega) hK rfl rfl)⟩
    simp [results, Tryz.f37, go_sem, hc5]

theorem may_any (s : ByteArray) (w : World) :
    Calls Tryz.prog 37 #[.string s] w fun e w' => e = .returned (.bool (may s.data.toList)) ∧ Below w.heap.size w w' := by
  by_cases h : s.size ≤ 40
  · exact callsIn_wide.1 (may_in s w h)
  · rw [may_long (l := s.data.toList) (by rw [size_toList]; omega)]
    exact may_big s w (by omega)

end Go.Proofs.YtdijkekglaimfaaGreatDoor.Ver
