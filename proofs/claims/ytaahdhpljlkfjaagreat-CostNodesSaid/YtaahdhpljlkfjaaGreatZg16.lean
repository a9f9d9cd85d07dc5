/- version.May answers as the document says, at every text. -/
import Derived.Test.YtaahdhpljlkfjaaGreatZg15
import Derived.RangeFuncFrom
import Derived.RangeFuncWrites
import Derived.Maps.AppendAt
namespace Go.Proofs.YtaahdhpljlkfjaaGreat.Ver
open Go.RowKit Go.Shelf
attribute [local go_sem] Oper.semAt_some

theorem all_snoc {pre : List Pt} {x : Pt} (hp : ∀ p ∈ bss pre, part p = true) (h : part x.1 = true) : ∀ p ∈ bss (pre ++ [x]), part p = true := by
  rw [bss_snoc]; intro p hp'
  rcases List.mem_append.1 hp' with h' | h'
  · exact hp p h'
  · simp at h'; subst h'; exact h

theorem isWord_is (x : Pt) (b : Bool) (h : word x.1 = b) (w : World) :
    Calls Tryz.prog 91 #[.string ⟨x.1.toArray⟩] w fun e w' => e = .returned (.bool b) ∧ w = w' := by
  have := isWord_any ⟨x.1.toArray⟩ w (by have := x.2; unfold maxLen; show x.1.toArray.size ≤ _; simp; omega)
  simpa [h] using this
theorem isNumber_is (x : Pt) (b : Bool) (h : number x.1 = b) (w : World) :
    Calls Tryz.prog 92 #[.string ⟨x.1.toArray⟩] w fun e w' => e = .returned (.bool b) ∧ w = w' := by
  have := isNumber_any ⟨x.1.toArray⟩ w (by have := x.2; unfold maxLen; show x.1.toArray.size ≤ _; simp; omega)
  simpa [h] using this

theorem may_long {l : Bs} (h : 40 < l.length) : may l = false := by
  unfold may
  have : decide (l.length ≤ 40) = false := by simpa using h
  rw [this]; rfl

set_option maxHeartbeats 800000 in
theorem may_big (s : ByteArray) (w : World) (h : 40 < s.size) :
    Calls Tryz.prog 67 #[.string s] w fun e w' => e = .returned (.bool false) ∧ Below w.heap.size w w' := by
  have h' : (40 : Int) < (s.size : Int) := by omega
  go_enter Tryz.func67, Tryz.ntmps67
  go_wp2
  refine bodyPost_ret (v := .bool false) (by simp [results, Tryz.results67, go_sem]) rfl ⟨rfl, ?_⟩
  go_grown

set_option maxHeartbeats 4000000 in
set_option maxRecDepth 100000 in
theorem may_in (s : ByteArray) (w : World) (h : s.size ≤ 40) :
    CallsIn W0 6 Tryz.prog 67 #[.string s] w fun e w' => e = .returned (.bool (may s.data.toList)) ∧ Below w.heap.size w w' := by
  have h' : ¬ (40 : Int) < (s.size : Int) := by omega
  have h1 : 1 ≤ 6 := by omega
  refine callsIn_of_wp_marks Tryz.func67 rfl trivial ?_ rfl
  simp only [Tryz.ntmps67, List.size_toArray, List.length_cons, List.length_nil, Nat.reduceAdd, Nat.reduceSub, Array.replicate_succ, Array.replicate_zero, List.push_toArray, List.append_toArray, List.nil_append, List.cons_append]
  gi_wp2_with fail
  refine ⟨trivial, ?_⟩
  refine (callsIn_wide.2 (parts_any s _)).mono ?_
  rintro e w' ⟨rfl, rfl⟩
  gi_wp2_with fail
  have c0 := cell_new_l w (.bool false) 4
  have c1 := cell_new_l (w.alloc (.cells #[.bool false] 4)) (.int .i64 0) 3
  have c2 := cell_new_l ((w.alloc (.cells #[.bool false] 4)).alloc (.cells #[.int .i64 0] 3)) (.string s) 9
  simp only [World.size_alloc] at c1 c2
  have hB0 : Below w.heap.size w (((w.alloc (.cells #[.bool false] 4)).alloc (.cells #[.int .i64 0] 3)).alloc (.cells #[.string s] 9)) := (((Below.refl _ w).alloc (Nat.le_refl _) _).alloc (by simp) _).alloc (by simp; omega) _
  refine wpIn_rangeFunc_ownF rfl h1 (gf := 94) (lb := #[.pointer (some ⟨w.heap.size + 1 + 1, 0, none⟩)]) rfl trivial (enters_of Tryz.func94 (by kernel_rfl) rfl)
    (parts_stops 5 (by omega) (w.heap.size + 1 + 1) s _ (Below w.heap.size) c2.1 (by omega)) belowK_t (belowK_b (by simp; omega)) (Below.refl _ _) (fun _ => rfl)
    (fun pre W => (((∀ p ∈ bss pre, part p = true) ∧ pre.length ≤ 8) ∧ W.cell? ⟨w.heap.size, 0, none⟩ = some (.bool false) ∧ W.frozen? ⟨w.heap.size, 0, none⟩ = false ∧ W.cell? ⟨w.heap.size + 1, 0, none⟩ = some (.int .i64 pre.length) ∧ W.frozen? ⟨w.heap.size + 1, 0, none⟩ = false) ∧ Below w.heap.size w W)
    (fun c pre W => ((c = .ret ∧ (8 < pre.length ∨ ∃ p ∈ bss pre, part p = false)) ∧ W.cell? ⟨w.heap.size, 0, none⟩ = some (.bool false)) ∧ Below w.heap.size w W)
    (OwnFrom.and (Own.from (fun s A B row hs hg hr => ⟨hs.1, cell_kept hs.2.1 hg hr, (frozen_kept hs.2.1 hg hr).trans hs.2.2.1, cell_kept hs.2.2.2.1 hg hr, (frozen_kept hs.2.2.2.1 hg hr).trans hs.2.2.2.2⟩) _) (ownFrom_below (Nat.le_refl _) (by simp; omega)))
    (fun c => OwnFrom.and (Own.from (fun s A B row hs hg hr => ⟨hs.1, cell_kept hs.2 hg hr⟩) _) (ownFrom_below (Nat.le_refl _) (by simp; omega)))
    ⟨⟨⟨by simp [bss], by simp⟩, cell_alloc_l _ (cell_alloc_l _ c0.1), frozen_alloc_l _ (cell_alloc_l _ c0.1) (frozen_alloc_l _ c0.1 c0.2), cell_alloc_l _ c1.1, frozen_alloc_l _ c1.1 c1.2⟩, hB0⟩
    (fun x => { tmps := #[.string s, undef, .pointer (some ⟨w.heap.size, 0, none⟩), .pointer (some ⟨w.heap.size + 1, 0, none⟩), .string ⟨x.1.toArray⟩, .string s, .int .i64 s.size, .bool false, .string s, .func (.func 94) #[] #[.pointer (some ⟨w.heap.size + 1 + 1, 0, none⟩)], .string ⟨x.1.toArray⟩, undef, undef, undef, undef, undef, undef, undef, undef, undef, undef, undef, undef, undef, undef], defers := [] }) ?assign ?body ?done ?stop
  case assign =>
    intro l x W K hK
    simp only [encP]
    gi_wp2
    exact hK
  case body =>
    rintro l pre x W ⟨⟨⟨hp, hl⟩, hcr, hfr, hcn, hfn⟩, hB⟩ _
    have hcr1 : (W.setCell ⟨w.heap.size + 1, 0, none⟩ (.int .i64 ((pre.length : Int) + 1))).cell? ⟨w.heap.size, 0, none⟩ = some (.bool false) := by rw [World.cell?_setCell_other _ _ _ _ (by simp)]; exact hcr
    have hfr1 : (W.setCell ⟨w.heap.size + 1, 0, none⟩ (.int .i64 ((pre.length : Int) + 1))).frozen? ⟨w.heap.size, 0, none⟩ = false := by rw [World.frozen?_setCell]; exact hfr
    by_cases h8 : 8 < pre.length + 1
    · have h8' : (8 : Int) < (pre.length : Int) + 1 := by omega
      gi_wp2
      refine ⟨trivial, ?_⟩
      gi_wp2_with fail
      all_goals try (rename_i h9 h10; cases h9; done)
      refine ⟨trivial, ?_⟩
      gi_wp2_with fail
      exact ⟨(KeepsOthers.setCell _ _ _).trans (KeepsOthers.setCell _ _ _), ⟨⟨rfl, .inl (by simp; omega)⟩, World.cell?_setCell_same' _ _ _ (by rw [hcr1]; rfl)⟩, (hB.setCell (p := ⟨w.heap.size + 1, 0, none⟩) (by simp) _).setCell (p := ⟨w.heap.size, 0, none⟩) (by simp) _⟩
    · have h8' : ¬ (8 : Int) < (pre.length : Int) + 1 := by omega
      by_cases hw : word x.1 = true
      · gi_wp2_with (refine ⟨trivial, ?_⟩; gi_at_call 91; refine (CallsIn.inRound l (callsIn_wide.2 (isWord_is x true hw _))).mono ?_; rintro e w' ⟨rfl, rfl⟩)
        repeat (refine ⟨trivial, ?_⟩; gi_wp2)
        exact ⟨KeepsOthers.setCell _ _ _, (Below.refl w.heap.size W).setCell (p := ⟨w.heap.size + 1, 0, none⟩) (by simp) _, ⟨⟨all_snoc hp (by simp [part, hw]), by simp; omega⟩, hcr1, hfr1, by rw [World.cell?_setCell_same' _ _ _ (by rw [hcn]; rfl)]; simp, by rw [World.frozen?_setCell]; exact hfn⟩, hB.setCell (p := ⟨w.heap.size + 1, 0, none⟩) (by simp) _⟩
      · have hw : word x.1 = false := by simpa using hw
        by_cases hn : number x.1 = true
        · gi_wp2_with (first | (refine ⟨trivial, ?_⟩; gi_at_call 91; refine (CallsIn.inRound l (callsIn_wide.2 (isWord_is x false hw _))).mono ?_; rintro e w' ⟨rfl, rfl⟩) | (refine ⟨trivial, ?_⟩; gi_at_call 92; refine (CallsIn.inRound l (callsIn_wide.2 (isNumber_is x true hn _))).mono ?_; rintro e w' ⟨rfl, rfl⟩))
          repeat (refine ⟨trivial, ?_⟩; gi_wp2)
          exact ⟨KeepsOthers.setCell _ _ _, (Below.refl w.heap.size W).setCell (p := ⟨w.heap.size + 1, 0, none⟩) (by simp) _, ⟨⟨all_snoc hp (by simp [part, hn]), by simp; omega⟩, hcr1, hfr1, by rw [World.cell?_setCell_same' _ _ _ (by rw [hcn]; rfl)]; simp, by rw [World.frozen?_setCell]; exact hfn⟩, hB.setCell (p := ⟨w.heap.size + 1, 0, none⟩) (by simp) _⟩
        · have hn : number x.1 = false := by simpa using hn
          gi_wp2_with (first | (refine ⟨trivial, ?_⟩; gi_at_call 91; refine (CallsIn.inRound l (callsIn_wide.2 (isWord_is x false hw _))).mono ?_; rintro e w' ⟨rfl, rfl⟩) | (refine ⟨trivial, ?_⟩; gi_at_call 92; refine (CallsIn.inRound l (callsIn_wide.2 (isNumber_is x false hn _))).mono ?_; rintro e w' ⟨rfl, rfl⟩))
          repeat (refine ⟨trivial, ?_⟩; gi_wp2)
          exact ⟨(KeepsOthers.setCell _ _ _).trans (KeepsOthers.setCell _ _ _), ⟨⟨rfl, .inr ⟨x.1, by rw [bss_snoc]; simp, by simp [part, hw, hn]⟩⟩, World.cell?_setCell_same' _ _ _ (by rw [hcr1]; rfl)⟩, (hB.setCell (p := ⟨w.heap.size + 1, 0, none⟩) (by simp) _).setCell (p := ⟨w.heap.size, 0, none⟩) (by simp) _⟩
  case done =>
    rintro D ys W hD hS ⟨⟨⟨hp, hl⟩, hcr, hfr, _⟩, hB⟩ hK
    have hv : may s.data.toList = true := by
      unfold may
      rw [← hS, size_toList]
      have e1 : decide (s.size ≤ 40) = true := by simpa using h
      have e2 : decide ((bss ys).length ≤ 8) = true := by simp [bss]; exact hl
      have e3 : (bss ys).all part = true := List.all_eq_true.2 hp
      rw [e1, e2, e3]; rfl
    have Hv := Lib.hid hv
    clear hv hS hp
    gi_wp2
    have hK' := (KeepsOthers.setCell W ⟨w.heap.size, 0, none⟩ (.bool true)).same D _ hK rfl
    refine ⟨by simp, .inl ⟨_, _, rfl, run_takeDeferred hK', ?_⟩⟩
    have hc5 := cell_kept (World.cell?_setCell_same' W ⟨w.heap.size, 0, none⟩ (.bool true) (by rw [hcr]; rfl)) (grownBy_putObj' _ D (.deferred none)) (fun r e => by cases e; exact ⟨_, hK', rfl⟩)
    refine ⟨.bool true, ?_, by rw [Hv.out], (hB.setCell (p := ⟨w.heap.size, 0, none⟩) (by simp) _).trans (belowK_b (w := w) (Nat.le_refl _) _ D _ _ (by simp at hD; omega) hK' rfl rfl)⟩
    simp [results, Tryz.f67, go_sem, hc5]
  case stop =>
    rintro D c pre W hD hpre ⟨⟨⟨rfl, hbad⟩, hcr⟩, hB⟩ hK
    have hv : may s.data.toList = false := by
      unfold may
      rcases hbad with h8 | ⟨p, hp, hpf⟩
      · have : decide ((cut 46 s.data.toList).length ≤ 8) = false := by
          have := hpre.length_le; simp [bss] at this; simp; omega
        rw [this]; simp
      · have : (cut 46 s.data.toList).all part = false := List.all_eq_false.2 ⟨p, hpre.subset hp, by simp [hpf]⟩
        rw [this]; simp
    have Hv := Lib.hid hv
    clear hv hbad hpre
    gi_wp2
    refine ⟨by simp, .inl ⟨_, _, rfl, run_takeDeferred hK, ?_⟩⟩
    have hc5 := cell_kept hcr (grownBy_putObj' _ D (.deferred none)) (fun r e => by cases e; exact ⟨_, hK, rfl⟩)
    refine ⟨.bool false, ?_, by rw [Hv.out], hB.trans (belowK_b (w := w) (Nat.le_refl _) W D _ _ (by simp at hD; omega) hK rfl rfl)⟩
    simp [results, Tryz.f67, go_sem, hc5]

theorem may_any (s : ByteArray) (w : World) :
    Calls Tryz.prog 67 #[.string s] w fun e w' => e = .returned (.bool (may s.data.toList)) ∧ Below w.heap.size w w' := by
  by_cases h : s.size ≤ 40
  · exact callsIn_wide.1 (may_in s w h)
  · rw [may_long (l := s.data.toList) (by rw [size_toList]; omega)]
    exact may_big s w (by omega)

end Go.Proofs.YtaahdhpljlkfjaaGreat.Ver

/- version.Parts: a version's parts, in a list of the call's own. -/
namespace Go.Proofs.YtaahdhpljlkfjaaGreat.Ver
open Go.RowKit Go.Shelf
attribute [local go_sem] Oper.semAt_some

def texts (l : List Bs) : List Value := l.map fun p => .string ⟨p.toArray⟩
theorem texts_length (l : List Bs) : (texts l).length = l.length := by simp [texts]
theorem texts_snoc (l : List Bs) (x : Bs) : texts (l ++ [x]) = texts l ++ [.string ⟨x.toArray⟩] := by simp [texts]

theorem info_string : (Tryz.prog.info? 9).map (fun i => (i.zero, i.size, i.bytes)) = some (some (.string ByteArray.empty), 1, 16) := by kernel_rfl

set_option maxRecDepth 100000 in
set_option maxHeartbeats 2000000 in
theorem appendSeq_in (s : ByteArray) (P : Nat) (w : World) (hP : w.cell? ⟨P, 0, none⟩ = some (.string s)) (hs : s.size ≤ 1000000) (hn : (cut 46 s.data.toList).length ≤ 1000000) :
    CallsIn W0 7 Tryz.prog 109 #[.slice none 0 0, .func (.func 94) #[] #[.pointer (some ⟨P, 0, none⟩)]] w
      fun e W' => ∃ v, e = .returned v ∧ W'.ownsRow w.heap.size 9 1 v (cut 46 s.data.toList).length (texts (cut 46 s.data.toList)) ∧ Below w.heap.size w W' := by
  have h1 : 1 ≤ 7 := by omega
  have hPlt := World.block_lt_of_cell? w _ hP
  obtain ⟨i0, hi, hz0, hz1, hz2⟩ := info_parts info_string
  refine callsIn_of_wp_marks Tryz.func109 rfl trivial ?_ rfl
  simp only [Tryz.ntmps109, List.size_toArray, List.length_cons, List.length_nil, Nat.reduceAdd, Nat.reduceSub, Array.replicate_succ, Array.replicate_zero, List.push_toArray, List.append_toArray, List.nil_append, List.cons_append]
  gi_wp2_with fail
  have bO := Boxed.new w 47 (.slice none 0 0)
  have hB0 : Below w.heap.size w (w.alloc (.cells #[.slice none 0 0] 47)) := (Below.refl _ w).alloc (Nat.le_refl _) _
  refine wpIn_rangeFunc_ownG rfl h1 (gf := 94) (lb := #[.pointer (some ⟨P, 0, none⟩)]) rfl trivial (enters_of Tryz.func94 (by kernel_rfl) rfl)
    (parts_stops 6 (by omega) P s _ (Below w.heap.size) (cell_alloc_l _ hP) (by omega)) belowK_t (belowK_b (by simp)) (Below.refl _ _) (fun _ => rfl)
    (fun pre W => (∃ v, Boxed W w.heap.size 47 v ∧ W.ownsRow w.heap.size 9 1 v pre.length (texts (bss pre)) ∧ True) ∧ Below w.heap.size w W)
    (fun _ _ _ => False)
    (OwnFrom.and (Own.from (holdsRow_own w.heap.size w.heap.size 47 9 1 (fun pre => pre.length) (fun pre => texts (bss pre)) (fun _ _ => True)) _) (ownFrom_below (Nat.le_refl _) (by simp)))
    (fun _ _ _ _ _ hs _ _ => hs)
    ⟨⟨_, bO, World.ownsRow_nil _ _ _ _, trivial⟩, hB0⟩
    (fun x => { tmps := #[.slice none 0 0, .func (.func 94) #[] #[.pointer (some ⟨P, 0, none⟩)], .pointer (some ⟨w.heap.size, 0, none⟩), undef, .slice none 0 0, .string ⟨x.1.toArray⟩, .func (.func 94) #[] #[.pointer (some ⟨P, 0, none⟩)], .string ⟨x.1.toArray⟩, undef, undef, undef, undef, undef], defers := [] }) ?assign ?body ?done ?stop
  case assign =>
    intro l x W K hK
    simp only [encP]
    gi_wp2
    exact hK
  case body =>
    rintro l pre x W ⟨⟨v, hv, hrow, _⟩, hB⟩ hlt
    have hc := hv.cell
    gi_wp2_with (gi_at_builtin; refine wpListIn_append_own _ rfl _ _ 47 rfl w.heap.size 9 i0 (.string ByteArray.empty) 1 16 Tryz.underlying47 hi hz0 hz1 hz2 rfl (by decide) _ _ _ rfl (hrow.alloc _) ⟨W.heap.size, 0, none⟩ 1 1 [.string ⟨x.1.toArray⟩] rfl rfl (cell_one_new _ _ _) (by simp [Value.oneCell']) (by unfold maxLen; omega) (by omega) (by have := hB.size; simp; omega) ?_; intro v' w1 hown' hgrow _; obtain ⟨g', cap', rfl⟩ := ownsRow_succ hown'; obtain ⟨hv1, hv2, hr2, hk2, hb2⟩ := hv.appended (by decide) hrow hB.size (Nat.le_refl _) hown' hgrow; have hc1 := hv1.cell; have hf1 := hv1.frozen)
    exact ⟨hk2.from _, hb2, ⟨_, hv2, by rw [bss_snoc, texts_snoc]; simpa using hr2, trivial⟩, hB.trans hb2⟩
  case done =>
    rintro D ys W hD hS ⟨⟨v, hv, hrow, _⟩, hB⟩ hK
    have hc := hv.cell
    have hrow2 := ownsRow_cast hrow (show ys.length = (cut 46 s.data.toList).length by rw [← hS]; simp [bss]) (show texts (bss ys) = texts (cut 46 s.data.toList) by rw [hS])
    clear hS hrow
    gi_wp2
    refine ⟨by simp, .inl ⟨_, _, rfl, run_takeDeferred hK, ?_⟩⟩
    exact ⟨_, results_tmp rfl _ _ _, v, rfl, ownsRow_putObj hrow2 _ hK rfl, hB.trans (belowK_b (w := w) (Nat.le_refl _) W D _ _ (by simp at hD; omega) hK rfl rfl)⟩
  case stop =>
    rintro D c pre W _ _ h _
    exact h.elim

theorem appendSeq_any (s : ByteArray) (P : Nat) (w : World) (hP : w.cell? ⟨P, 0, none⟩ = some (.string s)) (hs : s.size ≤ 1000000) (hn : (cut 46 s.data.toList).length ≤ 1000000) :
    Calls Tryz.prog 109 #[.slice none 0 0, .func (.func 94) #[] #[.pointer (some ⟨P, 0, none⟩)]] w
      fun e W' => ∃ v, e = .returned v ∧ W'.ownsRow w.heap.size 9 1 v (cut 46 s.data.toList).length (texts (cut 46 s.data.toList)) ∧ Below w.heap.size w W' :=
  callsIn_wide.1 (appendSeq_in s P w hP hs hn)

set_option maxHeartbeats 400000 in
theorem collect_any (s : ByteArray) (P : Nat) (w : World) (hP : w.cell? ⟨P, 0, none⟩ = some (.string s)) (hs : s.size ≤ 1000000) (hn : (cut 46 s.data.toList).length ≤ 1000000) :
    Calls Tryz.prog 93 #[.func (.func 94) #[] #[.pointer (some ⟨P, 0, none⟩)]] w
      fun e W' => ∃ v, e = .returned v ∧ W'.ownsRow w.heap.size 9 1 v (cut 46 s.data.toList).length (texts (cut 46 s.data.toList)) ∧ Below w.heap.size w W' := by
  have H := Lib.hid hP
  clear hP
  go_enter Tryz.func93, Tryz.ntmps93
  go_wp2_with fail
  refine (appendSeq_any s P _ H.out hs hn).mono ?_
  rintro e w1 ⟨v, rfl, hr, hb⟩
  have Hr := Lib.hid hr
  clear hr
  go_wp2
  go_ret
  exact ⟨v, rfl, Hr.out, hb⟩

/-- A version's parts; of what is no version none. -/
def partsOf (l : Bs) : List Bs := if may l then cut 46 l else []

theorem cut_le (b : UInt8) : ∀ l : Bs, (cut b l).length ≤ l.length + 1
  | [] => by simp [cut]
  | c :: r => by
    have ih := cut_le b r
    rw [cut]
    split
    · simp; omega
    · split <;> simp_all <;> omega

theorem may_cut {l : Bs} (h : may l = true) : l.length ≤ 40 ∧ (cut 46 l).length ≤ 8 ∧ ∀ p ∈ cut 46 l, part p = true := by
  unfold may at h
  simp only [Bool.and_eq_true, decide_eq_true_eq, List.all_eq_true] at h
  exact ⟨h.1.1, h.1.2, h.2⟩

set_option maxHeartbeats 400000 in
theorem parts_own (s : ByteArray) (w : World) :
    Calls Tryz.prog 69 #[.string s] w
      fun e W' => ∃ v, e = .returned v ∧ W'.ownsRow w.heap.size 9 1 v (partsOf s.data.toList).length (texts (partsOf s.data.toList)) ∧ Below w.heap.size w W' := by
  cases hm : may s.data.toList with
  | false =>
    have hp : partsOf s.data.toList = [] := by unfold partsOf; rw [hm]; rfl
    rw [hp]
    clear hp
    have Hm := Lib.hid hm
    clear hm
    go_enter Tryz.func69, Tryz.ntmps69
    go_wp2_with fail
    refine (may_any s _).mono ?_
    rintro e w1 ⟨rfl, hb⟩
    rw [Hm.out]
    go_wp2
    go_ret
    exact ⟨_, rfl, World.ownsRow_nil _ _ _ _, hb⟩
  | true =>
    have hp : partsOf s.data.toList = cut 46 s.data.toList := by unfold partsOf; rw [hm]; rfl
    rw [hp]
    obtain ⟨h1, h2, _⟩ := may_cut hm
    rw [size_toList] at h1
    clear hp
    have Hm := Lib.hid hm
    clear hm
    go_enter Tryz.func69, Tryz.ntmps69
    go_wp2_with fail
    refine (may_any s _).mono ?_
    rintro e w1 ⟨rfl, hb⟩
    rw [Hm.out]
    go_wp2_with fail
    refine (parts_any s _).mono ?_
    rintro e w2 ⟨rfl, rfl⟩
    go_wp2_with fail
    refine (collect_any s w1.heap.size _ (cell_new_l _ _ _).1 (by omega) (by omega)).mono ?_
    rintro e w3 ⟨v, rfl, hr, hb2⟩
    have hr2 := ownsRow_base hr (show w.heap.size ≤ (w1.alloc (.cells #[.string s] 9)).heap.size by have := hb.size; simp; omega)
    have Hr := Lib.hid hr2
    clear hr hr2
    go_wp2
    go_ret
    exact ⟨v, rfl, Hr.out, (hb.alloc hb.size _).trans (hb2.mono (by have := hb.size; simp; omega))⟩

end Go.Proofs.YtaahdhpljlkfjaaGreat.Ver
