/- version.Parts: a version's parts, in a list of the call's own. -/
import Derived.Test.YtdijkekglaimfaaGreatDoorVerMay
import Derived.RangeFuncWrites
import Derived.Maps.AppendAt
namespace Go.Proofs.YtdijkekglaimfaaGreatDoor.Ver
open Go.RowKit Go.Shelf
attribute [local go_sem] Oper.semAt_some

def texts (l : List Bs) : List Value := l.map fun p => .string ⟨p.toArray⟩
theorem texts_length (l : List Bs) : (texts l).length = l.length := by simp [texts]
theorem texts_snoc (l : List Bs) (x : Bs) : texts (l ++ [x]) = texts l ++ [.string ⟨x.toArray⟩] := by simp [texts]

theorem info_string : (Tryz.prog.info? 9).map (fun i => (i.zero, i.size, i.bytes)) = some (some (.string ByteArray.empty), 1, 16) := by kernel_rfl

set_option maxRecDepth 100000 in
set_option maxHeartbeats 2000000 in
theorem appendSeq_in (s : ByteArray) (P : Nat) (w : World) (hP : w.cell? ⟨P, 0, none⟩ = some (.string s)) (hs : s.size ≤ 1000000) (hn : (cut 46 s.data.toList).length ≤ 1000000) :
    CallsIn W0 7 Tryz.prog 89 #[.slice none 0 0, .func (.func 76) #[] #[.pointer (some ⟨P, 0, none⟩)]] w
      fun e W' => ∃ v, e = .returned v ∧ W'.ownsRow w.heap.size 9 1 v (cut 46 s.data.toList).length (texts (cut 46 s.data.toList)) ∧ Below w.heap.size w W' := by
  have h1 : 1 ≤ 7 := by omega
  have hPlt := World.block_lt_of_cell? w _ hP
  obtain ⟨i0, hi, hz0, hz1, hz2⟩ := info_parts info_string
  refine callsIn_of_wp_marks Tryz.func89 rfl trivial ?_ rfl
  simp only [Tryz.ntmps89, List.size_toArray, List.length_cons, List.length_nil, Nat.reduceAdd, Nat.reduceSub, Array.replicate_succ, Array.replicate_zero, List.push_toArray, List.append_toArray, List.nil_append, List.cons_append]
  gi_wp2_with fail
  have bO := Boxed.new w 32 (.slice none 0 0)
  have hB0 : Below w.heap.size w (w.alloc (.cells #[.slice none 0 0] 32)) := (Below.refl _ w).alloc (Nat.le_refl _) _
  refine wpIn_rangeFunc_ownG rfl h1 (gf := 76) (lb := #[.pointer (some ⟨P, 0, none⟩)]) rfl trivial (enters_of Tryz.func76 (by kernel_rfl) rfl)
    (parts_stops 6 (by omega) P s _ (Below w.heap.size) (cell_alloc_l _ hP) (by omega)) belowK_t (belowK_b (by simp)) (Below.refl _ _) (fun _ => rfl)
    (fun pre W => (∃ v, Boxed W w.heap.size 32 v ∧ W.ownsRow w.heap.size 9 1 v pre.length (texts (bss pre)) ∧ True) ∧ Below w.heap.size w W)
    (fun _ _ _ => False)
    (OwnFrom.and (Own.from (holdsRow_own w.heap.size w.heap.size 32 9 1 (fun pre => pre.length) (fun pre => texts (bss pre)) (fun _ _ => True)) _) (ownFrom_below (Nat.le_refl _) (by simp)))
    (fun _ _ _ _ _ hs _ _ => hs)
    ⟨⟨_, bO, World.ownsRow_nil _ _ _ _, trivial⟩, hB0⟩
    (fun x => { tmps := #[.slice none 0 0, .func (.func 76) #[] #[.pointer (some ⟨P, 0, none⟩)], .pointer (some ⟨w.heap.size, 0, none⟩), undef, .slice none 0 0, .string ⟨x.1.toArray⟩, .func (.func 76) #[] #[.pointer (some ⟨P, 0, none⟩)], .string ⟨x.1.toArray⟩, undef, undef, undef, undef, undef], defers := [] }) ?assign ?body ?done ?stop
  case assign =>
    intro l x W K hK
    simp only [encP]
    gi_wp2
    exact hK
  case body =>
    rintro l pre x W ⟨⟨v, hv, hrow, _⟩, hB⟩ hlt
    have hc := hv.cell
    gi_wp2_with (gi_at_builtin; refine wpListIn_append_own _ rfl _ _ 32 rfl w.heap.size 9 i0 (.string ByteArray.empty) 1 16 Tryz.underlying32 hi hz0 hz1 hz2 rfl (by decide) _ _ _ rfl (hrow.alloc _) ⟨W.heap.size, 0, none⟩ 1 1 [.string ⟨x.1.toArray⟩] rfl rfl (cell_one_new _ _ _) (by simp [Value.oneCell']) (by unfold maxLen; omega) (by omega) (by have := hB.size; simp; omega) ?_; intro v' w1 hown' hgrow _; obtain ⟨g', cap', rfl⟩ := ownsRow_succ hown'; obtain ⟨hv1, hv2, hr2, hk2, hb2⟩ := hv.appended (by decide) hrow hB.size (Nat.le_refl _) hown' hgrow; have hc1 := hv1.cell; have hf1 := hv1.frozen)
    exact ⟨hk2.from _, hb2, ⟨_, hv2, by rw [bss_snoc, texts_snoc]; simpa using hr2, trivial⟩, hB.trans hb2⟩
  case done =>
    rintro D ys W hD hS ⟨⟨v, hv, hrow, _⟩, hB⟩ hK
    have hc := hv.cell
    have hrow2 := ownsRow_cast hrow (show ys.length = (cut 46 s.data.toList).length by rw [← hS]; simp [bss]) (show texts (bss ys) = texts (cut 46 s.data.toList) by rw [hS])
    clear hS hrow
    gi_wp2
    refine ⟨by simp, .inl ⟨_, _, rfl, run_takeDeferred hK, ?_⟩⟩
    exact ⟨_, results_tmp rfl _ _ _, v, rfl, ownsRow_putObj hrow2 _ hK rfl, hB.trans (belowK_b (w := w) (Nat.le_refl _) W D _ _ (by simp at hD; omega) hK rfl rfl)⟩
  case stop =>
    rintro D c pre W _ _ h _
    exact h.elim

theorem appendSeq_any (s : ByteArray) (P : Nat) (w : World) (hP : w.cell? ⟨P, 0, none⟩ = some (.string s)) (hs : s.size ≤ 1000000) (hn : (cut 46 s.data.toList).length ≤ 1000000) :
    Calls Tryz.prog 89 #[.slice none 0 0, .func (.func 76) #[] #[.pointer (some ⟨P, 0, none⟩)]] w
      fun e W' => ∃ v, e = .returned v ∧ W'.ownsRow w.heap.size 9 1 v (cut 46 s.data.toList).length (texts (cut 46 s.data.toList)) ∧ Below w.heap.size w W' :=
  callsIn_wide.1 (appendSeq_in s P w hP hs hn)

set_option maxHeartbeats 400000 in
theorem collect_any (s : ByteArray) (P : Nat) (w : World) (hP : w.cell? ⟨P, 0, none⟩ = some (.string s)) (hs : s.size ≤ 1000000) (hn : (cut 46 s.data.toList).length ≤ 1000000) :
    Calls Tryz.prog 77 #[.func (.func 76) #[] #[.pointer (some ⟨P, 0, none⟩)]] w
      fun e W' => ∃ v, e = .returned v ∧ W'.ownsRow w.heap.size 9 1 v (cut 46 s.data.toList).length (texts (cut 46 s.data.toList)) ∧ Below w.heap.size w W' := by
  have H := Lib.hid hP
  clear hP
  go_enter Tryz.func77, Tryz.ntmps77
  go_wp2_with fail
  refine (appendSeq_any s P _ H.out hs hn).mono ?_
  rintro e w1 ⟨v, rfl, hr, hb⟩
  have Hr := Lib.hid hr
  clear hr
  go_wp2
  go_ret
  exact ⟨v, rfl, Hr.out, hb⟩

/-- A version's parts; of what is no version none. -/
def partsOf (l : Bs) : List Bs := if may l then cut 46 l else []

theorem cut_le (b : UInt8) : ∀ l : Bs, (cut b l).length ≤ l.length + 1
  | [] => by simp [cut]
  | c :: r => by
    have ih := cut_le b r
    rw [cut]
    split
    · simp; omega
    · split <;> simp_all <;> omega

theorem may_cut {l : Bs} (h : may l = true) : l.length ≤ 40 ∧ (cut 46 l).length ≤ 8 ∧ ∀ p ∈ cut 46 l, part p = true := by
  unfold may at h
  simp only [Bool.and_eq_true, decide_eq_true_eq, List.all_eq_true] at h
  exact ⟨h.1.1, h.1.2, h.2⟩

set_option maxHeartbeats 400000 in
theorem parts_own (s : ByteArray) (w : World) :
    Calls Tryz.prog 60 #[.string s] w
      fun e W' => ∃ v, e = .returned v ∧ W'.ownsRow w.heap.size 9 1 v (partsOf s.data.toList).length (texts (partsOf s.data.toList)) ∧ Below w.heap.size w W' := by
  cases hm : may s.data.toList with
  | false =>
    have hp : partsOf s.data.toList = [] := by unfold partsOf; rw [hm]; rfl
    rw [hp]
    clear hp
    have Hm := Lib.hid hm
    clear hm
    go_enter Tryz.func60, Tryz.ntmps60
    go_wp2_with fail
    refine (may_any s _).mono ?_
    rintro e w1 ⟨rfl, hb⟩
    rw [Hm.out]
    go_wp2
    go_ret
    exact ⟨_, rfl, World.ownsRow_nil _ _ _ _, hb⟩
  | true =>
    have hp : partsOf s.data.toList = cut 46 s.data.toList := by unfold partsOf; rw [hm]; rfl
    rw [hp]
    obtain ⟨h1, h2, _⟩ := may_cut hm
    rw [size_toList] at h1
    clear hp
    have Hm := Lib.hid hm
    clear hm
    go_enter Tryz.func60, Tryz.ntmps60
    go_wp2_with fail
    refine (may_any s _).mono ?_
    rintro e w1 ⟨rfl, hb⟩
    rw [Hm.out]
    go_wp2_with fail
    refine (parts_any s _).mono ?_
    rintro e w2 ⟨rfl, rfl⟩
    go_wp2_with fail
    refine (collect_any s w1.heap.size _ (cell_new_l _ _ _).1 (by omega) (by omega)).mono ?_
    rintro e w3 ⟨v, rfl, hr, hb2⟩
    have hr2 := ownsRow_base hr (show w.heap.size ≤ (w1.alloc (.cells #[.string s] 9)).heap.size by have := hb.size; simp; omega)
    have Hr := Lib.hid hr2
    clear hr hr2
    go_wp2
    go_ret
    exact ⟨v, rfl, Hr.out, (hb.alloc hb.size _).trans (hb2.mono (by have := hb.size; simp; omega))⟩

end Go.Proofs.YtdijkekglaimfaaGreatDoor.Ver
