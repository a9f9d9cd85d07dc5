/- slices.Concat of two rows; spans.forms; spans.Union. -/
import Derived.Test.YtdijkekglaimfaaGreatSsGrpE
import Derived.Test.YtdijkekglaimfaaGreatShelf2
namespace Go.Proofs.YtdijkekglaimfaaGreat.Sq
open Go.RowKit Rc Ver Ss

def GrowD (w : World) (e : Ending) (w' : World) : Prop := ∃ v, e = .returned v ∧ (∀ w0, OwnK setK 39 w0 w' w.heap.size v []) ∧ RowKit.Below w.heap.size w w'
theorem grow_is (w : World) (n : Nat) (hn : n ≤ 99999) : Calls Tryz.prog 62 #[.slice none 0 0, .int .i64 n] w (GrowD w) := by
  rcases Nat.eq_zero_or_pos n with rfl | hp
  · refine (Any8.slices_Grow_room Tryz.growS none 0 0 0 w (Nat.le_refl _) (by omega) (by omega) (by omega)).mono ?_
    rintro e w' ⟨rfl, rfl⟩
    exact ⟨_, rfl, fun w0 => OwnK.nil _ w0 _ _, RowKit.Below.refl _ _⟩
  · obtain ⟨z, m, hi, hzc, hm0, hm⟩ := elemSpan.info
    obtain ⟨i0, hi0, hz0, hz1, hz2⟩ := info_parts hi
    have h2 : i0.size = 2 := hz1
    have hz2' : z.cells.size = 2 := hzc
    refine (Any8.slices_Grow_grow Tryz.growS i0 z hi0 hz0 (by rw [h2]; decide) none 0 0 n [] w (Nat.le_refl _) (by omega) (by
      rw [hz2]
      have := Nat.mul_le_mul (show 0 + n ≤ 100000 by omega) hm
      omega) (by omega) (by simp) (fun _ => rfl) (fun a ha => by cases ha)).mono ?_
    rintro e w' ⟨rfl, rfl⟩
    have hge := grownCap_ge w (0 + n) 0 39
    have hle := grownCap_le_maxLen w (0 + n) 0 39 (by unfold maxLen; omega)
    refine ⟨_, rfl, fun w0 => ⟨[], Css.nil w0, World.ownsRow_made w.drew _ _ (Nat.le_refl _) hle ?_⟩, (RowKit.Below.refl _ _).drew.alloc (Nat.le_refl _) _⟩
    have e1 : (0 + n - 0) * 2 + (grownCap w (0 + n) 0 39 - (0 + n)) * 2 = grownCap w (0 + n) 0 39 * 2 := by omega
    simp only [Array.size_append, size_zeroCells, hz2', List.size_toArray, List.length_nil, Nat.zero_add] at e1 ⊢
    exact e1
def szK (L1 L2 : Nat) : Nat → Nat
  | 0 => 0
  | 1 => L1
  | _ => L1 + L2
def catK (x y : List Spn) : Nat → List Spn
  | 0 => []
  | 1 => x
  | _ => x ++ y
set_option maxRecDepth 100000 in
set_option maxHeartbeats 4000000 in
theorem concat_is (w : World) (X : Nat) (v1 v2 : Value) (x y : List Spn) (hX : w.heap[X]? = some (.cells #[v1, v2] 22 (0, 0))) (h1 : RowD setK w v1 x) (h2 : RowD setK w v2 y) (hl : x.length + y.length ≤ 99999) :
    Calls Tryz.prog 42 #[.slice (some ⟨X, 0, none⟩) 2 2] w (CollD (x ++ y) w) := by
  obtain ⟨A1, L1, c1, rfl⟩ := h1.sl
  obtain ⟨A2, L2, c2, rfl⟩ := h2.sl
  have H1 := Lib.hid h1
  have H2 := Lib.hid h2
  have HL1 := Lib.hid h1.len
  have HL2 := Lib.hid h2.len
  have hc1 := h1.cap
  have hc2 := h2.cap
  have hll : L1 + L2 ≤ 99999 := by rw [h1.len, h2.len]; exact hl
  have q0 := cells_get hX 0 (v := .slice A1 L1 c1) rfl
  have q1 := cells_get hX 1 (v := .slice A2 L2 c2) rfl
  have HX := Lib.hid hX
  clear h1 h2 hX
  go_enter Tryz.func42, Tryz.ntmps42
  go_wp2
  go_loop [3, 11] (fun s i => ∃ k : Nat, k ≤ 2 ∧ i = .int .i64 k ∧ s = .int .i64 (szK L1 L2 k : Nat)) (fun _ i => 2 - (RowKit.intOf i).toNat)
  case atStart => exact ⟨0, by omega, rfl, rfl⟩
  case round =>
    obtain ⟨k, hk, rfl, rfl⟩ := hrel
    match k, hk with
    | 0, _ =>
      have e0 : ((szK L1 L2 0 : Nat) : Int) = 0 := rfl
      have g1 : ¬ (L1 : Int) < 0 := by omega
      go_wp2
      go_round
      case rel => exact ⟨1, by omega, by go_num, by first | rfl | go_num⟩
      case measure => simp [RowKit.intOf]
    | 1, _ =>
      have e0 : ((szK L1 L2 1 : Nat) : Int) = L1 := rfl
      have g1 : ¬ (L1 : Int) + (L2 : Int) < 0 := by omega
      go_wp2
      go_round
      case rel => exact ⟨2, by omega, by go_num, by first | rfl | go_num⟩
      case measure => simp [RowKit.intOf]
    | 2, _ =>
      have HG := Lib.hid (grow_is w (L1 + L2) hll)
      have e0 : ((szK L1 L2 2 : Nat) : Int) = ((L1 + L2 : Nat) : Int) := rfl
      go_wp2_with fail
      refine HG.out.mono ?_
      rintro e w1 ⟨v, rfl, hv, hb⟩
      have HV := Lib.hid (hv w)
      have HB := Lib.hid hb
      clear hv hb
      go_wp2
      go_loopw [6, 27] (fun s i wr => ∃ k : Nat, k ≤ 2 ∧ i = .int .i64 k ∧ Hid (OwnK setK 39 w wr w.heap.size s (catK x y k)) ∧ Hid (RowKit.Below w.heap.size w wr)) (fun _ i _ => 2 - (RowKit.intOf i).toNat)
      case atStart => exact ⟨0, by omega, rfl, HV, HB⟩
      case round =>
        clear HV HB
        obtain ⟨k, hk, rfl, HV, HB⟩ := hrel
        obtain ⟨A5, L5, c5, rfl⟩ := HV.out.sl
        have r0 := cells_get (heap_below HX.out HB.out) 0 (v := .slice A1 L1 c1) rfl
        have r1 := cells_get (heap_below HX.out HB.out) 1 (v := .slice A2 L2 c2) rfl
        match k, hk with
        | 0, _ =>
          have HV0 : Hid (OwnK setK 39 w wr w.heap.size (.slice A5 L5 c5) []) := HV
          have HS : Hid (([] : List Spn).length + x.length ≤ 100000) := Lib.hid (by simp; omega)
          go_wp2_with (at_builtin; refine wpList_app_row elemSpan rfl (.tmp 31) (.tmp 32) rfl rfl (w0 := w) (base := w.heap.size) (v := .slice A5 L5 c5) (x := .slice A1 L1 c1) (xs := []) (zs := x) rfl rfl HB.out HV0.out H1.out HS.out HB.out.size ?_; intro A6 L6 c6 w6 hown6 hg6; have HV6 := Lib.hid hown6; have HB6 := Lib.hid (HB.out.grown hg6 HB.out.size (fun g hgg => (HV0.out.lt g hgg).1)); clear hown6 hg6)
          go_roundw
          case rel => exact ⟨1, by omega, by go_num, Lib.hid (show OwnK setK 39 w w6 w.heap.size _ (catK x y 1) from HV6.out), HB6⟩
          case measure => simp [RowKit.intOf]
        | 1, _ =>
          have HV1 : Hid (OwnK setK 39 w wr w.heap.size (.slice A5 L5 c5) x) := HV
          have HS : Hid (x.length + y.length ≤ 100000) := Lib.hid (by omega)
          go_wp2_with (at_builtin; refine wpList_app_row elemSpan rfl (.tmp 31) (.tmp 32) rfl rfl (w0 := w) (base := w.heap.size) (v := .slice A5 L5 c5) (x := .slice A2 L2 c2) (xs := x) (zs := y) rfl rfl HB.out HV1.out H2.out HS.out HB.out.size ?_; intro A6 L6 c6 w6 hown6 hg6; have HV6 := Lib.hid hown6; have HB6 := Lib.hid (HB.out.grown hg6 HB.out.size (fun g hgg => (HV1.out.lt g hgg).1)); clear hown6 hg6)
          go_roundw
          case rel => exact ⟨2, by omega, by go_num, Lib.hid (show OwnK setK 39 w w6 w.heap.size _ (catK x y 2) from HV6.out), HB6⟩
          case measure => simp [RowKit.intOf]
        | 2, _ =>
          have HV2 : Hid (OwnK setK 39 w wr w.heap.size (.slice A5 L5 c5) (x ++ y)) := HV
          go_wp2
          go_ret
          exact ⟨_, rfl, HV2.out, HB.out⟩
end Go.Proofs.YtdijkekglaimfaaGreat.Sq

/- spans.forms; spans.Union. -/
namespace Go.Proofs.YtdijkekglaimfaaGreat.Sq
open Go.RowKit Rc Ver Ss

def FormsD (x y : List Spn × Bool) (w : World) (e : Ending) (w' : World) : Prop := ∃ v1 v2, e = .returned (.tuple #[v1, v2, .bool (x.2 && y.2)]) ∧ RowD setK w' v1 x.1 ∧ RowD setK w' v2 y.1 ∧ RowKit.Below w.heap.size w w'
set_option maxHeartbeats 1600000 in
theorem forms_is (w : World) (u v : Value) (a b : List Spn) (ha : RowD setK w u a) (hb : RowD setK w v b) (hla : a.length ≤ 99999) (hlb : b.length ≤ 99999) (x y : List Spn × Bool) (hx : form a = x) (hy : form b = y) :
    Calls Tryz.prog 41 #[u, v] w (FormsD x y w) := by
  obtain ⟨A1, L1, c1, rfl⟩ := ha.sl
  obtain ⟨A2, L2, c2, rfl⟩ := hb.sl
  obtain ⟨x, p⟩ := x
  obtain ⟨y, q⟩ := y
  have HA := Lib.hid ha
  have HB := Lib.hid hb
  have HX := Lib.hid hx
  have HY := Lib.hid hy
  clear ha hb hx hy
  go_enter Tryz.func41, Tryz.ntmps41
  go_wp2_with fail
  refine (form_any _ _ a HA.out hla (x, p) HX.out).mono ?_
  rintro e w1 ⟨v1, rfl, hv1, hb1⟩
  obtain ⟨A3, L3, c3, rfl⟩ := hv1.sl
  have HV1 := Lib.hid hv1
  have HB1 := Lib.hid hb1
  clear hv1 hb1
  go_wp2_with fail
  refine (form_any _ _ b (HB.out.below HB1.out (Nat.le_refl _)) hlb (y, q) HY.out).mono ?_
  rintro e w2 ⟨v2, rfl, hv2, hb2⟩
  obtain ⟨A4, L4, c4, rfl⟩ := hv2.sl
  have HV2 := Lib.hid hv2
  have HV1' := Lib.hid (HV1.out.below hb2 (Nat.le_refl _))
  have HB2 := Lib.hid (HB1.out.trans (hb2.mono HB1.out.size))
  clear hv2 hb2
  cases p with
  | true =>
    go_wp2
    exact bodyPost_ret (v := .tuple #[.slice A3 L3 c3, .slice A4 L4 c4, .bool q]) (by simp [results, Tryz.results41, go_sem]) rfl ⟨_, _, by rw [Bool.true_and], HV1'.out, HV2.out, HB2.out⟩
  | false =>
    go_wp2
    exact bodyPost_ret (v := .tuple #[.slice A3 L3 c3, .slice A4 L4 c4, .bool false]) (by simp [results, Tryz.results41, go_sem]) rfl ⟨_, _, by rw [Bool.false_and], HV1'.out, HV2.out, HB2.out⟩
/-- Two sets together. -/
noncomputable def unionL (a b : List Spn) : List Spn := if ((form a).2 && (form b).2) = true then (form ((form a).1 ++ (form b).1)).1 else []
def RowsD (l : List Spn) (w : World) (e : Ending) (w' : World) : Prop := ∃ v, e = .returned v ∧ RowD setK w' v l ∧ RowKit.Below w.heap.size w w'
theorem form_le (l : List Spn) : (form l).1.length ≤ 16 := by
  cases h : (form l).2 with
  | true => exact (form_true h).2.2
  | false => rw [form_false h]; exact Nat.zero_le _
set_option maxHeartbeats 1600000 in
theorem union_is (w : World) (u v : Value) (a b : List Spn) (ha : RowD setK w u a) (hb : RowD setK w v b) (hla : a.length ≤ 99999) (hlb : b.length ≤ 99999) (z : List Spn) (hz : unionL a b = z) :
    Calls Tryz.prog 18 #[u, v] w (RowsD z w) := by
  obtain ⟨A1, L1, c1, rfl⟩ := ha.sl
  obtain ⟨A2, L2, c2, rfl⟩ := hb.sl
  obtain ⟨x, p, hxp⟩ : ∃ x p, form a = (x, p) := ⟨_, _, rfl⟩
  obtain ⟨y, q, hyq⟩ : ∃ y q, form b = (y, q) := ⟨_, _, rfl⟩
  have hlx := form_le a
  have hly := form_le b
  rw [hxp] at hlx
  rw [hyq] at hly
  have HXL := Lib.hid (show x.length + y.length ≤ 32 by have h1 : x.length ≤ 16 := hlx; have h2 : y.length ≤ 16 := hly; omega)
  have HF := Lib.hid (forms_is w _ _ a b ha hb hla hlb _ _ hxp hyq)
  have HZ := Lib.hid (show z = if (p && q) = true then (form (x ++ y)).1 else [] by rw [← hz]; unfold unionL; rw [hxp, hyq])
  clear ha hb hxp hyq hlx hly hz
  go_enter Tryz.func18, Tryz.ntmps18
  go_wp2_with fail
  refine HF.out.mono ?_
  rintro e w1 ⟨v1, v2, rfl, hv1, hv2, hb1⟩
  obtain ⟨A3, L3, c3, rfl⟩ := hv1.sl
  obtain ⟨A4, L4, c4, rfl⟩ := hv2.sl
  have HV1 := Lib.hid hv1
  have HV2 := Lib.hid hv2
  have HB1 := Lib.hid hb1
  clear hv1 hv2 hb1
  obtain ⟨s, hs⟩ : ∃ s, (p && q) = s := ⟨_, rfl⟩
  have HS := Lib.hid hs
  simp only [hs]
  clear hs
  cases s with
  | false =>
    have HV := Lib.hid (show z = [] by rw [HZ.out, if_neg (by rw [HS.out]; decide)])
    go_wp2
    go_ret
    exact ⟨_, rfl, by rw [HV.out]; exact RowD.nil _, HB1.out⟩
  | true =>
    have HV := Lib.hid (show z = (form (x ++ y)).1 by rw [HZ.out, if_pos HS.out])
    have hba : RowKit.Below w1.heap.size w1 (w1.alloc (.cells #[.slice A3 L3 c3, .slice A4 L4 c4] 22)) := (RowKit.Below.refl _ _).alloc (Nat.le_refl _) _
    have HC := Lib.hid (concat_is (w1.alloc (.cells #[.slice A3 L3 c3, .slice A4 L4 c4] 22)) w1.heap.size (.slice A3 L3 c3) (.slice A4 L4 c4) x y (heap_alloc_new w1 _) (HV1.out.below hba (Nat.le_refl _)) (HV2.out.below hba (Nat.le_refl _)) (by have := HXL.out; omega))
    have HBA := Lib.hid (HB1.out.trans (hba.mono HB1.out.size))
    clear hba
    obtain ⟨t, r, htr⟩ : ∃ t r, form (x ++ y) = (t, r) := ⟨_, _, rfl⟩
    have HT := Lib.hid htr
    clear htr
    go_wp2_with fail
    refine HC.out.mono ?_
    rintro e w2 ⟨v5, rfl, hv5, hb2⟩
    have HV5 := Lib.hid (hv5.row hb2)
    have HB2 := Lib.hid (HBA.out.trans (hb2.mono HBA.out.size))
    clear hv5 hb2
    go_wp2_with fail
    refine (form_any _ _ (x ++ y) HV5.out (by rw [List.length_append]; have := HXL.out; omega) (t, r) HT.out).mono ?_
    rintro e w3 ⟨v6, rfl, hv6, hb3⟩
    have HV6 := Lib.hid hv6
    have HB3 := Lib.hid (HB2.out.trans (hb3.mono HB2.out.size))
    clear hv6 hb3
    go_wp2
    go_ret
    exact ⟨_, rfl, by rw [HV.out, HT.out]; exact HV6.out, HB3.out⟩
end Go.Proofs.YtdijkekglaimfaaGreat.Sq
