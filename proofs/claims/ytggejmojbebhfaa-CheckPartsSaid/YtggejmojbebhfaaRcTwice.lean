/- twice, versions, hasTooMany. -/
import Derived.Test.YtggejmojbebhfaaRcMath2
import Derived.Test.YtggejmojbebhfaaRcFind2
import Derived.Test.YtggejmojbebhfaaRcOwn
namespace Go.Proofs.Ytggejmojbebhfaa.Rc
open Go.RowKit

theorem range_any_snoc (k : Nat) (p : Nat → Bool) : (List.range (k + 1)).any p = ((List.range k).any p || p k) := by rw [List.range_succ, List.any_append]; simp
set_option maxRecDepth 100000 in
set_option maxHeartbeats 800000 in
theorem twice_any (w : World) (v : Value) (l : List ByteArray) (h : RowD strK w v l) :
    Calls Try.prog 64 #[v] w fun e w' => e = .returned (.bool (twiceB l)) ∧ w = w' := by
  obtain ⟨A, L, c, rfl, hL, h1, h2⟩ := h.open'
  unfold maxLen at h2
  have H := Lib.hid h
  have HL := Lib.hid hL
  clear h hL
  go_enter Try.func64, Try.ntmps64
  go_wp2
  go_loop [7] (fun i => ∃ k : Nat, k ≤ L ∧ i = .int .i64 k ∧ Hid ((List.range k).any (fun i => hasS (l.take i) (nth l i)) = false)) (fun i => L - (intOf i).toNat)
  case atStart => exact ⟨0, Nat.zero_le _, rfl, Lib.hid (by simp)⟩
  case round =>
    obtain ⟨k, hk, rfl, hall⟩ := hrel
    by_cases hlt : k < L
    · obtain ⟨b, off, rfl, hb, hs, hc⟩ := str_at H.out hlt
      have HT := Lib.hid (to_strs (H.out.take hk))
      have hkc : ¬ (c : Int) < (k : Int) := by omega
      have HS := Lib.hid (range_any_snoc k (fun i => hasS (l.take i) (nth l i)))
      obtain ⟨q, hq⟩ : ∃ q, hasS (l.take k) (nth l k) = q := ⟨_, rfl⟩
      have HQ := Lib.hid hq
      have hkl : k < l.length := by rw [← HL.out]; exact hlt
      clear hq hs
      go_wp2_with fail
      refine (Va.contains_is _ _ _ _ HT.out q HQ.out).mono ?_
      rintro e w' ⟨rfl, rfl⟩
      cases q with
      | true =>
        have Hv := Lib.hid (show twiceB l = true from List.any_eq_true.2 ⟨k, List.mem_range.2 hkl, HQ.out⟩)
        clear hkl
        go_wp2
        go_ret
        exact ⟨ret_bool Hv.out.symm, rfl⟩
      | false =>
        have hn : Hid ((List.range (k + 1)).any (fun i => hasS (l.take i) (nth l i)) = false) := Lib.hid (by rw [HS.out, hall.out, HQ.out]; rfl)
        clear hkl
        go_wp2
        go_round
        case rel => exact ⟨k + 1, by omega, by go_num, hn⟩
        case measure => simp [intOf]; omega
    · obtain rfl : k = L := by omega
      have Hv := Lib.hid (show twiceB l = false by
        have := hall.out
        rwa [HL.out] at this)
      go_wp2
      go_ret
      exact ⟨ret_bool Hv.out.symm, rfl⟩
theorem twice_is (w : World) (v : Value) (l : List ByteArray) (h : RowD strK w v l) (b : Bool) (hb : twiceB l = b) :
    Calls Try.prog 64 #[v] w fun e w' => e = .returned (.bool b) ∧ w = w' := by subst hb; exact twice_any w v l h

set_option maxRecDepth 100000 in
set_option maxHeartbeats 1600000 in
theorem tooMany_any (w : World) (v1 v2 v3 v4 v5 v6 : Value) (p : Pkg) (hp : IsPkg w v1 v2 v3 v4 v5 v6 p) :
    Calls Try.prog 63 #[.agg #[.string p.name, .int .i64 p.line, v1, v2, v3, v4, v5, v6]] w fun e w' => e = .returned (.bool (tooManyB p)) ∧ Below w.heap.size w w' := by
  obtain ⟨⟨a1, n1, k1, rfl⟩, ⟨a2, n2, k2, rfl⟩, ⟨a3, n3, k3, rfl⟩, ⟨a4, n4, k4, rfl⟩, ⟨a5, n5, k5, rfl⟩, ⟨a6, n6, k6, rfl⟩⟩ := hp.sls
  have e : tooManyB p = decide (10 < n1 ∨ 16 < n4 ∨ 8 < n5 ∨ 4 < n3 ∨ 8 < n6) := by
    unfold tooManyB
    rw [← hp.rels.len, ← hp.deps.len, ← hp.cons.len, ← hp.prov.len, ← hp.files.len]
  obtain ⟨q, hq⟩ : ∃ q, tooManyB p = q := ⟨_, rfl⟩
  rw [hq] at e ⊢
  have HE := Lib.hid e
  have HB := Lib.hid (below_alloc' w (.cells #[.string p.name, .int .i64 p.line, .slice a1 n1 k1, .slice a2 n2 k2, .slice a3 n3 k3, .slice a4 n4 k4, .slice a5 n5 k5, .slice a6 n6 k6] 45))
  clear hp e hq
  go_enter Try.func63, Try.ntmps63
  go_wp2
  all_goals
    go_ret
    refine ⟨ret_bool ?_, HB.out⟩
    rw [HE.out]
    rw [Bool.eq_iff_iff, decide_eq_true_iff]
    simp only [Bool.or_eq_true, decide_eq_true_iff, true_iff]
    omega
theorem tooMany_is (w : World) (v1 v2 v3 v4 v5 v6 : Value) (p : Pkg) (hp : IsPkg w v1 v2 v3 v4 v5 v6 p) (b : Bool) (hb : tooManyB p = b) :
    Calls Try.prog 63 #[.agg #[.string p.name, .int .i64 p.line, v1, v2, v3, v4, v5, v6]] w fun e w' => e = .returned (.bool b) ∧ Below w.heap.size w w' := by subst hb; exact tooMany_any w v1 v2 v3 v4 v5 v6 p hp

/-- A row of texts of the call's own. -/
def GivesS (l : List ByteArray) (w : World) (e : Ending) (w' : World) : Prop := ∃ A L c, e = .returned (.slice A L c) ∧ OwnS w' w.heap.size (.slice A L c) l ∧ Below w.heap.size w w'
theorem map_snoc {α β : Type} [Inhabited α] {l : List α} {k : Nat} (hk : k < l.length) (f : α → β) : (l.take (k + 1)).map f = (l.take k).map f ++ [f (nth l k)] := by
  rw [take_snoc hk, List.map_append]; rfl

set_option maxRecDepth 100000 in
set_option maxHeartbeats 1600000 in
theorem versions_any (w : World) (v1 v2 v3 v4 v5 v6 : Value) (p : Pkg) (hp : IsPkg w v1 v2 v3 v4 v5 v6 p) (hl : p.rels.length ≤ 1000) :
    Calls Try.prog 65 #[.agg #[.string p.name, .int .i64 p.line, v1, v2, v3, v4, v5, v6]] w (GivesS (p.rels.map (·.1)) w) := by
  obtain ⟨⟨a1, n1, k1, rfl⟩, ⟨a2, n2, k2, rfl⟩, ⟨a3, n3, k3, rfl⟩, ⟨a4, n4, k4, rfl⟩, ⟨a5, n5, k5, rfl⟩, ⟨a6, n6, k6, rfl⟩⟩ := hp.sls
  obtain ⟨hk1, hk2⟩ := hp.rels.cap
  have hL := hp.rels.len
  have hn1 : n1 ≤ 1000 := by omega
  have HL := Lib.hid hL
  have HR := Lib.hid hp.rels
  have HB := Lib.hid (below_alloc' w (.cells #[.string p.name, .int .i64 p.line, .slice a1 n1 k1, .slice a2 n2 k2, .slice a3 n3 k3, .slice a4 n4 k4, .slice a5 n5 k5, .slice a6 n6 k6] 45))
  clear hp hL hl
  go_enter Try.func65, Try.ntmps65
  go_wp2
  go_loopw [3, 9] (fun t i wr => ∃ (k : Nat) (T : Option Addr) (n c : Nat), k ≤ n1 ∧ i = .int .i64 k ∧ t = .slice T n c ∧ OwnS wr w.heap.size (.slice T n c) ((p.rels.take k).map (·.1)) ∧ Below w.heap.size w wr) (fun _ i _ => n1 - (intOf i).toNat)
  case atStart => exact ⟨0, none, 0, 0, Nat.zero_le _, rfl, rfl, OwnV.nil _ _, HB.out⟩
  case round =>
    clear HB
    obtain ⟨k, T, n, c, hk, rfl, rfl, hown, hbw⟩ := hrel
    have HO := Lib.hid hown
    have HBW := Lib.hid hbw
    by_cases hlt : k < n1
    · obtain ⟨b, off, rfl, hb, hs, d0, d1⟩ := rel_at (HR.out.below hbw (Nat.le_refl _)) hlt
      have hbox := Boxed.new wr #[.string (nth p.rels k).1, .bool (nth p.rels k).2] 58
      have b0 := hbox.get 0 (v := .string (nth p.rels k).1) rfl
      have HB1 := Lib.hid (HBW.out.trans (hbox.bel.mono HBW.out.size))
      have HO1 := Lib.hid ((HO.out.below hbox.bel).alloc (.cells #[.string (nth p.rels k).1] 9))
      have HZ := Lib.hid (show ((p.rels.take k).map (·.1)).length ≤ 200000 by rw [List.length_map, List.length_take]; omega)
      have hkl : k < p.rels.length := by rw [← HL.out]; exact hlt
      have HMS := Lib.hid (map_snoc hkl (fun x : Rel => x.1))
      have HBZ := Lib.hid (HB1.out.alloc HB1.out.size (.cells #[.string (nth p.rels k).1] 9))
      clear hown hbw hbox hkl hs
      have H0 := Lib.hid HO1.out.raw
      have H1 := Lib.hid (show (List.map encS (List.map (fun x : Rel => x.1) (List.take k p.rels))).length ≤ 200000 by rw [List.length_map]; exact HZ.out)
      have H2 := Lib.hid HBZ.out.size
      have H3 := Lib.hid (heap_new_2 wr (.cells #[.string (nth p.rels k).1, .bool (nth p.rels k).2] 58) (.cells #[.string (nth p.rels k).1] 9))
      go_wp2_with (at_builtin; refine wpList_app_one oneStr ?_ (.tmp 13) (.tmp 16) ?_ ?_ (base := w.heap.size) (X := wr.heap.size + 1) (u := .string (nth p.rels k).1) (xs := ((p.rels.take k).map (·.1)).map encS) ?_ ?_ H0.out H3.out rfl H1.out H2.out ?_; rfl; rfl; rfl; rfl; rfl; intro A' L' c' w' hown' hgrow'; have HO2 := Lib.hid (OwnV.snoc hown'); have HB2 := Lib.hid (HBZ.out.grown hgrow' H2.out (fun g hg => (HO1.out.lt g hg).1)); clear hown' hgrow')
      go_roundw
      case rel => exact ⟨k + 1, A', L', c', by omega, by go_num, rfl, by rw [HMS.out]; exact HO2.out, HB2.out⟩
      case measure => simp [intOf]; omega
    · obtain rfl : k = n1 := by omega
      clear hown hbw
      go_wp2
      go_ret
      have hO := HO.out
      rw [HL.out, List.take_length] at hO
      exact ⟨_, _, _, rfl, hO, HBW.out⟩
end Go.Proofs.Ytggejmojbebhfaa.Rc
