/- NeedsRow's walk. -/
import Derived.Test.YtggejmojbebhfaaNdRowMem
namespace Go.Proofs.Ytggejmojbebhfaa.Rc
open Go.RowKit Go.Sort

def RowStr (w : World) (A : Option Addr) (len cap : Nat) (l : List ByteArray) : Prop := RowD strK w (.slice A len cap) l
theorem strs_all {w : World} {b off len cap : Nat} {l : List ByteArray} (h : RowD strK w (.slice (some ⟨b, off, none⟩) len cap) l) (j : Nat) (hj : j < len) : w.cell? ⟨b, off + j, none⟩ = some (.string (nth l j)) ∧ (nth l j).size ≤ maxLen := by
  obtain ⟨b', off', e, _, h1, h2⟩ := str_at h hj
  cases e
  exact ⟨h2, h1⟩
theorem rels0_snoc {l : List ByteArray} {k : Nat} (h : k < l.length) : rels0 (l.take (k + 1)) = rels0 (l.take k) ++ [(nth l k, false)] := by
  unfold rels0; rw [take_snoc h, List.map_append]; rfl
theorem eq_toList {a b : ByteArray} (h : a.toList == b.toList) : a = b := Va.eqS_iff.1 h
def Good (l : List ByteArray) : Prop := l.Nodup ∧ ∀ x ∈ l, vMay x = true
theorem Good.snoc {l : List ByteArray} {k : Nat} (hk : k < l.length) (h : Good (l.take k)) (hm : vMay (nth l k) = true) (hn : ∀ j, j < k → nth l j ≠ nth l k) : Good (l.take (k + 1)) := by
  rw [take_snoc hk]
  refine ⟨?_, fun x hx => ?_⟩
  · rw [List.nodup_append]
    refine ⟨h.1, by simp, fun a ha b hb => ?_⟩
    simp at hb
    subst hb
    obtain ⟨j, hj, rfl⟩ := List.mem_iff_getElem.1 ha
    rw [List.length_take] at hj
    have := hn j (by omega)
    rw [nth_lt (by omega)] at this
    simpa using this
  · rcases List.mem_append.1 hx with hx | hx
    · exact h.2 x hx
    · simp at hx; subst hx; exact hm

set_option maxRecDepth 100000 in
set_option maxHeartbeats 3200000 in
theorem needsRow_any (A : Option Addr) (len cap : Nat) (l : List ByteArray) (w : World) (h : RowStr w A len cap l) :
    Calls Try.prog 8 #[.slice A len cap] w fun e w' => e = .returned (.bool true) ∧ Below w.heap.size w w' := by
  have H : Hid (RowD strK w (.slice A len cap) l) := Lib.hid h
  have HL := Lib.hid H.out.len
  have hc := H.out.cap
  clear h
  have HW := Lib.hid (Below.refl w.heap.size w)
  go_enter Try.func8, Try.ntmps8
  by_cases hbig : 30 < len
  · have k0 : (30 : Int) < (len : Int) := by omega
    go_wp2_with fail
    refine (fixed10_any _).mono ?_
    rintro e w9 ⟨rfl, hb9⟩
    have HB := Lib.hid (HW.out.trans (hb9.mono (HW.out).size))
    clear hb9
    go_wp2
    go_ret
    exact ⟨rfl, HB.out⟩
  · have k0 : ¬ (30 : Int) < (len : Int) := by omega
    go_wp2_with fail
    refine (great01_any _ _ _ _ l H.out).mono ?_
    rintro e w2 ⟨b, rfl, rfl⟩
    cases b with
    | true =>
      go_wp2_with fail
      refine (fixed10_any _).mono ?_
      rintro e w9 ⟨rfl, hb9⟩
      have HB := Lib.hid (HW.out.trans (hb9.mono (HW.out).size))
      clear hb9
      go_wp2
      go_ret
      exact ⟨rfl, HB.out⟩
    | false =>
      go_wp2
      go_loopw [24] (fun i wr => ∃ (k : Nat) (v : Value), k ≤ len ∧ i = .int .i64 k ∧ RowSt w wr v (rels0 (l.take k)) ∧ Hid (Good (l.take k))) (fun i _ => len - (intOf i).toNat)
      case atStart => exact ⟨0, .slice none 0 0, Nat.zero_le _, rfl, ⟨below_alloc' w _, heap_alloc_new w _, OwnK.nil _ _ _ _⟩, Lib.hid ⟨by simp, by simp⟩⟩
      case round =>
        obtain ⟨k, v, hk, rfl, hst, HG⟩ := hrel
        have HS := Lib.hid hst
        obtain ⟨A1, n1, c1, rfl⟩ := hst.sl
        by_cases hlt : k < len
        · obtain ⟨b, off, rfl, hb, hz, c0⟩ := str_at (H.out.below hst.bel (Nat.le_refl _)) hlt
          have HKL := Lib.hid (show k < l.length by rw [← HL.out]; exact hlt)
          obtain ⟨z, hz'⟩ : ∃ z, nth l k = z := ⟨_, rfl⟩
          rw [hz'] at c0 hz
          have HZ := Lib.hid hz'
          have HZS := Lib.hid hz
          obtain ⟨m, hm⟩ : ∃ m, vMay z = m := ⟨_, rfl⟩
          have HM := Lib.hid hm
          clear hz' hz hb hst hm
          go_wp2_with fail
          refine (Ver.refMay_is z m HM.out _).mono ?_
          rintro e w2 ⟨rfl, hb2⟩
          have HS2 := Lib.hid (HS.out.step hb2)
          clear hb2 c0
          cases m with
          | false =>
            go_wp2_with fail
            refine (fixed10_any _).mono ?_
            rintro e w9 ⟨rfl, hb9⟩
            have HB := Lib.hid (HS2.out.bel.trans (hb9.mono (HS2.out.bel).size))
            clear hb9
            go_wp2
            go_ret
            exact ⟨rfl, HB.out⟩
          | true =>
            have HALL := Lib.hid (strs_all (H.out.below HS2.out.bel (Nat.le_refl _)))
            go_wp2
            go_loop [37] (fun i => ∃ m : Nat, m ≤ k ∧ i = .int .i64 m ∧ Hid (∀ j, j < m → nth l j ≠ z)) (fun i => k - (intOf i).toNat)
            case atStart => exact ⟨0, Nat.zero_le _, rfl, Lib.hid fun j hj => absurd hj (Nat.not_lt_zero j)⟩
            case round =>
              obtain ⟨m, hm, rfl, HN⟩ := hrel
              by_cases hlm : m < k
              · have c1 := (HALL.out m (by omega)).1
                obtain ⟨y, hy⟩ : ∃ y, nth l m = y := ⟨_, rfl⟩
                rw [hy] at c1
                have HY := Lib.hid hy
                clear hy
                by_cases he : z = y
                · have e1 : (z.toList == y.toList) = true := by rw [he]; simp
                  clear he
                  go_wp2_with fail
                  refine (fixed10_any _).mono ?_
                  rintro e w9 ⟨rfl, hb9⟩
                  have HB := Lib.hid (HS2.out.bel.trans (hb9.mono (HS2.out.bel).size))
                  clear hb9
                  go_wp2
                  go_ret
                  exact ⟨rfl, HB.out⟩
                · have e1 : (z.toList == y.toList) = false := by
                    rw [Bool.eq_false_iff]; exact fun e => he (eq_toList e)
                  have HNN := Lib.hid (show ∀ j, j < m + 1 → nth l j ≠ z from fun j hj => by
                    by_cases e : j = m
                    · subst e; rw [HY.out]; exact fun e => he e.symm
                    · exact HN.out j (by omega))
                  clear he
                  go_wp2
                  go_round
                  case rel => exact ⟨m + 1, by omega, by go_num, HNN⟩
                  case measure => simp [intOf]; omega
              · obtain rfl : m = k := by omega
                have x2 := cells_get HS2.out.box 2 (v := .slice A1 n1 c1) rfl
                have HLEN := Lib.hid (show (rels0 (l.take m)).length ≤ 99999 by unfold rels0; rw [List.length_map, List.length_take]; have := HKL.out; omega)
                go_wp2_with (at_builtin; refine wpList_app_el elemRel rfl (.tmp 47) (.tmp 50) rfl rfl (w0 := w) (base := w.heap.size) (X := w2.heap.size) (x := (z, false)) (cs := #[.string z, .bool false]) rfl rfl (HS2.out.own.alloc _) (heap_alloc_new _ _) ⟨rfl, HZS.out⟩ HLEN.out (Nat.le_trans HS2.out.bel.size (by simp)) ?_; intro A3 n3 c3 w6 hown6 hgrow6; have HP := Lib.hid (HS2.out.push _ hown6 hgrow6); have c5 := cells_get HP.out.2 2 (v := .slice A1 n1 c1) rfl; have f5 := cells_free HP.out.2 2; clear hown6 hgrow6)
                go_roundw
                case rel => exact ⟨m + 1, _, by omega, by go_num, by rw [rels0_snoc HKL.out, HZ.out]; exact HP.out.1, Lib.hid (HG.out.snoc HKL.out (by rw [HZ.out]; exact HM.out) (by rw [HZ.out]; exact HN.out))⟩
                case measure => simp [intOf]; omega
        · obtain rfl : k = len := by omega
          obtain ⟨wA, hwA⟩ : ∃ wA : World, wA = wr := ⟨_, rfl⟩
          subst hwA
          have HGG := Lib.hid (show Good l by have := HG.out; rwa [HL.out, List.take_length] at this)
          have HS1 := Lib.hid (show RowSt w wA (.slice A1 n1 c1) (rels0 l) by have := HS.out; rwa [HL.out, List.take_length] at this)
          have HV := Lib.hid (show ∀ g, (Value.slice A1 n1 c1).ownBlock = some g → g < wA.heap.size from fun g e => (HS1.out.own.lt g e).2)
          have HVB := Lib.hid (show w.heap.size < wA.heap.size from lt_of_heap HS1.out.box)
          have hmk := make_bools k (by omega) (k : Int) rfl
          clear HG HS hst hk
          go_wp2
          clear hmk
          go_loopw [59] (fun i wr => ∃ (m : Nat) (cs : Array Value), m ≤ k ∧ i = .int .i64 m ∧ RowSt w wr (.slice A1 n1 c1) (rels0 l) ∧ wr.heap[wA.heap.size]? = some (.cells cs 4 (0, 0)) ∧ Hid (Seen l m cs)) (fun i _ => k - (intOf i).toNat)
          case atStart => exact ⟨0, _, Nat.zero_le _, rfl, HS1.out.alloc _, heap_alloc_new _ _, Lib.hid (by rw [HL.out]; exact falses_seen l)⟩
          case round =>
            clear HS1
            obtain ⟨m, cs, hm, rfl, hst, hsn, HN⟩ := hrel
            have HS := Lib.hid hst
            have HSN := Lib.hid hsn
            by_cases hlt : m < k
            · obtain ⟨b, off, rfl, hb, hz, c0⟩ := str_at (H.out.below hst.bel (Nat.le_refl _)) hlt
              have HML := Lib.hid (show m < l.length by rw [← HL.out]; exact hlt)
              obtain ⟨z, hz'⟩ : ∃ z, nth l m = z := ⟨_, rfl⟩
              rw [hz'] at c0
              have HZ := Lib.hid hz'
              obtain ⟨r, hr⟩ : ∃ r, rnk l m = r := ⟨_, rfl⟩
              have HR := Lib.hid (show rankI (rowPkg l) z = (r : Nat) by rw [← hz', ← hr]; exact rank_nth HML.out)
              have hrk : r < k := by rw [← hr, HL.out]; exact rnk_lt HML.out
              have HRR := Lib.hid hr
              have x0 := cells_get hst.box 0 (v := .string ⟨#[]⟩) rfl; have x1 := cells_get hst.box 1 (v := .int .i64 0) rfl; have x2 := cells_get hst.box 2 (v := .slice A1 n1 c1) rfl; have x3 := cells_get hst.box 3 (v := .slice none 0 0) rfl; have x4 := cells_get hst.box 4 (v := .slice none 0 0) rfl; have x5 := cells_get hst.box 5 (v := .slice none 0 0) rfl; have x6 := cells_get hst.box 6 (v := .slice none 0 0) rfl; have x7 := cells_get hst.box 7 (v := .slice none 0 0) rfl
              clear hz' hz hb hst hsn hr
              go_wp2_with fail
              refine (rank_is _ _ _ _ _ _ _ (rowPkg l) z HS.out.pkg _ HR.out).mono ?_
              rintro e w2 ⟨rfl, hb2⟩
              have HS2 := Lib.hid (HS.out.step hb2)
              have HSN2 := Lib.hid (heap_below HSN.out hb2)
              have HNF := Lib.hid (show cs[r]? = some (.bool false) by
                have h1 := HN.out.2 r (by rw [← HL.out]; exact hrk)
                rw [← HRR.out, seenB_own HGG.out.1 HGG.out.2 HML.out] at h1
                rw [← HRR.out]; exact h1)
              have s0 := cells_get HSN2.out r HNF.out
              have s1 := cells_free HSN2.out r
              have HN3 := Lib.hid (show Seen l (m + 1) (cs.setIfInBounds r (.bool true)) by rw [← HRR.out]; exact HN.out.step HML.out)
              have HT := Lib.hid (show Touch w2 (w2.setCell ⟨wA.heap.size, r, none⟩ (.bool true)) (fun i => i = wA.heap.size) from (Touch.refl w2 _).set _ r _ rfl)
              have HS3 := Lib.hid (HS2.out.touch HT.out (fun i hi => by subst hi; exact ⟨HVB.out, fun e => by have := HV.out _ e; omega⟩))
              have HSN3 := Lib.hid (cells_set HSN2.out r (.bool true))
              have hr0 : ¬ (r : Int) < 0 := by omega
              have hr1 : decide ((k : Int) ≤ (r : Int)) = false := by simp; omega
              have hr2 : decide (k ≤ r) = false := by simp; omega
              have hr4 : decide ((r : Int) < 0) = false := by simp
              clear hb2 c0 x0 x1 x2 x3 x4 x5 x6 x7
              go_wp2
              clear hr0 hr1 hr2 hr4 hrk
              go_loopw [85] (fun i wr => ∃ (n : Nat), n ≤ k ∧ i = .int .i64 n ∧ RowSt w wr (.slice A1 n1 c1) (rels0 l) ∧ wr.heap[wA.heap.size]? = some (.cells (cs.setIfInBounds r (.bool true)) 4 (0, 0))) (fun i _ => k - (intOf i).toNat)
              case atStart => exact ⟨0, Nat.zero_le _, rfl, HS3.out, HSN3.out⟩
              case round =>
                clear HS3 HSN3 HT s0 s1
                obtain ⟨n, hn, rfl, hst, hsn⟩ := hrel
                have HS := Lib.hid hst
                have HSN := Lib.hid hsn
                by_cases hlt : n < k
                · have c0 := (strs_all (H.out.below hst.bel (Nat.le_refl _)) n hlt).1
                  have HNL := Lib.hid (show n < l.length by rw [← HL.out]; exact hlt)
                  obtain ⟨y, hy⟩ : ∃ y, nth l n = y := ⟨_, rfl⟩
                  rw [hy] at c0
                  have HY := Lib.hid hy
                  obtain ⟨q, hq⟩ : ∃ q, Ver.less z.data.toList y.data.toList = q := ⟨_, rfl⟩
                  have HQ := Lib.hid hq
                  clear hy hq hst hsn
                  go_wp2_with fail
                  refine (less_is z y q HQ.out _).mono ?_
                  rintro e w3 ⟨rfl, hb3⟩
                  have HS4 := Lib.hid (HS.out.step hb3)
                  have HSN4 := Lib.hid (heap_below HSN.out hb3)
                  clear hb3 c0
                  cases q with
                  | false =>
                    go_wp2
                    go_roundw
                    case rel => exact ⟨n + 1, by omega, by go_num, HS4.out, HSN4.out⟩
                    case measure => simp [intOf]; omega
                  | true =>
                    obtain ⟨r2, hr2⟩ : ∃ r2, rnk l n = r2 := ⟨_, rfl⟩
                    have hlt2 : r2 < r := by rw [← hr2, ← HRR.out]; exact rnk_less HNL.out (by rw [HZ.out, HY.out]; exact HQ.out)
                    have HR2 := Lib.hid (show rankI (rowPkg l) y = (r2 : Nat) by rw [← HY.out, ← hr2]; exact rank_nth HNL.out)
                    have hr3 : ¬ (r : Int) ≤ (r2 : Int) := by omega
                    have x0 := cells_get HS4.out.box 0 (v := .string ⟨#[]⟩) rfl; have x1 := cells_get HS4.out.box 1 (v := .int .i64 0) rfl; have x2 := cells_get HS4.out.box 2 (v := .slice A1 n1 c1) rfl; have x3 := cells_get HS4.out.box 3 (v := .slice none 0 0) rfl; have x4 := cells_get HS4.out.box 4 (v := .slice none 0 0) rfl; have x5 := cells_get HS4.out.box 5 (v := .slice none 0 0) rfl; have x6 := cells_get HS4.out.box 6 (v := .slice none 0 0) rfl; have x7 := cells_get HS4.out.box 7 (v := .slice none 0 0) rfl
                    clear hr2
                    go_wp2_with fail
                    refine (rank_is _ _ _ _ _ _ _ (rowPkg l) y HS4.out.pkg _ HR2.out).mono ?_
                    rintro e w4 ⟨rfl, hb4⟩
                    have HS5 := Lib.hid (HS4.out.step hb4)
                    have HSN5 := Lib.hid (heap_below HSN4.out hb4)
                    clear hb4 x0 x1 x2 x3 x4 x5 x6 x7
                    go_wp2
                    go_roundw
                    case rel => exact ⟨n + 1, by omega, by go_num, HS5.out, HSN5.out⟩
                    case measure => simp [intOf]; omega
                · obtain rfl : n = k := by omega
                  clear hst hsn
                  go_wp2
                  go_roundw
                  case rel => exact ⟨m + 1, _, by omega, by go_num, HS.out, HSN.out, HN3⟩
                  case measure => simp [intOf]; omega
            · obtain rfl : m = k := by omega
              clear hst hsn
              go_wp2_with fail
              refine (fixed10_any _).mono ?_
              rintro e w9 ⟨rfl, hb9⟩
              have HB := Lib.hid (HS.out.bel.trans (hb9.mono (HS.out.bel).size))
              clear hb9
              go_wp2
              go_ret
              exact ⟨rfl, HB.out⟩
theorem needsRow_w (A : Option Addr) (len cap : Nat) (l : List ByteArray) (w : World) (h : RowStr w A len cap l) :
    Calls Try.prog 8 #[.slice A len cap] w fun e w' => e = .returned (.bool true) ∧ Below w.heap.size w w' := needsRow_any A len cap l w h
end Go.Proofs.Ytggejmojbebhfaa.Rc
