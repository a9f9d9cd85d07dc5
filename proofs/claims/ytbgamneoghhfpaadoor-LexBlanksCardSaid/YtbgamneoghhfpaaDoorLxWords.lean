/- The walk of wordsOf. -/
import Derived.Test.YtbgamneoghhfpaaDoorLxMem
namespace Go.Proofs.YtbgamneoghhfpaaDoor.Lx
open Go.RowKit

theorem get_byte {s : ByteArray} {k : Nat} (h : k < s.size) : s.data.toList[k]? = some s[k] := by
  rw [List.getElem?_eq_getElem (by simpa using h)]; simp; rfl

/-- What wordsOf answers. -/
def WordsPost (w : World) (ln : ByteArray) (R : Sum (Nat × Nat) St) (e : Ending) (w' : World) : Prop :=
  match R with
  | .inl (c, x) => e = .returned (.tuple #[.slice none 0 0, .int .i64 (c : Nat), .int .i64 (x : Nat)]) ∧ Below w.heap.size w w'
  | .inr st => ∃ A n cap, e = .returned (.tuple #[.slice A n cap, .int .i64 0, .int .i64 0]) ∧ n = st.cols.length ∧ OwnW w' w.heap.size (.slice A n cap) (wordsB ln st.cols) ∧ Below w.heap.size w w'

theorem wordsTo_len (p : ByteArray) (i : Nat) (cols : List Nat) : (wordsTo p i cols).length = cols.length := by simp [wordsTo]
theorem wordsTo_snoc {p : ByteArray} {i : Nat} {pre : List Nat} {c : Nat} (h : i ≤ re p.data.toList c) : wordsTo p i (pre ++ [c]) = wordsTo p i pre ++ [(c + 1, p.extract c i)] := by
  unfold wordsTo
  rw [List.map_append]
  simp only [List.map_cons, List.map_nil]
  rw [Nat.min_eq_left h]

set_option maxRecDepth 100000 in
set_option maxHeartbeats 3200000 in
theorem wordsOf_any (ln : ByteArray) (most : Nat) (w : World) (hs : ln.size ≤ 65536) (hm : most ≤ 40) (R : Sum (Nat × Nat) St) (hR : lineS most ln.data.toList = R) :
    Calls Tryd.prog 15 #[.string ln, .int .i64 (most : Nat)] w (WordsPost w ln R) := by
  have HR := Lib.hid hR
  have hlen : ln.data.toList.length = ln.size := by simp
  have HLEN := Lib.hid hlen
  clear hR hlen
  go_enter Tryd.func15, Tryd.ntmps15
  go_wp2
  go_loopw [7, 8, 9, 15] (fun t f g i wr => ∃ (k : Nat) (cols : List Nat) (inw rem : Bool) (A : Option Addr) (n cap : Nat), k ≤ ln.size ∧ i = .int .i64 k ∧ f = .bool inw ∧ g = .bool rem ∧ t = .slice A n cap ∧ n ≤ 40 ∧ n = cols.length ∧
      OwnW wr w.heap.size (.slice A n cap) (wordsTo ln k cols) ∧ Inv most ln.data.toList k ⟨cols, inw, rem⟩ ∧ runS most (ln.data.toList.drop k) k ⟨cols, inw, rem⟩ = R ∧ Below w.heap.size w wr) (fun _ _ _ i _ => ln.size - (intOf i).toNat)
  case atStart => exact ⟨0, [], false, false, none, 0, 0, Nat.zero_le _, rfl, rfl, rfl, rfl, by omega, rfl, own_nilW _ _, Inv.start _ _, HR.out, Below.refl _ _⟩
  case round =>
    obtain ⟨k, cols, inw, rem, A, n, cap, hk, rfl, rfl, rfl, rfl, hn40, hn, hown, hinv, hrun, hbw⟩ := hrel
    have HN := Lib.hid hn
    have HO := Lib.hid hown
    have HI := Lib.hid hinv
    have HB := Lib.hid hbw
    clear HR hn hown hinv hbw
    by_cases hlt : k < ln.size
    · have hc := get_byte hlt
      rw [runS_at hc] at hrun
      have HC := Lib.hid hc
      clear hc
      by_cases h1 : (ln[k].toNat : Int) < 32
      · have hr : R = .inl (k + 1, 3) := by rw [← hrun]; unfold stepS badB; simp [h1]
        have HR := Lib.hid hr
        clear hrun hr
        go_wp2
        go_ret3
        rw [HR.out]
        exact ⟨by first | rfl | (congr 1), HB.out⟩
      · by_cases h2 : 126 < (ln[k].toNat : Int)
        · have hr : R = .inl (k + 1, 3) := by rw [← hrun]; unfold stepS badB; simp [h2]
          have HR := Lib.hid hr
          clear hrun hr
          go_wp2
          go_ret3
          rw [HR.out]
          exact ⟨by first | rfl | (congr 1), HB.out⟩
        · have hbad : badB ln[k] = false := by unfold badB; simp; omega
          have hskip : ∀ (r2 : Bool), (rem || decide ((ln[k].toNat : Int) = 35) || decide ((ln[k].toNat : Int) = 32)) = true → (rem || decide ((ln[k].toNat : Int) = 35)) = r2 →
              runS most (ln.data.toList.drop (k + 1)) (k + 1) ⟨cols, false, r2⟩ = R ∧ Inv most ln.data.toList (k + 1) ⟨cols, false, r2⟩ ∧ wordsTo ln (k + 1) cols = wordsTo ln k cols := by
            intro r2 hsc hr2
            have hst : stepS most ln[k] k ⟨cols, inw, rem⟩ = .inr ⟨cols, false, r2⟩ := by
              unfold stepS
              rw [hbad, ← hr2]
              simp only [Bool.false_eq_true, if_false]
              rw [if_pos hsc]
            rw [hst] at hrun
            have hi2 := HI.out.skip HC.out hsc
            simp only [hr2] at hi2
            exact ⟨hrun, hi2, wordsTo_skip (HI.out.skip_le HC.out hsc)⟩
          have HSK := Lib.hid hskip
          have HRUN := Lib.hid hrun
          have HBAD := Lib.hid hbad
          have k0 : (0 : Int) ≤ (k : Int) := by omega
          have k1 : (k : Int) < (ln.size : Int) := by omega
          clear hskip hrun hbad
          cases rem with
          | true =>
            obtain ⟨hr2, hi2, hw⟩ := HSK.out true rfl rfl
            have HR2 := Lib.hid hr2
            have HI2 := Lib.hid hi2
            have HW2 := Lib.hid hw
            clear hr2 hi2 hw
            go_wp2
            go_roundw
            case rel => exact ⟨k + 1, cols, false, true, A, n, cap, by omega, by go_num, rfl, rfl, rfl, by omega, HN.out, by rw [HW2.out]; exact HO.out, HI2.out, HR2.out, HB.out⟩
            case measure => simp [intOf]; omega
          | false =>
            by_cases h35 : (ln[k].toNat : Int) = 35
            · obtain ⟨hr2, hi2, hw⟩ := HSK.out true (by simp [h35]) (by simp [h35])
              have HR2 := Lib.hid hr2
              have HI2 := Lib.hid hi2
              have HW2 := Lib.hid hw
              have e35 : ((ln[k].toNat : Int) == 35) = true := by simpa using h35
              clear hr2 hi2 hw h35
              go_wp2
              go_roundw
              case rel => exact ⟨k + 1, cols, false, true, A, n, cap, by omega, by go_num, rfl, rfl, rfl, by omega, HN.out, by rw [HW2.out]; exact HO.out, HI2.out, HR2.out, HB.out⟩
              case measure => simp [intOf]; omega
            · have e35 : ((ln[k].toNat : Int) == 35) = false := by simpa using h35
              by_cases h32 : (ln[k].toNat : Int) = 32
              · obtain ⟨hr2, hi2, hw⟩ := HSK.out false (by simp [h32]) (by simp [h35])
                have HR2 := Lib.hid hr2
                have HI2 := Lib.hid hi2
                have HW2 := Lib.hid hw
                have e32 : ((ln[k].toNat : Int) == 32) = true := by simpa using h32
                clear hr2 hi2 hw h35 h32
                go_wp2
                go_roundw
                case rel => exact ⟨k + 1, cols, false, false, A, n, cap, by omega, by go_num, rfl, rfl, rfl, by omega, HN.out, by rw [HW2.out]; exact HO.out, HI2.out, HR2.out, HB.out⟩
                case measure => simp [intOf]; omega
              · have e32 : ((ln[k].toNat : Int) == 32) = false := by simpa using h32
                have hp : partB ln[k] = true := part_of HBAD.out (by simpa using h35) (by simpa using h32)
                have hword : ∀ X, (if inw then (Sum.inr ⟨cols, inw, false⟩ : Sum (Nat × Nat) St) else if most ≤ cols.length then .inl (k + 1, 4) else .inr ⟨cols ++ [k], true, false⟩) = X → stepS most ln[k] k ⟨cols, inw, false⟩ = X := by
                  intro X hX
                  rw [← hX]
                  unfold stepS
                  rw [HBAD.out]
                  simp [h35, h32]
                have HWD := Lib.hid hword
                have HPT := Lib.hid hp
                clear HSK hword hp h35 h32
                cases inw with
                | true =>
                  have hrun := HRUN.out
                  rw [HWD.out _ rfl] at hrun
                  have hrun2 : runS most (ln.data.toList.drop (k + 1)) (k + 1) ⟨cols, true, false⟩ = R := hrun
                  have HR2 := Lib.hid hrun2
                  have hi2 := HI.out.more HC.out HPT.out rfl
                  have HI2 := Lib.hid hi2
                  obtain ⟨pre, c0, hcols, hpre, hre⟩ := HI.out.inn rfl
                  have hcols' : cols = pre ++ [c0] := hcols
                  obtain ⟨pre2, c2, hcols2, hpre2, hre2⟩ := HI2.out.inn rfl
                  have hc0 : c0 < k := HI.out.lt c0 (by rw [hcols]; simp)
                  have hre3 : k + 1 ≤ re ln.data.toList c0 := re_next (Nat.le_of_lt hc0) hre HC.out HPT.out
                  have ho := HO.out
                  rw [hcols', wordsTo_snoc hre] at ho
                  obtain ⟨g, hA, hnm, hg1, hg2, d0, d1, df⟩ := ho.last
                  have ho2 : OwnW (wr.setCell ⟨g, (wordsTo ln k pre).length * 2 + 1, none⟩ (.string (ln.extract c0 (k + 1)))) w.heap.size (.slice A n cap) (wordsTo ln (k + 1) cols) := by
                    rw [hcols', wordsTo_last hpre hre3]
                    subst hA
                    exact ho.setLast
                  obtain ⟨m, hm⟩ : ∃ m, m = (wordsTo ln k pre).length := ⟨_, rfl⟩
                  rw [← hm] at hnm ho2 d0 d1
                  have HO2 := Lib.hid ho2
                  have f1 := df (m * 2 + 1)
                  have c1 : (0 : Int) ≤ (c0 : Int) := by omega
                  have c2' : (c0 : Int) ≤ (k : Int) + 1 := by omega
                  have c3 : (k : Int) + 1 ≤ (ln.size : Int) := by omega
                  subst hA
                  subst hnm
                  have m0 : (0 : Int) ≤ (m : Int) := by omega
                  have m1 : (m : Int) < (m : Int) + 1 := by omega
                  clear HRUN hrun hrun2 hi2 hcols hcols' hpre hre hcols2 hpre2 hre2 hre3 ho ho2 hm df HWD
                  go_wp2
                  go_roundw
                  case rel => exact ⟨k + 1, cols, true, false, some ⟨g, 0, none⟩, m + 1, cap, by omega, by go_num, rfl, rfl, rfl, by omega, HN.out, HO2.out, HI2.out, HR2.out, HB.out.setCell (p := ⟨g, m * 2 + 1, none⟩) hg1 _⟩
                  case measure => simp [intOf]; omega
                | false =>
                  by_cases hfull : most ≤ n
                  · have hr : R = .inl (k + 1, 4) := by
                      have hrun := HRUN.out
                      rw [HWD.out (.inl (k + 1, 4)) (by rw [if_neg (by simp), if_pos (by rw [← HN.out]; exact hfull)])] at hrun
                      exact hrun.symm
                    have HR := Lib.hid hr
                    have hge : (most : Int) ≤ (n : Int) := by omega
                    clear hr HRUN HWD
                    go_wp2
                    go_ret3
                    rw [HR.out]
                    exact ⟨by first | rfl | (congr 1), HB.out⟩
                  · have hge : ¬ (most : Int) ≤ (n : Int) := by omega
                    have hlm : cols.length < most := by rw [← HN.out]; omega
                    have hrun2 : runS most (ln.data.toList.drop (k + 1)) (k + 1) ⟨cols ++ [k], true, false⟩ = R := by
                      have hrun := HRUN.out
                      rw [HWD.out (.inr ⟨cols ++ [k], true, false⟩) (by rw [if_neg (by simp), if_neg (by omega)])] at hrun
                      exact hrun
                    have HR2 := Lib.hid hrun2
                    have HI2 := Lib.hid (HI.out.new HC.out HPT.out rfl rfl hlm)
                    have hpre := HI.out.out rfl
                    have hrek : k + 1 ≤ re ln.data.toList k := re_next (Nat.le_refl _) (re_ge _ _) HC.out HPT.out
                    have HWL := Lib.hid (wordsTo_last (p := ln) hpre hrek)
                    have hll : (wordsTo ln k cols).length = n := by rw [wordsTo_len]; exact HN.out.symm
                    have HLL := Lib.hid hll
                    have hsz : (wordsTo ln k cols).length ≤ 65536 := by rw [hll]; omega
                    have HSZ := Lib.hid hsz
                    have c1 : (k : Int) ≤ (k : Int) + 1 := by omega
                    have c3 : (k : Int) + 1 ≤ (ln.size : Int) := by omega
                    have n0 : (0 : Int) ≤ (n : Int) := by omega
                    have n1 : (n : Int) < (n : Int) + 1 := by omega
                    have HW0 := Lib.hid (HO.out.alloc (.cells #[.int .i64 ((k : Int) + 1), .string ⟨#[]⟩] 39))
                    have hbA := HB.out.alloc HB.out.size (.cells #[.int .i64 ((k : Int) + 1), .string ⟨#[]⟩] 39)
                    have HBA := Lib.hid hbA
                    clear HRUN HWD hrun2 hpre hrek hll hsz hbA hlm hfull
                    go_wp2_with (at_builtin; refine appW_list (W := wr.alloc (.cells #[.int .i64 ((k : Int) + 1), .string ⟨#[]⟩] 39)) (base := w.heap.size) (l := wordsTo ln k cols) (k + 1) ⟨#[]⟩ ((k : Int) + 1) (.tmp 47) (.tmp 51) rfl rfl rfl HW0.out rfl (heap_alloc_new wr _) (by omega) HSZ.out HBA.out.size ?_; intro g m cp' w7 hown7 hm7 hgrow7 hlt7; have hmn : m = n + 1 := hm7.trans (congrArg (· + 1) HLL.out); subst hmn; obtain ⟨g', hA, hnm7, hg1, hg2, d0, d1, df⟩ := hown7.last; cases hA; have ho2 := hown7.setLast (t := ln.extract k (k + 1)); rw [HLL.out] at ho2 d0 d1; have f1 := df (n * 2 + 1); have HO2 := Lib.hid ho2; have HB7 := Lib.hid (HBA.out.grown hgrow7 HBA.out.size (fun x hx => (HW0.out.lt x hx).1)); clear hown7 hm7 hgrow7 ho2 df hnm7)
                    go_roundw
                    case rel => exact ⟨k + 1, cols ++ [k], true, false, some ⟨g, 0, none⟩, n + 1, cp', by omega, by go_num, rfl, rfl, rfl, by have := HI2.out.most; simp at this; have := HN.out; omega, by simp; exact HN.out, by rw [HWL.out]; exact HO2.out, HI2.out, HR2.out, HB7.out.setCell (p := ⟨g, n * 2 + 1, none⟩) hg1 _⟩
                    case measure => simp [intOf]; omega
    · obtain rfl : k = ln.size := by omega
      rw [runS_end (by rw [HLEN.out]; exact Nat.le_refl _)] at hrun
      have HR := Lib.hid hrun
      have hw := wordsTo_end HI.out
      have HW := Lib.hid hw
      clear hrun hw
      go_wp2
      go_ret3
      rw [← HR.out]
      exact ⟨_, _, _, rfl, HN.out, by have := HO.out; rw [HW.out] at this; exact this, HB.out⟩

end Go.Proofs.YtbgamneoghhfpaaDoor.Lx
