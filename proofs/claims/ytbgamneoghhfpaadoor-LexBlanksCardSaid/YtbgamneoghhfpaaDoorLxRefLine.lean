/- The walk of the document's line. -/
import Derived.Test.YtbgamneoghhfpaaDoorLxWords
namespace Go.Proofs.YtbgamneoghhfpaaDoor.Lx
open Go.RowKit

theorem part_any (c : Int) (w : World) :
    Calls Tryd.prog 21 #[.int .u8 c] w fun e w' => e = .returned (.bool (decide (32 < c) && decide (c < 127) && !decide (c = 35))) ∧ w = w' := by
  by_cases h1 : 32 < c
  · by_cases h2 : c < 127
    · by_cases h3 : c = 35
      · subst h3
        go_enter Tryd.func21, Tryd.ntmps21
        go_wp2
        go_ret
        exact ⟨rfl, rfl⟩
      · have e3 : (c != 35) = true := by simpa using h3
        go_enter Tryd.func21, Tryd.ntmps21
        go_wp2
        go_ret
        refine ⟨?_, rfl⟩
        simp [h1, h2, h3]
    · go_enter Tryd.func21, Tryd.ntmps21
      go_wp2
      go_ret
      refine ⟨?_, rfl⟩
      simp; omega
  · go_enter Tryd.func21, Tryd.ntmps21
    go_wp2
    go_ret
    refine ⟨?_, rfl⟩
    simp; omega

theorem part_is (c : UInt8) (b : Bool) (h : partB c = b) (w : World) :
    Calls Tryd.prog 21 #[.int .u8 (c.toNat : Int)] w fun e w' => e = .returned (.bool b) ∧ w = w' := by
  subst h; exact part_any _ w

def LinePost (w : World) (ln : ByteArray) (R : Sum (Nat × Nat) St) (e : Ending) (w' : World) : Prop :=
  match R with
  | .inl (c, x) => (∃ A n cap, e = .returned (.tuple #[.slice A n cap, .int .i64 (c : Nat), .int .i64 (x : Nat)])) ∧ Below w.heap.size w w'
  | .inr st => ∃ A n cap, e = .returned (.tuple #[.slice A n cap, .int .i64 0, .int .i64 0]) ∧ n = st.cols.length ∧ OwnW w' w.heap.size (.slice A n cap) (wordsB ln st.cols) ∧ Below w.heap.size w w'

theorem wordsB_len (p : ByteArray) (cols : List Nat) : (wordsB p cols).length = cols.length := by simp [wordsB]
theorem wordsB_snoc (p : ByteArray) (cols : List Nat) (k : Nat) : wordsB p (cols ++ [k]) = wordsB p cols ++ [(k + 1, p.extract k (re p.data.toList k))] := by simp [wordsB]

set_option maxRecDepth 100000 in
set_option maxHeartbeats 2000000 in
theorem line_any (ln : ByteArray) (room : Bool) (most : Nat) (hmost : most = if room then 40 else 0) (w : World) (hs : ln.size ≤ 65536) (R : Sum (Nat × Nat) St) (hR : lineS most ln.data.toList = R) :
    Calls Tryd.prog 16 #[.string ln, .bool room] w (LinePost w ln R) := by
  have HR := Lib.hid hR
  have hlen : ln.data.toList.length = ln.size := by simp
  have HLEN := Lib.hid hlen
  have HMOST := Lib.hid hmost
  have hm40 : most ≤ 40 := by rw [hmost]; split <;> omega
  clear hR hlen hmost
  go_enter Tryd.func16, Tryd.ntmps16
  go_wp2
  go_loopw [7, 8, 9] (fun t g i wr => ∃ (k : Nat) (cols : List Nat) (inw rem : Bool) (A : Option Addr) (n cap : Nat), k ≤ ln.size ∧ i = .int .i64 k ∧ g = .bool rem ∧ t = .slice A n cap ∧ n ≤ 40 ∧ n = cols.length ∧
      OwnW wr w.heap.size (.slice A n cap) (wordsB ln cols) ∧ Inv most ln.data.toList k ⟨cols, inw, rem⟩ ∧ runS most (ln.data.toList.drop k) k ⟨cols, inw, rem⟩ = R ∧ Below w.heap.size w wr) (fun _ _ i _ => ln.size - (intOf i).toNat)
  case atStart =>
    refine ⟨0, [], false, false, some ⟨w.heap.size, 0, none⟩, 0, 0, Nat.zero_le _, rfl, rfl, rfl, by omega, rfl, ?_, Inv.start _ _, HR.out, (Below.refl _ _).alloc (Nat.le_refl _) _⟩
    exact World.ownsRow_made (base := w.heap.size) (e := 39) (size := 2) w #[] 0 (Nat.le_refl _) (Nat.zero_le _) (by simp)
  case round =>
    obtain ⟨k, cols, inw, rem, A, n, cap, hk, rfl, rfl, rfl, hn40, hn, hown, hinv, hrun, hbw⟩ := hrel
    have HN := Lib.hid hn
    have HO := Lib.hid hown
    have HI := Lib.hid hinv
    have HB := Lib.hid hbw
    clear HR hn hown hinv hbw
    by_cases hlt : k < ln.size
    · have hc := get_byte hlt
      rw [runS_at hc] at hrun
      have HC := Lib.hid hc
      clear hc
      by_cases h1 : (ln[k].toNat : Int) < 32
      · have hr : R = .inl (k + 1, 3) := by rw [← hrun]; unfold stepS badB; simp [h1]
        have HR := Lib.hid hr
        clear hrun hr
        go_wp2
        go_ret3
        rw [HR.out]
        exact ⟨⟨_, _, _, by first | rfl | (congr 1)⟩, HB.out⟩
      · by_cases h2 : 126 < (ln[k].toNat : Int)
        · have hr : R = .inl (k + 1, 3) := by rw [← hrun]; unfold stepS badB; simp [h2]
          have HR := Lib.hid hr
          clear hrun hr
          go_wp2
          go_ret3
          rw [HR.out]
          exact ⟨⟨_, _, _, by first | rfl | (congr 1)⟩, HB.out⟩
        · have hbad : badB ln[k] = false := by unfold badB; simp; omega
          have hskip : ∀ (r2 : Bool), (rem || decide ((ln[k].toNat : Int) = 35) || decide ((ln[k].toNat : Int) = 32)) = true → (rem || decide ((ln[k].toNat : Int) = 35)) = r2 →
              runS most (ln.data.toList.drop (k + 1)) (k + 1) ⟨cols, false, r2⟩ = R ∧ Inv most ln.data.toList (k + 1) ⟨cols, false, r2⟩ := by
            intro r2 hsc hr2
            have hst : stepS most ln[k] k ⟨cols, inw, rem⟩ = .inr ⟨cols, false, r2⟩ := by
              unfold stepS
              rw [hbad, ← hr2]
              simp only [Bool.false_eq_true, if_false]
              rw [if_pos hsc]
            rw [hst] at hrun
            have hi2 := HI.out.skip HC.out hsc
            simp only [hr2] at hi2
            exact ⟨hrun, hi2⟩
          have HSK := Lib.hid hskip
          have HRUN := Lib.hid hrun
          have HBAD := Lib.hid hbad
          have k0 : (0 : Int) ≤ (k : Int) := by omega
          have k1 : (k : Int) < (ln.size : Int) := by omega
          clear hskip hrun hbad
          cases rem with
          | true =>
            obtain ⟨hr2, hi2⟩ := HSK.out true rfl rfl
            have HR2 := Lib.hid hr2
            have HI2 := Lib.hid hi2
            clear hr2 hi2
            go_wp2
            go_roundw
            case rel => exact ⟨k + 1, cols, false, true, A, n, cap, by omega, by go_num, rfl, rfl, by omega, HN.out, HO.out, HI2.out, HR2.out, HB.out⟩
            case measure => simp [intOf]; omega
          | false =>
            by_cases h35 : (ln[k].toNat : Int) = 35
            · obtain ⟨hr2, hi2⟩ := HSK.out true (by simp [h35]) (by simp [h35])
              have HR2 := Lib.hid hr2
              have HI2 := Lib.hid hi2
              have e35 : ((ln[k].toNat : Int) == 35) = true := by simpa using h35
              clear hr2 hi2 h35
              go_wp2
              go_roundw
              case rel => exact ⟨k + 1, cols, false, true, A, n, cap, by omega, by go_num, rfl, rfl, by omega, HN.out, HO.out, HI2.out, HR2.out, HB.out⟩
              case measure => simp [intOf]; omega
            · have e35 : ((ln[k].toNat : Int) == 35) = false := by simpa using h35
              by_cases h32 : (ln[k].toNat : Int) = 32
              · obtain ⟨hr2, hi2⟩ := HSK.out false (by simp [h32]) (by simp [h35])
                have HR2 := Lib.hid hr2
                have HI2 := Lib.hid hi2
                have HNP := Lib.hid (not_part (c := ln[k]) (.inr (by simpa using h32)))
                clear hr2 hi2 h35 h32
                go_wp2_with (go_at_call 21; refine (part_is _ false HNP.out _).mono ?_; rintro e w' ⟨rfl, rfl⟩)
                go_roundw
                case rel => exact ⟨k + 1, cols, false, false, A, n, cap, by omega, by go_num, rfl, rfl, by omega, HN.out, HO.out, HI2.out, HR2.out, HB.out⟩
                case measure => simp [intOf]; omega
              · have hp : partB ln[k] = true := part_of HBAD.out (by simpa using h35) (by simpa using h32)
                have hword : ∀ X, (if inw then (Sum.inr ⟨cols, inw, false⟩ : Sum (Nat × Nat) St) else if most ≤ cols.length then .inl (k + 1, 4) else .inr ⟨cols ++ [k], true, false⟩) = X → stepS most ln[k] k ⟨cols, inw, false⟩ = X := by
                  intro X hX
                  rw [← hX]
                  unfold stepS
                  rw [HBAD.out]
                  simp [h35, h32]
                have HWD := Lib.hid hword
                have HPT := Lib.hid hp
                clear HSK hword hp h35 h32
                cases inw with
                | true =>
                  have hrun := HRUN.out
                  rw [HWD.out _ rfl] at hrun
                  have hrun2 : runS most (ln.data.toList.drop (k + 1)) (k + 1) ⟨cols, true, false⟩ = R := hrun
                  have HR2 := Lib.hid hrun2
                  have HI2 := Lib.hid (HI.out.more HC.out HPT.out rfl)
                  obtain ⟨hk0, b, hb, hbp⟩ := (HI.out.prev rfl).1 rfl
                  have hkk : k - 1 < ln.size := by omega
                  have hbb : b = ln[k - 1] := by
                    have := get_byte hkk
                    rw [hb] at this
                    injection this
                  have HPB := Lib.hid (show partB ln[k - 1] = true by rw [← hbb]; exact hbp)
                  have kp : (0 : Int) < (k : Int) := by omega
                  clear HRUN hrun hrun2 hb hbb hbp HWD
                  go_wp2_with fail
                  refine (part_is ln[k] true HPT.out _).mono ?_
                  rintro e w' ⟨rfl, rfl⟩
                  go_wp2_with fail
                  refine (part_is ln[k - 1] true HPB.out _).mono ?_
                  rintro e w' ⟨rfl, rfl⟩
                  go_wp2
                  go_roundw
                  case rel => exact ⟨k + 1, cols, true, false, A, n, cap, by omega, by go_num, rfl, rfl, by omega, HN.out, HO.out, HI2.out, HR2.out, HB.out⟩
                  case measure => simp [intOf]; omega
                | false =>
                  have hprev : k = 0 ∨ (0 < k ∧ ∃ h : k - 1 < ln.size, partB (ln[k - 1]'h) = false) := by
                    by_cases hk0 : k = 0
                    · exact .inl hk0
                    · refine .inr ⟨by omega, by omega, ?_⟩
                      cases hpb : partB ln[k - 1] with
                      | false => rfl
                      | true =>
                        have := (HI.out.prev rfl).2 ⟨by omega, ln[k - 1], get_byte (by omega), hpb⟩
                        cases this
                  rcases hprev with hk0 | ⟨hk0, hkk, hpf⟩
                  · have kp : decide (0 < k) = false := by simp; omega
                    clear hk0
                    go_wp2_with fail
                    refine (part_is ln[k] true HPT.out _).mono ?_
                    rintro e w' ⟨rfl, rfl⟩
                    by_cases hfull : most ≤ n
                    · have hr : R = .inl (k + 1, 4) := by
                        have hrun := HRUN.out
                        rw [HWD.out (.inl (k + 1, 4)) (by rw [if_neg (by simp), if_pos (by rw [← HN.out]; exact hfull)])] at hrun
                        exact hrun.symm
                      have HR := Lib.hid hr
                      clear hr HRUN HWD
                      by_cases n40 : n = 40
                      · have e40 : ((n : Int) == 40) = true := by simp; omega
                        clear n40
                        go_wp2
                        go_ret3
                        rw [HR.out]
                        exact ⟨⟨_, _, _, by first | rfl | (congr 1)⟩, HB.out⟩
                      · have e40 : ((n : Int) == 40) = false := by simp; omega
                        cases room with
                        | true =>
                          exfalso
                          have := HMOST.out
                          simp at this
                          omega
                        | false =>
                          clear n40
                          go_wp2
                          go_ret3
                          rw [HR.out]
                          exact ⟨⟨_, _, _, by first | rfl | (congr 1)⟩, HB.out⟩
                    · have hlm : cols.length < most := by rw [← HN.out]; omega
                      cases room with
                      | false =>
                        exfalso
                        have := HMOST.out
                        simp at this
                        omega
                      | true =>
                        have e40 : ((n : Int) == 40) = false := by have := HMOST.out; simp at this; simp; omega
                        have hrun2 : runS most (ln.data.toList.drop (k + 1)) (k + 1) ⟨cols ++ [k], true, false⟩ = R := by
                          have hrun := HRUN.out
                          rw [HWD.out (.inr ⟨cols ++ [k], true, false⟩) (by rw [if_neg (by simp), if_neg (by omega)])] at hrun
                          exact hrun
                        have HR2 := Lib.hid hrun2
                        have HI2 := Lib.hid (HI.out.new HC.out HPT.out rfl rfl hlm)
                        have hll : (wordsB ln cols).length = n := by rw [wordsB_len]; exact HN.out.symm
                        have HLL := Lib.hid hll
                        have hsz : (wordsB ln cols).length ≤ 65536 := by rw [hll]; omega
                        have HSZ := Lib.hid hsz
                        have hrge := re_ge ln.data.toList k
                        have hrle := re_le (l := ln.data.toList) (c := k) (by rw [HLEN.out]; omega)
                        rw [HLEN.out] at hrle
                        clear HRUN HWD hrun2 hll hsz hlm hfull
                        go_wp2
                        go_loop [10] (fun i => ∃ j : Nat, i = .int .i64 j ∧ k ≤ j ∧ j ≤ re ln.data.toList k) (fun i => ln.size - (intOf i).toNat)
                        case atStart => exact ⟨k, rfl, Nat.le_refl _, hrge⟩
                        case round =>
                          obtain ⟨j, rfl, hj1, hj2⟩ := hrel
                          by_cases hjl : j < ln.size
                          · have HCJ := Lib.hid (get_byte hjl)
                            have jj0 : (0 : Int) ≤ (j : Int) := by omega
                            have jj1 : (j : Int) < (ln.size : Int) := by omega
                            cases hpj : partB ln[j] with
                            | true =>
                              have hj3 := re_next hj1 hj2 HCJ.out hpj
                              have HPJ := Lib.hid hpj
                              clear hpj
                              go_wp2_with fail
                              refine (part_is ln[j] true HPJ.out _).mono ?_
                              rintro e w' ⟨rfl, rfl⟩
                              go_wp2
                              go_round
                              case rel => exact ⟨j + 1, by go_num, by omega, hj3⟩
                              case measure => simp [intOf]; omega
                            | false =>
                              have hjr : j = re ln.data.toList k := by
                                exact re_stop hj1 hj2 HCJ.out hpj
                              have HJR := Lib.hid hjr
                              have c1 : (k : Int) ≤ (j : Int) := by omega
                              have c2 : (j : Int) ≤ (ln.size : Int) := by omega
                              have HW0 := Lib.hid (HO.out.alloc (.cells #[.int .i64 ((k : Int) + 1), .string (ln.extract k j)] 39))
                              have hbA := HB.out.alloc HB.out.size (.cells #[.int .i64 ((k : Int) + 1), .string (ln.extract k j)] 39)
                              have HBA := Lib.hid hbA
                              clear hbA hjr hj1 hj2
                              have HPJ := Lib.hid hpj
                              clear hpj
                              go_wp2_with fail
                              refine (part_is ln[j] false HPJ.out _).mono ?_
                              rintro e w' ⟨rfl, rfl⟩
                              go_wp2_with (at_builtin; refine appW_list (W := wr.alloc (.cells #[.int .i64 ((k : Int) + 1), .string (ln.extract k j)] 39)) (base := w.heap.size) (l := wordsB ln cols) (k + 1) (ln.extract k j) ((k : Int) + 1) (.tmp 80) (.tmp 88) rfl rfl rfl HW0.out rfl (heap_alloc_new wr _) (by omega) HSZ.out HBA.out.size ?_; intro g m cp' w7 hown7 hm7 hgrow7 hlt7; have hmn : m = n + 1 := hm7.trans (congrArg (· + 1) HLL.out); subst hmn; have HO2 := Lib.hid hown7; have HB7 := Lib.hid (HBA.out.grown hgrow7 HBA.out.size (fun x hx => (HW0.out.lt x hx).1)); clear hown7 hm7 hgrow7)
                              go_roundw
                              case rel => exact ⟨k + 1, cols ++ [k], true, false, some ⟨g, 0, none⟩, n + 1, cp', by omega, by go_num, rfl, rfl, by have := HI2.out.most; simp at this; have := HN.out; omega, by simp; exact HN.out, by rw [wordsB_snoc, ← HJR.out]; exact HO2.out, HI2.out, HR2.out, HB7.out⟩
                              case measure => simp [intOf]; omega
                          · have hjs : j = ln.size := by omega
                            have hjr : j = re ln.data.toList k := by
                              omega
                            have HJR := Lib.hid hjr
                            have c1 : (k : Int) ≤ (j : Int) := by omega
                            have c2 : (j : Int) ≤ (ln.size : Int) := by omega
                            have HW0 := Lib.hid (HO.out.alloc (.cells #[.int .i64 ((k : Int) + 1), .string (ln.extract k j)] 39))
                            have hbA := HB.out.alloc HB.out.size (.cells #[.int .i64 ((k : Int) + 1), .string (ln.extract k j)] 39)
                            have HBA := Lib.hid hbA
                            clear hbA hjr hj1 hj2
                            clear hjs
                            go_wp2_with (at_builtin; refine appW_list (W := wr.alloc (.cells #[.int .i64 ((k : Int) + 1), .string (ln.extract k j)] 39)) (base := w.heap.size) (l := wordsB ln cols) (k + 1) (ln.extract k j) ((k : Int) + 1) (.tmp 80) (.tmp 88) rfl rfl rfl HW0.out rfl (heap_alloc_new wr _) (by omega) HSZ.out HBA.out.size ?_; intro g m cp' w7 hown7 hm7 hgrow7 hlt7; have hmn : m = n + 1 := hm7.trans (congrArg (· + 1) HLL.out); subst hmn; have HO2 := Lib.hid hown7; have HB7 := Lib.hid (HBA.out.grown hgrow7 HBA.out.size (fun x hx => (HW0.out.lt x hx).1)); clear hown7 hm7 hgrow7)
                            go_roundw
                            case rel => exact ⟨k + 1, cols ++ [k], true, false, some ⟨g, 0, none⟩, n + 1, cp', by omega, by go_num, rfl, rfl, by have := HI2.out.most; simp at this; have := HN.out; omega, by simp; exact HN.out, by rw [wordsB_snoc, ← HJR.out]; exact HO2.out, HI2.out, HR2.out, HB7.out⟩
                            case measure => simp [intOf]; omega
                  · have kp : decide (0 < k) = true := by simp; omega
                    have HPF := Lib.hid hpf
                    have kp2 : (0 : Int) < (k : Int) := by omega
                    clear hpf
                    go_wp2_with fail
                    refine (part_is ln[k] true HPT.out _).mono ?_
                    rintro e w' ⟨rfl, rfl⟩
                    go_wp2_with fail
                    refine (part_is ln[k - 1] false HPF.out _).mono ?_
                    rintro e w' ⟨rfl, rfl⟩
                    by_cases hfull : most ≤ n
                    · have hr : R = .inl (k + 1, 4) := by
                        have hrun := HRUN.out
                        rw [HWD.out (.inl (k + 1, 4)) (by rw [if_neg (by simp), if_pos (by rw [← HN.out]; exact hfull)])] at hrun
                        exact hrun.symm
                      have HR := Lib.hid hr
                      clear hr HRUN HWD
                      by_cases n40 : n = 40
                      · have e40 : ((n : Int) == 40) = true := by simp; omega
                        clear n40
                        go_wp2
                        go_ret3
                        rw [HR.out]
                        exact ⟨⟨_, _, _, by first | rfl | (congr 1)⟩, HB.out⟩
                      · have e40 : ((n : Int) == 40) = false := by simp; omega
                        cases room with
                        | true =>
                          exfalso
                          have := HMOST.out
                          simp at this
                          omega
                        | false =>
                          clear n40
                          go_wp2
                          go_ret3
                          rw [HR.out]
                          exact ⟨⟨_, _, _, by first | rfl | (congr 1)⟩, HB.out⟩
                    · have hlm : cols.length < most := by rw [← HN.out]; omega
                      cases room with
                      | false =>
                        exfalso
                        have := HMOST.out
                        simp at this
                        omega
                      | true =>
                        have e40 : ((n : Int) == 40) = false := by have := HMOST.out; simp at this; simp; omega
                        have hrun2 : runS most (ln.data.toList.drop (k + 1)) (k + 1) ⟨cols ++ [k], true, false⟩ = R := by
                          have hrun := HRUN.out
                          rw [HWD.out (.inr ⟨cols ++ [k], true, false⟩) (by rw [if_neg (by simp), if_neg (by omega)])] at hrun
                          exact hrun
                        have HR2 := Lib.hid hrun2
                        have HI2 := Lib.hid (HI.out.new HC.out HPT.out rfl rfl hlm)
                        have hll : (wordsB ln cols).length = n := by rw [wordsB_len]; exact HN.out.symm
                        have HLL := Lib.hid hll
                        have hsz : (wordsB ln cols).length ≤ 65536 := by rw [hll]; omega
                        have HSZ := Lib.hid hsz
                        have hrge := re_ge ln.data.toList k
                        have hrle := re_le (l := ln.data.toList) (c := k) (by rw [HLEN.out]; omega)
                        rw [HLEN.out] at hrle
                        clear HRUN HWD hrun2 hll hsz hlm hfull
                        go_wp2
                        go_loop [10] (fun i => ∃ j : Nat, i = .int .i64 j ∧ k ≤ j ∧ j ≤ re ln.data.toList k) (fun i => ln.size - (intOf i).toNat)
                        case atStart => exact ⟨k, rfl, Nat.le_refl _, hrge⟩
                        case round =>
                          obtain ⟨j, rfl, hj1, hj2⟩ := hrel
                          by_cases hjl : j < ln.size
                          · have HCJ := Lib.hid (get_byte hjl)
                            have jj0 : (0 : Int) ≤ (j : Int) := by omega
                            have jj1 : (j : Int) < (ln.size : Int) := by omega
                            cases hpj : partB ln[j] with
                            | true =>
                              have hj3 := re_next hj1 hj2 HCJ.out hpj
                              have HPJ := Lib.hid hpj
                              clear hpj
                              go_wp2_with fail
                              refine (part_is ln[j] true HPJ.out _).mono ?_
                              rintro e w' ⟨rfl, rfl⟩
                              go_wp2
                              go_round
                              case rel => exact ⟨j + 1, by go_num, by omega, hj3⟩
                              case measure => simp [intOf]; omega
                            | false =>
                              have hjr : j = re ln.data.toList k := by
                                exact re_stop hj1 hj2 HCJ.out hpj
                              have HJR := Lib.hid hjr
                              have c1 : (k : Int) ≤ (j : Int) := by omega
                              have c2 : (j : Int) ≤ (ln.size : Int) := by omega
                              have HW0 := Lib.hid (HO.out.alloc (.cells #[.int .i64 ((k : Int) + 1), .string (ln.extract k j)] 39))
                              have hbA := HB.out.alloc HB.out.size (.cells #[.int .i64 ((k : Int) + 1), .string (ln.extract k j)] 39)
                              have HBA := Lib.hid hbA
                              clear hbA hjr hj1 hj2
                              have HPJ := Lib.hid hpj
                              clear hpj
                              go_wp2_with fail
                              refine (part_is ln[j] false HPJ.out _).mono ?_
                              rintro e w' ⟨rfl, rfl⟩
                              go_wp2_with (at_builtin; refine appW_list (W := wr.alloc (.cells #[.int .i64 ((k : Int) + 1), .string (ln.extract k j)] 39)) (base := w.heap.size) (l := wordsB ln cols) (k + 1) (ln.extract k j) ((k : Int) + 1) (.tmp 80) (.tmp 88) rfl rfl rfl HW0.out rfl (heap_alloc_new wr _) (by omega) HSZ.out HBA.out.size ?_; intro g m cp' w7 hown7 hm7 hgrow7 hlt7; have hmn : m = n + 1 := hm7.trans (congrArg (· + 1) HLL.out); subst hmn; have HO2 := Lib.hid hown7; have HB7 := Lib.hid (HBA.out.grown hgrow7 HBA.out.size (fun x hx => (HW0.out.lt x hx).1)); clear hown7 hm7 hgrow7)
                              go_roundw
                              case rel => exact ⟨k + 1, cols ++ [k], true, false, some ⟨g, 0, none⟩, n + 1, cp', by omega, by go_num, rfl, rfl, by have := HI2.out.most; simp at this; have := HN.out; omega, by simp; exact HN.out, by rw [wordsB_snoc, ← HJR.out]; exact HO2.out, HI2.out, HR2.out, HB7.out⟩
                              case measure => simp [intOf]; omega
                          · have hjs : j = ln.size := by omega
                            have hjr : j = re ln.data.toList k := by
                              omega
                            have HJR := Lib.hid hjr
                            have c1 : (k : Int) ≤ (j : Int) := by omega
                            have c2 : (j : Int) ≤ (ln.size : Int) := by omega
                            have HW0 := Lib.hid (HO.out.alloc (.cells #[.int .i64 ((k : Int) + 1), .string (ln.extract k j)] 39))
                            have hbA := HB.out.alloc HB.out.size (.cells #[.int .i64 ((k : Int) + 1), .string (ln.extract k j)] 39)
                            have HBA := Lib.hid hbA
                            clear hbA hjr hj1 hj2
                            clear hjs
                            go_wp2_with (at_builtin; refine appW_list (W := wr.alloc (.cells #[.int .i64 ((k : Int) + 1), .string (ln.extract k j)] 39)) (base := w.heap.size) (l := wordsB ln cols) (k + 1) (ln.extract k j) ((k : Int) + 1) (.tmp 80) (.tmp 88) rfl rfl rfl HW0.out rfl (heap_alloc_new wr _) (by omega) HSZ.out HBA.out.size ?_; intro g m cp' w7 hown7 hm7 hgrow7 hlt7; have hmn : m = n + 1 := hm7.trans (congrArg (· + 1) HLL.out); subst hmn; have HO2 := Lib.hid hown7; have HB7 := Lib.hid (HBA.out.grown hgrow7 HBA.out.size (fun x hx => (HW0.out.lt x hx).1)); clear hown7 hm7 hgrow7)
                            go_roundw
                            case rel => exact ⟨k + 1, cols ++ [k], true, false, some ⟨g, 0, none⟩, n + 1, cp', by omega, by go_num, rfl, rfl, by have := HI2.out.most; simp at this; have := HN.out; omega, by simp; exact HN.out, by rw [wordsB_snoc, ← HJR.out]; exact HO2.out, HI2.out, HR2.out, HB7.out⟩
                            case measure => simp [intOf]; omega
    · obtain rfl : k = ln.size := by omega
      rw [runS_end (by rw [HLEN.out]; exact Nat.le_refl _)] at hrun
      have HR := Lib.hid hrun
      clear hrun
      go_wp2
      go_ret3
      rw [← HR.out]
      exact ⟨_, _, _, rfl, HN.out, HO.out, HB.out⟩

end Go.Proofs.YtbgamneoghhfpaaDoor.Lx
