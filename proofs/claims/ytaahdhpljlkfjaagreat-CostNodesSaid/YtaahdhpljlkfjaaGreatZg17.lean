/- The walks of the document's own answers for versions (package cooperref01). -/
import Derived.Test.YtaahdhpljlkfjaaGreatZg16
namespace Go.Proofs.YtaahdhpljlkfjaaGreat.Ver
open Go.RowKit

set_option maxHeartbeats 400000 in
theorem letters_any (s : ByteArray) (w : World) (hs : s.size ≤ maxLen) :
    Calls Tryz.prog 106 #[.string s] w fun e w' => e = .returned (.bool (word s.data.toList)) ∧ w = w' := by
  unfold maxLen at hs
  go_enter Tryz.func106, Tryz.ntmps106
  go_wp2
  go_loop [3] (fun i => ∃ k : Nat, k ≤ s.size ∧ i = .int .i64 k ∧ Hid ((s.data.toList.take k).all letB = true)) (fun i => s.size - (intOf i).toNat)
  case atStart => exact ⟨0, Nat.zero_le _, rfl, Lib.hid (by simp)⟩
  case round =>
    obtain ⟨k, hk, rfl, hall⟩ := hrel
    by_cases hlt : k < s.size
    · by_cases h1 : (s[k].toNat : Int) < 97
      · have hf : word s.data.toList = false := by unfold word; rw [all_false hlt (by simp [letB]; omega)]; rfl
        have Hf := Lib.hid hf
        clear hf
        go_wp2
        go_ret
        exact ⟨by rw [Hf.out]; rfl, rfl⟩
      · by_cases h2 : 122 < (s[k].toNat : Int)
        · have hf : word s.data.toList = false := by unfold word; rw [all_false hlt (by simp [letB]; omega)]; rfl
          have Hf := Lib.hid hf
          clear hf
          go_wp2
          go_ret
          exact ⟨by rw [Hf.out]; rfl, rfl⟩
        · have hn : Hid ((s.data.toList.take (k + 1)).all letB = true) := Lib.hid (by
            rw [take_snoc s k hlt, List.all_append, hall.out]; simp [letB]; omega)
          go_wp2
          go_round
          case rel => exact ⟨k + 1, by omega, by go_num, hn⟩
          case measure => simp [intOf]; omega
    · obtain rfl : k = s.size := by omega
      have hr : word s.data.toList = !s.data.toList.isEmpty := by
        have := hall.out
        rw [List.take_of_length_le (by simp)] at this
        unfold word; rw [this]; rfl
      have Hr := Lib.hid hr
      clear hr
      go_wp2
      go_ret
      exact ⟨by rw [Hr.out, ← Lib.toList_data]; rfl, rfl⟩

set_option maxHeartbeats 400000 in
theorem digits_any (s : ByteArray) (w : World) (hs : s.size ≤ maxLen) :
    Calls Tryz.prog 105 #[.string s] w fun e w' => e = .returned (.bool (digits s.data.toList)) ∧ w = w' := by
  unfold maxLen at hs
  go_enter Tryz.func105, Tryz.ntmps105
  go_wp2
  go_loop [3] (fun i => ∃ k : Nat, k ≤ s.size ∧ i = .int .i64 k ∧ Hid ((s.data.toList.take k).all digB = true)) (fun i => s.size - (intOf i).toNat)
  case atStart => exact ⟨0, Nat.zero_le _, rfl, Lib.hid (by simp)⟩
  case round =>
    obtain ⟨k, hk, rfl, hall⟩ := hrel
    by_cases hlt : k < s.size
    · by_cases h1 : (s[k].toNat : Int) < 48
      · have hf : digits s.data.toList = false := by unfold digits; rw [all_false hlt (by simp [digB]; omega)]; rfl
        have Hf := Lib.hid hf
        clear hf
        go_wp2
        go_ret
        exact ⟨by rw [Hf.out]; rfl, rfl⟩
      · by_cases h2 : 57 < (s[k].toNat : Int)
        · have hf : digits s.data.toList = false := by unfold digits; rw [all_false hlt (by simp [digB]; omega)]; rfl
          have Hf := Lib.hid hf
          clear hf
          go_wp2
          go_ret
          exact ⟨by rw [Hf.out]; rfl, rfl⟩
        · have hn : Hid ((s.data.toList.take (k + 1)).all digB = true) := Lib.hid (by
            rw [take_snoc s k hlt, List.all_append, hall.out]; simp [digB]; omega)
          go_wp2
          go_round
          case rel => exact ⟨k + 1, by omega, by go_num, hn⟩
          case measure => simp [intOf]; omega
    · obtain rfl : k = s.size := by omega
      have hr : digits s.data.toList = !s.data.toList.isEmpty := by
        have := hall.out
        rw [List.take_of_length_le (by simp)] at this
        unfold digits; rw [this]; rfl
      have Hr := Lib.hid hr
      clear hr
      go_wp2
      go_ret
      exact ⟨by rw [Hr.out, ← Lib.toList_data]; rfl, rfl⟩

theorem letters_is (s : ByteArray) (b : Bool) (h : word s.data.toList = b) (w : World) (hs : s.size ≤ maxLen) :
    Calls Tryz.prog 106 #[.string s] w fun e w' => e = .returned (.bool b) ∧ w = w' := by subst h; exact letters_any s w hs
theorem digits_is (s : ByteArray) (b : Bool) (h : digits s.data.toList = b) (w : World) (hs : s.size ≤ maxLen) :
    Calls Tryz.prog 105 #[.string s] w fun e w' => e = .returned (.bool b) ∧ w = w' := by subst h; exact digits_any s w hs

set_option maxHeartbeats 800000 in
theorem refPart_any (s : ByteArray) (w : World) (hs : s.size ≤ maxLen) :
    Calls Tryz.prog 104 #[.string s] w fun e w' => e = .returned (.bool (part s.data.toList)) ∧ w = w' := by
  cases hw : word s.data.toList with
  | true =>
    have Hp := Lib.hid (show part s.data.toList = true by unfold part; rw [hw]; rfl)
    have Hw := Lib.hid hw
    clear hw
    go_enter Tryz.func104, Tryz.ntmps104
    go_wp2_with fail
    refine (letters_is s true Hw.out _ hs).mono ?_
    rintro e w' ⟨rfl, rfl⟩
    go_wp2
    go_ret
    exact ⟨by rw [Hp.out]; rfl, rfl⟩
  | false =>
    have hp : part s.data.toList = number s.data.toList := by unfold part; rw [hw]; rfl
    have Hw := Lib.hid hw
    clear hw
    cases hd : digits s.data.toList with
    | false =>
      have Hp := Lib.hid (show part s.data.toList = false by rw [hp]; unfold number; rw [hd]; rfl)
      have Hd := Lib.hid hd
      clear hp hd
      go_enter Tryz.func104, Tryz.ntmps104
      go_wp2_with fail
      refine (letters_is s false Hw.out _ hs).mono ?_
      rintro e w' ⟨rfl, rfl⟩
      go_wp2_with fail
      refine (digits_is s false Hd.out _ hs).mono ?_
      rintro e w' ⟨rfl, rfl⟩
      go_wp2
      go_ret
      exact ⟨by rw [Hp.out]; rfl, rfl⟩
    | true =>
      have hpos : 0 < s.size := by
        unfold digits at hd
        rw [Bool.and_eq_true] at hd
        have := hd.2
        rw [← size_toList]
        cases h : s.data.toList with
        | nil => rw [h] at this; simp at this
        | cons a b => simp
      have e4 : s.data.toList.head? = some s[0] := by rw [List.head?_eq_getElem?]; exact get_toList s 0 hpos
      have hr : part s.data.toList = (decide (s.size ≤ 9) && (s.data.toList == [48] || !(some s[0] == some (48 : UInt8)))) := by
        rw [hp]; unfold number; rw [hd, size_toList, e4]; rfl
      have Hd := Lib.hid hd
      clear hp hd e4
      by_cases h9 : s.size ≤ 9
      · have d9 : decide (s.size ≤ 9) = true := by simpa using h9
        have e6 : (s.size : Int) ≤ 9 := by omega
        rw [d9, Bool.true_and] at hr
        by_cases h0 : s.data.toList = [48]
        · have Hp := Lib.hid (show part s.data.toList = true by rw [hr, h0]; rfl)
          have e1 : (s.toList == [48]) = true := by rw [Lib.toList_data, h0]; rfl
          clear hr h0 d9 h9
          go_enter Tryz.func104, Tryz.ntmps104
          go_wp2_with fail
          refine (letters_is s false Hw.out _ hs).mono ?_
          rintro e w' ⟨rfl, rfl⟩
          go_wp2_with fail
          refine (digits_is s true Hd.out _ hs).mono ?_
          rintro e w' ⟨rfl, rfl⟩
          go_wp2
          go_ret
          exact ⟨by rw [Hp.out]; rfl, rfl⟩
        · have e1 : (s.toList == [48]) = false := by rw [Lib.toList_data]; simpa using h0
          have e1' : ¬ s.toList = [48] := by rw [Lib.toList_data]; exact h0
          have e1'' : (s.data.toList == [48]) = false := by simpa using h0
          rw [e1'', Bool.false_or] at hr
          by_cases h48 : s[0] = 48
          · have Hp := Lib.hid (show part s.data.toList = false by rw [hr, h48]; rfl)
            have e5 : ((s[0].toNat : Int) != 48) = false := by rw [h48]; rfl
            clear hr h0 d9 h9 e1'' h48
            go_enter Tryz.func104, Tryz.ntmps104
            go_wp2_with fail
            refine (letters_is s false Hw.out _ hs).mono ?_
            rintro e w' ⟨rfl, rfl⟩
            go_wp2_with fail
            refine (digits_is s true Hd.out _ hs).mono ?_
            rintro e w' ⟨rfl, rfl⟩
            go_wp2
            go_ret
            exact ⟨by rw [Hp.out]; rfl, rfl⟩
          · have Hp := Lib.hid (show part s.data.toList = true by rw [hr]; simp [h48])
            have e5 : ((s[0].toNat : Int) != 48) = true := by
              rw [bne_iff_ne]; intro c; apply h48; apply UInt8.toNat_inj.1; have : (48 : UInt8).toNat = 48 := rfl; omega
            clear hr h0 d9 h9 e1'' h48
            go_enter Tryz.func104, Tryz.ntmps104
            go_wp2_with fail
            refine (letters_is s false Hw.out _ hs).mono ?_
            rintro e w' ⟨rfl, rfl⟩
            go_wp2_with fail
            refine (digits_is s true Hd.out _ hs).mono ?_
            rintro e w' ⟨rfl, rfl⟩
            go_wp2
            go_ret
            exact ⟨by rw [Hp.out]; rfl, rfl⟩
      · have Hp := Lib.hid (show part s.data.toList = false by rw [hr]; simp [h9])
        have e6 : ¬ (s.size : Int) ≤ 9 := by omega
        clear hr h9
        go_enter Tryz.func104, Tryz.ntmps104
        go_wp2_with fail
        refine (letters_is s false Hw.out _ hs).mono ?_
        rintro e w' ⟨rfl, rfl⟩
        go_wp2_with fail
        refine (digits_is s true Hd.out _ hs).mono ?_
        rintro e w' ⟨rfl, rfl⟩
        go_wp2
        go_ret
        exact ⟨by rw [Hp.out]; rfl, rfl⟩

/-! ### Cut. -/
def glue (p : Bs) : List Bs → List Bs
  | [] => [p]
  | q :: qs => (p ++ q) :: qs
theorem glue_nil {l : List Bs} (h : l ≠ []) : glue [] l = l := by cases l with | nil => exact absurd rfl h | cons q qs => rfl
theorem cut_other {c d : UInt8} (h : d ≠ c) (r : Bs) : cut c (d :: r) = glue [d] (cut c r) := by
  rw [cut, if_neg (by simpa using h)]
  cases cut c r <;> rfl
theorem cut_same (c : UInt8) (r : Bs) : cut c (c :: r) = [] :: cut c r := by rw [cut, if_pos (by simp)]
theorem glue_glue (p q : Bs) (l : List Bs) (_h : l ≠ []) : glue p (glue q l) = glue (p ++ q) l := by
  cases l with | nil => rfl | cons a b => simp [glue]

theorem seg_toList (s : ByteArray) (f i : Nat) (_h : i ≤ s.size) : (s.extract f i).data.toList = (s.data.toList.take i).drop f := by
  rw [ByteArray.data_extract]; simp [Array.toList_extract, List.extract_eq_take_drop]
  rw [List.drop_take]
theorem seg_snoc (s : ByteArray) (f i : Nat) (h1 : f ≤ i) (h : i < s.size) : (s.extract f (i + 1)).data.toList = (s.extract f i).data.toList ++ [s[i]] := by
  rw [seg_toList s f (i + 1) h, seg_toList s f i (by omega), take_snoc s i h, List.drop_append_of_le_length (by simp; omega)]
theorem seg_self (s : ByteArray) (i : Nat) (h : i ≤ s.size) : (s.extract i i).data.toList = [] := by
  rw [seg_toList s i i h]; simp
theorem drop_at (s : ByteArray) (i : Nat) (h : i < s.size) : s.data.toList.drop i = s[i] :: s.data.toList.drop (i + 1) := by
  rw [List.drop_eq_getElem_cons (by simpa using h)]; rfl

end Go.Proofs.YtaahdhpljlkfjaaGreat.Ver

/- ref.Cut, ref.May: the document's own answers. -/
namespace Go.Proofs.YtaahdhpljlkfjaaGreat.Ver
open Go.RowKit

/-- What is known of Cut's loop at byte i, the last piece having begun at f. -/
def CutAt (c : UInt8) (s : ByteArray) (outs : List Bs) (f i : Nat) : Prop :=
  (i ≤ s.size ∧ cut c s.data.toList = outs ++ glue (s.extract f i).data.toList (cut c (s.data.toList.drop i))) ∨ (i = s.size + 1 ∧ outs = cut c s.data.toList)
theorem cutAt_start (c : UInt8) (s : ByteArray) : CutAt c s [] 0 0 :=
  .inl ⟨Nat.zero_le _, by rw [seg_self s 0 (Nat.zero_le _), glue_nil (cut_ne _ _)]; rfl⟩
theorem cutAt_go {c : UInt8} {s : ByteArray} {outs : List Bs} {f i : Nat} (h : CutAt c s outs f i) (hf : f ≤ i) (hi : i < s.size) (hc : s[i] ≠ c) : CutAt c s outs f (i + 1) := by
  rcases h with ⟨_, h⟩ | ⟨h, _⟩
  · exact .inl ⟨by omega, by rw [h, drop_at s i hi, cut_other hc, glue_glue _ _ _ (cut_ne _ _), seg_snoc s f i hf hi]⟩
  · omega
theorem cutAt_cut {c : UInt8} {s : ByteArray} {outs : List Bs} {f i : Nat} (h : CutAt c s outs f i) (hi : i < s.size) (hc : s[i] = c) : CutAt c s (outs ++ [(s.extract f i).data.toList]) (i + 1) (i + 1) := by
  rcases h with ⟨_, h⟩ | ⟨h, _⟩
  · refine .inl ⟨by omega, ?_⟩
    rw [h, drop_at s i hi, hc, cut_same, seg_self s (i + 1) (by omega), glue_nil (cut_ne _ _)]
    simp [glue]
  · omega
theorem cutAt_end {c : UInt8} {s : ByteArray} {outs : List Bs} {f : Nat} (h : CutAt c s outs f s.size) : CutAt c s (outs ++ [(s.extract f s.size).data.toList]) (s.size + 1) (s.size + 1) := by
  rcases h with ⟨_, h⟩ | ⟨h, _⟩
  · refine .inr ⟨rfl, ?_⟩
    rw [h, List.drop_of_length_le (by simp)]; simp [cut, glue]
  · omega

set_option maxHeartbeats 1000000 in
theorem refCut_any (s : ByteArray) (c : UInt8) (ci : Int) (hci : (c.toNat : Int) = ci) (w : World) (hs : s.size ≤ 1000000) :
    Calls Tryz.prog 83 #[.string s, .int .u8 ci] w
      fun e W' => ∃ v, e = .returned v ∧ W'.ownsRow w.heap.size 9 1 v (cut c s.data.toList).length (texts (cut c s.data.toList)) ∧ Below w.heap.size w W' := by
  obtain ⟨i0, hi, hz0, hz1, hz2⟩ := info_parts info_string
  have Hci := Lib.hid hci
  clear hci
  go_enter Tryz.func83, Tryz.ntmps83
  go_wp2
  go_loopw [5, 6, 7] (fun v vf vi wr => ∃ (i f : Nat) (outs : List Bs), f ≤ i ∧ i ≤ s.size + 1 ∧ outs.length ≤ i ∧ vi = .int .i64 i ∧ vf = .int .i64 f ∧ wr.ownsRow w.heap.size 9 1 v outs.length (texts outs) ∧ Below w.heap.size w wr ∧ Hid (CutAt c s outs f i))
    (fun _ _ i _ => s.size + 1 - (intOf i).toNat)
  case atStart =>
    refine ⟨0, 0, [], by omega, by omega, by simp, rfl, rfl, ?_, by go_grown, Lib.hid (cutAt_start c s)⟩
    exact World.ownsRow_lit w #[] 0 (Nat.le_refl _) (by unfold maxLen; omega) rfl
  case round =>
    obtain ⟨i, f, outs, hfi, hi1, hol, rfl, rfl, hown, hbel, hcut⟩ := hrel
    have hsz := hbel.size
    by_cases hle : i ≤ s.size
    · have hle' : (i : Int) ≤ s.size := by omega
      have hf1 : (f : Int) ≤ i := by omega
      by_cases he : i = s.size
      · have he' : ((i : Int) == s.size) = true := by rw [beq_iff_eq]; omega
        have Hnew := Lib.hid (by have := cutAt_end (he ▸ hcut.out); exact this)
        have He := Lib.hid he
        clear he
        go_wp2_with (at_builtin; refine wpList_append_own _ rfl _ _ 47 rfl w.heap.size 9 i0 (.string ByteArray.empty) 1 16 Tryz.underlying47 hi hz0 hz1 hz2 rfl (by decide) _ _ _ rfl (hown.alloc _) ⟨wr.heap.size, 0, none⟩ 1 1 [.string (s.extract f i)] rfl rfl one_news one_str (by unfold maxLen; omega) (by omega) (by simp; omega) ?_)
        intro v' w1 hown' hgrow _
        have hb1 := below_append hbel (Nat.le_refl _) hown hgrow
        have hown2 := ownsRow_cast hown' (show outs.length + 1 = (outs ++ [(s.extract f i).data.toList]).length by simp) (show texts outs ++ [.string (s.extract f i)] = texts (outs ++ [(s.extract f i).data.toList]) by rw [texts_snoc, mk_toList])
        clear hown' hgrow hown hbel
        go_wp2
        go_roundw
        case rel => exact ⟨i + 1, i + 1, outs ++ [(s.extract f i).data.toList], by omega, by omega, by simp; omega, by go_num, by go_num, hown2, hb1, Lib.hid (by have e := He.out; subst e; exact Hnew.out)⟩
        case measure => simp [intOf]; omega
      · have hlt : i < s.size := by omega
        have he' : ((i : Int) == s.size) = false := by rw [beq_eq_false_iff_ne]; omega
        by_cases hc : s[i] = c
        · have hc' : ((s[i].toNat : Int) == ci) = true := by rw [hc, beq_iff_eq]; exact Hci.out
          have Hnew := Lib.hid (cutAt_cut hcut.out hlt hc)
          clear hc he
          go_wp2_with (at_builtin; refine wpList_append_own _ rfl _ _ 47 rfl w.heap.size 9 i0 (.string ByteArray.empty) 1 16 Tryz.underlying47 hi hz0 hz1 hz2 rfl (by decide) _ _ _ rfl (hown.alloc _) ⟨wr.heap.size, 0, none⟩ 1 1 [.string (s.extract f i)] rfl rfl one_news one_str (by unfold maxLen; omega) (by omega) (by simp; omega) ?_)
          intro v' w1 hown' hgrow _
          have hb1 := below_append hbel (Nat.le_refl _) hown hgrow
          have hown2 := ownsRow_cast hown' (show outs.length + 1 = (outs ++ [(s.extract f i).data.toList]).length by simp) (show texts outs ++ [.string (s.extract f i)] = texts (outs ++ [(s.extract f i).data.toList]) by rw [texts_snoc, mk_toList])
          clear hown' hgrow hown hbel
          go_wp2
          go_roundw
          case rel => exact ⟨i + 1, i + 1, outs ++ [(s.extract f i).data.toList], by omega, by omega, by simp; omega, by go_num, by go_num, hown2, hb1, Hnew⟩
          case measure => simp [intOf]; omega
        · have hc' : ((s[i].toNat : Int) == ci) = false := by
            rw [beq_eq_false_iff_ne]; intro e; apply hc; apply UInt8.toNat_inj.1; have := Hci.out; omega
          have Hnew := Lib.hid (cutAt_go hcut.out hfi hlt hc)
          clear hc he
          go_wp2
          go_roundw
          case rel => exact ⟨i + 1, f, outs, by omega, by omega, by omega, by go_num, rfl, hown, hbel, Hnew⟩
          case measure => simp [intOf]; omega
    · have hle' : ¬ (i : Int) ≤ s.size := by omega
      have hout : outs = cut c s.data.toList := by
        rcases hcut.out with ⟨h, _⟩ | ⟨_, h⟩
        · omega
        · exact h
      have Hout := Lib.hid hout
      clear hout hcut
      go_wp2
      go_ret
      exact ⟨_, rfl, by rw [← Hout.out]; exact hown, hbel⟩

end Go.Proofs.YtaahdhpljlkfjaaGreat.Ver

/- comparePart: how two parts stand to each other. -/
namespace Go.Proofs.YtaahdhpljlkfjaaGreat.Ver
open Go.RowKit

theorem cmpInt_any (x y : Int) (w : World) :
    Calls Tryz.prog 59 #[.int .i64 x, .int .i64 y] w fun e w' => e = .returned (.int .i64 (Lib.compareInt x y)) ∧ w = w' := by
  refine (Tryz.cmp_Compare_int x y w).mono ?_
  rintro e w' ⟨rfl, rfl⟩; exact ⟨rfl, rfl⟩
theorem cmpStr_any (a b : ByteArray) (w : World) :
    Calls Tryz.prog 97 #[.string a, .string b] w fun e w' => e = .returned (.int .i64 (Lib.compareBytes a.data.toList b.data.toList)) ∧ w = w' := by
  refine (Tryz.strings_Compare a b w).mono ?_
  rintro e w' ⟨rfl, rfl⟩; exact ⟨rfl, rfl⟩

set_option maxHeartbeats 400000 in
theorem rankOfPart_any (s : ByteArray) (w : World) (hs : s.size ≤ maxLen) :
    Calls Tryz.prog 96 #[.string s] w fun e w' => e = .returned (.int .i64 (rank s.data.toList)) ∧ w = w' := by
  cases he : s.data.toList.isEmpty with
  | true =>
    have hr : rank s.data.toList = 1 := by unfold rank; rw [he]; rfl
    have Hr := Lib.hid hr
    have e1 : s.toList = [] := by rw [Lib.toList_data]; exact List.isEmpty_iff.1 he
    have e2 : s.toList.isEmpty = true := by rw [Lib.toList_data]; exact he
    clear hr he
    go_enter Tryz.func96, Tryz.ntmps96
    go_wp2
    go_ret
    exact ⟨by rw [Hr.out]; rfl, rfl⟩
  | false =>
    have e2 : s.toList.isEmpty = false := by rw [Lib.toList_data]; exact he
    cases hw : word s.data.toList with
    | true =>
      have hr : rank s.data.toList = 0 := by unfold rank; rw [he, hw]; rfl
      have Hr := Lib.hid hr
      have Hw := Lib.hid hw
      clear hr he hw
      go_enter Tryz.func96, Tryz.ntmps96
      go_wp2_with fail
      refine (isWord_any s _ hs).mono ?_
      rintro e w' ⟨rfl, rfl⟩
      rw [Hw.out]
      go_wp2
      go_ret
      exact ⟨by rw [Hr.out]; rfl, rfl⟩
    | false =>
      have hr : rank s.data.toList = 2 := by unfold rank; rw [he, hw]; rfl
      have Hr := Lib.hid hr
      have Hw := Lib.hid hw
      clear hr he hw
      go_enter Tryz.func96, Tryz.ntmps96
      go_wp2_with fail
      refine (isWord_any s _ hs).mono ?_
      rintro e w' ⟨rfl, rfl⟩
      rw [Hw.out]
      go_wp2
      go_ret
      exact ⟨by rw [Hr.out]; rfl, rfl⟩

theorem rank_range (p : Bs) : rank p = 0 ∨ rank p = 1 ∨ rank p = 2 := by
  unfold rank; split
  · exact .inr (.inl rfl)
  · split
    · exact .inl rfl
    · exact .inr (.inr rfl)

set_option maxHeartbeats 800000 in
theorem comparePart_any (a b : ByteArray) (w : World) (ha : a.size ≤ maxLen) (hb : b.size ≤ maxLen) :
    Calls Tryz.prog 71 #[.string a, .string b] w fun e w' => e = .returned (.int .i64 (cmpPart a.data.toList b.data.toList)) ∧ w = w' := by
  obtain ⟨ra, hra⟩ : ∃ ra, rank a.data.toList = ra := ⟨_, rfl⟩
  obtain ⟨rb, hrb⟩ : ∃ rb, rank b.data.toList = rb := ⟨_, rfl⟩
  have Hra := Lib.hid hra
  have Hrb := Lib.hid hrb
  by_cases hne : ra = rb
  · subst hne
    have hz : Lib.compareInt ra ra = 0 := ci_eq.2 rfl
    have Hz := Lib.hid hz
    by_cases h2 : ra = 2
    · have g1 : (ra == 2) = true := by simpa using h2
      by_cases hl : a.size = b.size
      · have hc : cmpPart a.data.toList b.data.toList = Lib.compareBytes a.data.toList b.data.toList := cp_bytes (hra.trans hrb.symm) (by rw [size_toList, size_toList]; omega)
        have Hc := Lib.hid hc
        have g2 : ((a.size : Int) != (b.size : Int)) = false := by rw [hl]; simp
        clear hra hrb hz hc hl h2
        go_enter Tryz.func71, Tryz.ntmps71
        go_wp2_with fail
        refine (rankOfPart_any a _ ha).mono ?_
        rintro e w' ⟨rfl, rfl⟩
        rw [Hra.out]
        go_wp2_with fail
        refine (rankOfPart_any b _ hb).mono ?_
        rintro e w' ⟨rfl, rfl⟩
        rw [Hrb.out]
        go_wp2_with fail
        refine (cmpInt_any _ _ _).mono ?_
        rintro e w' ⟨rfl, rfl⟩
        rw [Hz.out]
        go_wp2_with fail
        refine (cmpStr_any _ _ _).mono ?_
        rintro e w' ⟨rfl, rfl⟩
        go_wp2
        go_ret
        exact ⟨by rw [Hc.out]; rfl, rfl⟩
      · have hc : cmpPart a.data.toList b.data.toList = Lib.compareInt a.size b.size := by
          rw [cp_len (hra.trans hrb.symm) ⟨hra.trans h2, by rw [size_toList, size_toList]; exact hl⟩, size_toList, size_toList]
        have Hc := Lib.hid hc
        have g2 : ((a.size : Int) != (b.size : Int)) = true := by rw [bne_iff_ne]; omega
        clear hra hrb hz hc hl h2
        go_enter Tryz.func71, Tryz.ntmps71
        go_wp2_with fail
        refine (rankOfPart_any a _ ha).mono ?_
        rintro e w' ⟨rfl, rfl⟩
        rw [Hra.out]
        go_wp2_with fail
        refine (rankOfPart_any b _ hb).mono ?_
        rintro e w' ⟨rfl, rfl⟩
        rw [Hrb.out]
        go_wp2_with fail
        refine (cmpInt_any _ _ _).mono ?_
        rintro e w' ⟨rfl, rfl⟩
        rw [Hz.out]
        go_wp2_with fail
        refine (cmpInt_any _ _ _).mono ?_
        rintro e w' ⟨rfl, rfl⟩
        go_wp2
        go_ret
        exact ⟨by rw [Hc.out]; rfl, rfl⟩
    · have g1 : (ra == 2) = false := by simpa using h2
      have hc : cmpPart a.data.toList b.data.toList = Lib.compareBytes a.data.toList b.data.toList := cp_bytes (hra.trans hrb.symm) (by rw [hra]; omega)
      have Hc := Lib.hid hc
      clear hra hrb hz hc h2
      go_enter Tryz.func71, Tryz.ntmps71
      go_wp2_with fail
      refine (rankOfPart_any a _ ha).mono ?_
      rintro e w' ⟨rfl, rfl⟩
      rw [Hra.out]
      go_wp2_with fail
      refine (rankOfPart_any b _ hb).mono ?_
      rintro e w' ⟨rfl, rfl⟩
      rw [Hrb.out]
      go_wp2_with fail
      refine (cmpInt_any _ _ _).mono ?_
      rintro e w' ⟨rfl, rfl⟩
      rw [Hz.out]
      go_wp2_with fail
      refine (cmpStr_any _ _ _).mono ?_
      rintro e w' ⟨rfl, rfl⟩
      go_wp2
      go_ret
      exact ⟨by rw [Hc.out]; rfl, rfl⟩
  · have hc : cmpPart a.data.toList b.data.toList = Lib.compareInt ra rb := by rw [cp_rank (by rw [hra, hrb]; exact hne), hra, hrb]
    obtain ⟨c, hcc⟩ : ∃ c, Lib.compareInt ra rb = c := ⟨_, rfl⟩
    have hc0 : (c != 0) = true := by rw [bne_iff_ne, ← hcc]; exact fun e => hne (ci_eq.1 e)
    rw [hcc] at hc
    have Hc := Lib.hid hc
    have Hcc := Lib.hid hcc
    clear hra hrb hc hne hcc
    go_enter Tryz.func71, Tryz.ntmps71
    go_wp2_with fail
    refine (rankOfPart_any a _ ha).mono ?_
    rintro e w' ⟨rfl, rfl⟩
    rw [Hra.out]
    go_wp2_with fail
    refine (rankOfPart_any b _ hb).mono ?_
    rintro e w' ⟨rfl, rfl⟩
    rw [Hrb.out]
    go_wp2_with fail
    refine (cmpInt_any _ _ _).mono ?_
    rintro e w' ⟨rfl, rfl⟩
    rw [Hcc.out]
    go_wp2
    go_ret
    exact ⟨by rw [Hc.out]; rfl, rfl⟩

set_option maxHeartbeats 400000 in
theorem rankOfText_any (s : ByteArray) (w : World) :
    Calls Tryz.prog 68 #[.string s] w fun e w' => e = .returned (.int .i64 (mayI s.data.toList)) ∧ Below w.heap.size w w' := by
  cases hm : may s.data.toList with
  | true =>
    have hi : mayI s.data.toList = 1 := by unfold mayI; rw [hm]; rfl
    have Hi := Lib.hid hi
    have Hm := Lib.hid hm
    clear hi hm
    go_enter Tryz.func68, Tryz.ntmps68
    go_wp2_with fail
    refine (may_any s _).mono ?_
    rintro e w' ⟨rfl, hb⟩
    rw [Hm.out]
    go_wp2
    go_ret
    exact ⟨by rw [Hi.out]; rfl, hb⟩
  | false =>
    have hi : mayI s.data.toList = 0 := by unfold mayI; rw [hm]; rfl
    have Hi := Lib.hid hi
    have Hm := Lib.hid hm
    clear hi hm
    go_enter Tryz.func68, Tryz.ntmps68
    go_wp2_with fail
    refine (may_any s _).mono ?_
    rintro e w' ⟨rfl, hb⟩
    rw [Hm.out]
    go_wp2
    go_ret
    exact ⟨by rw [Hi.out]; rfl, hb⟩

end Go.Proofs.YtaahdhpljlkfjaaGreat.Ver
