/- ref.Cut, ref.May: the document's own answers. -/
import Derived.Test.YtdijkekglaimfaaGreatDoorVerRef
namespace Go.Proofs.YtdijkekglaimfaaGreatDoor.Ver
open Go.RowKit

/-- What is known of Cut's loop at byte i, the last piece having begun at f. -/
def CutAt (c : UInt8) (s : ByteArray) (outs : List Bs) (f i : Nat) : Prop :=
  (i ≤ s.size ∧ cut c s.data.toList = outs ++ glue (s.extract f i).data.toList (cut c (s.data.toList.drop i))) ∨ (i = s.size + 1 ∧ outs = cut c s.data.toList)
theorem cutAt_start (c : UInt8) (s : ByteArray) : CutAt c s [] 0 0 :=
  .inl ⟨Nat.zero_le _, by rw [seg_self s 0 (Nat.zero_le _), glue_nil (cut_ne _ _)]; rfl⟩
theorem cutAt_go {c : UInt8} {s : ByteArray} {outs : List Bs} {f i : Nat} (h : CutAt c s outs f i) (hf : f ≤ i) (hi : i < s.size) (hc : s[i] ≠ c) : CutAt c s outs f (i + 1) := by
  rcases h with ⟨_, h⟩ | ⟨h, _⟩
  · exact .inl ⟨by omega, by rw [h, drop_at s i hi, cut_other hc, glue_glue _ _ _ (cut_ne _ _), seg_snoc s f i hf hi]⟩
  · omega
theorem cutAt_cut {c : UInt8} {s : ByteArray} {outs : List Bs} {f i : Nat} (h : CutAt c s outs f i) (hi : i < s.size) (hc : s[i] = c) : CutAt c s (outs ++ [(s.extract f i).data.toList]) (i + 1) (i + 1) := by
  rcases h with ⟨_, h⟩ | ⟨h, _⟩
  · refine .inl ⟨by omega, ?_⟩
    rw [h, drop_at s i hi, hc, cut_same, seg_self s (i + 1) (by omega), glue_nil (cut_ne _ _)]
    simp [glue]
  · omega
theorem cutAt_end {c : UInt8} {s : ByteArray} {outs : List Bs} {f : Nat} (h : CutAt c s outs f s.size) : CutAt c s (outs ++ [(s.extract f s.size).data.toList]) (s.size + 1) (s.size + 1) := by
  rcases h with ⟨_, h⟩ | ⟨h, _⟩
  · refine .inr ⟨rfl, ?_⟩
    rw [h, List.drop_of_length_le (by simp)]; simp [cut, glue]
  · omega

set_option maxHeartbeats 1000000 in
theorem refCut_any (s : ByteArray) (c : UInt8) (ci : Int) (hci : (c.toNat : Int) = ci) (w : World) (hs : s.size ≤ 1000000) :
    Calls Tryz.prog 13 #[.string s, .int .u8 ci] w
      fun e W' => ∃ v, e = .returned v ∧ W'.ownsRow w.heap.size 9 1 v (cut c s.data.toList).length (texts (cut c s.data.toList)) ∧ Below w.heap.size w W' := by
  obtain ⟨i0, hi, hz0, hz1, hz2⟩ := info_parts info_string
  have Hci := Lib.hid hci
  clear hci
  go_enter Tryz.func13, Tryz.ntmps13
  go_wp2
  go_loopw [5, 6, 7] (fun v vf vi wr => ∃ (i f : Nat) (outs : List Bs), f ≤ i ∧ i ≤ s.size + 1 ∧ outs.length ≤ i ∧ vi = .int .i64 i ∧ vf = .int .i64 f ∧ wr.ownsRow w.heap.size 9 1 v outs.length (texts outs) ∧ Below w.heap.size w wr ∧ Hid (CutAt c s outs f i))
    (fun _ _ i _ => s.size + 1 - (intOf i).toNat)
  case atStart =>
    refine ⟨0, 0, [], by omega, by omega, by simp, rfl, rfl, ?_, by go_grown, Lib.hid (cutAt_start c s)⟩
    exact World.ownsRow_lit w #[] 0 (Nat.le_refl _) (by unfold maxLen; omega) rfl
  case round =>
    obtain ⟨i, f, outs, hfi, hi1, hol, rfl, rfl, hown, hbel, hcut⟩ := hrel
    have hsz := hbel.size
    by_cases hle : i ≤ s.size
    · have hle' : (i : Int) ≤ s.size := by omega
      have hf1 : (f : Int) ≤ i := by omega
      by_cases he : i = s.size
      · have he' : ((i : Int) == s.size) = true := by rw [beq_iff_eq]; omega
        have Hnew := Lib.hid (by have := cutAt_end (he ▸ hcut.out); exact this)
        have He := Lib.hid he
        clear he
        go_wp2_with (at_builtin; refine wpList_append_own _ rfl _ _ 32 rfl w.heap.size 9 i0 (.string ByteArray.empty) 1 16 Tryz.underlying32 hi hz0 hz1 hz2 rfl (by decide) _ _ _ rfl (hown.alloc _) ⟨wr.heap.size, 0, none⟩ 1 1 [.string (s.extract f i)] rfl rfl one_news one_str (by unfold maxLen; omega) (by omega) (by simp; omega) ?_)
        intro v' w1 hown' hgrow _
        have hb1 := below_append hbel (Nat.le_refl _) hown hgrow
        have hown2 := ownsRow_cast hown' (show outs.length + 1 = (outs ++ [(s.extract f i).data.toList]).length by simp) (show texts outs ++ [.string (s.extract f i)] = texts (outs ++ [(s.extract f i).data.toList]) by rw [texts_snoc, mk_toList])
        clear hown' hgrow hown hbel
        go_wp2
        go_roundw
        case rel => exact ⟨i + 1, i + 1, outs ++ [(s.extract f i).data.toList], by omega, by omega, by simp; omega, by go_num, by go_num, hown2, hb1, Lib.hid (by have e := He.out; subst e; exact Hnew.out)⟩
        case measure => simp [intOf]; omega
      · have hlt : i < s.size := by omega
        have he' : ((i : Int) == s.size) = false := by rw [beq_eq_false_iff_ne]; omega
        by_cases hc : s[i] = c
        · have hc' : ((s[i].toNat : Int) == ci) = true := by rw [hc, beq_iff_eq]; exact Hci.out
          have Hnew := Lib.hid (cutAt_cut hcut.out hlt hc)
          clear hc he
          go_wp2_with (at_builtin; refine wpList_append_own _ rfl _ _ 32 rfl w.heap.size 9 i0 (.string ByteArray.empty) 1 16 Tryz.underlying32 hi hz0 hz1 hz2 rfl (by decide) _ _ _ rfl (hown.alloc _) ⟨wr.heap.size, 0, none⟩ 1 1 [.string (s.extract f i)] rfl rfl one_news one_str (by unfold maxLen; omega) (by omega) (by simp; omega) ?_)
          intro v' w1 hown' hgrow _
          have hb1 := below_append hbel (Nat.le_refl _) hown hgrow
          have hown2 := ownsRow_cast hown' (show outs.length + 1 = (outs ++ [(s.extract f i).data.toList]).length by simp) (show texts outs ++ [.string (s.extract f i)] = texts (outs ++ [(s.extract f i).data.toList]) by rw [texts_snoc, mk_toList])
          clear hown' hgrow hown hbel
          go_wp2
          go_roundw
          case rel => exact ⟨i + 1, i + 1, outs ++ [(s.extract f i).data.toList], by omega, by omega, by simp; omega, by go_num, by go_num, hown2, hb1, Hnew⟩
          case measure => simp [intOf]; omega
        · have hc' : ((s[i].toNat : Int) == ci) = false := by
            rw [beq_eq_false_iff_ne]; intro e; apply hc; apply UInt8.toNat_inj.1; have := Hci.out; omega
          have Hnew := Lib.hid (cutAt_go hcut.out hfi hlt hc)
          clear hc he
          go_wp2
          go_roundw
          case rel => exact ⟨i + 1, f, outs, by omega, by omega, by omega, by go_num, rfl, hown, hbel, Hnew⟩
          case measure => simp [intOf]; omega
    · have hle' : ¬ (i : Int) ≤ s.size := by omega
      have hout : outs = cut c s.data.toList := by
        rcases hcut.out with ⟨h, _⟩ | ⟨_, h⟩
        · omega
        · exact h
      have Hout := Lib.hid hout
      clear hout hcut
      go_wp2
      go_ret
      exact ⟨_, rfl, by rw [← Hout.out]; exact hown, hbel⟩

end Go.Proofs.YtdijkekglaimfaaGreatDoor.Ver
