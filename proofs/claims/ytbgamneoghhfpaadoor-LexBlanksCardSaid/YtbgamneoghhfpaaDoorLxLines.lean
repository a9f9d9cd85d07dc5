/- The walk of Lines. -/
import Derived.Test.YtbgamneoghhfpaaDoorLxRefLine
import Derived.Test.YtbgamneoghhfpaaDoorLxSplit
namespace Go.Proofs.YtbgamneoghhfpaaDoor.Lx
open Go.RowKit

def nthP (l : List ByteArray) (i : Nat) : ByteArray := l[i]?.getD ⟨#[]⟩
theorem nthP_get {l : List ByteArray} {i : Nat} (h : i < l.length) : l[i]? = some (nthP l i) := by unfold nthP; rw [List.getElem?_eq_getElem h]; rfl
theorem pieces_le {l : Bs} {i : Nat} (h : i < (pieces l).length) : (nthP (pieces l) i).size ≤ l.length := by
  have hm : nthP (pieces l) i ∈ pieces l := by
    have := nthP_get h
    exact List.mem_of_getElem? this
  have hm2 : nthP (pieces l) i ∈ (cut 10 l).map mk := hm
  rw [List.mem_map] at hm2
  obtain ⟨p, hp, e⟩ := hm2
  rw [← e]
  have := cut_le 10 l p hp
  unfold mk
  show p.toArray.size ≤ _
  simpa using this
/-- How it goes on behind a line. -/
def nextR (ps : List ByteArray) (k n : Nat) (out : List Line) (L : Sum (Nat × Nat) St) : Sum (Nat × Nat × Nat) (List Line) :=
  match L with
  | .inl (c, e) => .inl (n, c, e)
  | .inr st => linesS (ps.drop (k + 1)) (n + 1) (if st.cols.length = 0 then out else out ++ [(n, wordsB (nthP ps k) st.cols)])
theorem linesS_at {ps : List ByteArray} {k : Nat} (hk : k < ps.length) (n : Nat) (out : List Line) : linesS (ps.drop k) n out = nextR ps k n out (lineS (if out.length = 2000 then 0 else 40) (nthP ps k).data.toList) := by
  have hg := nthP_get hk
  rw [List.getElem?_eq_getElem hk] at hg
  injection hg with hg
  rw [List.drop_eq_getElem_cons hk, hg]; rfl

def LinesPost (w : World) (R : Sum (Nat × Nat × Nat) (List Line)) (e : Ending) (w' : World) : Prop :=
  match R with
  | .inl (a, c, x) => e = .returned (.tuple #[.slice none 0 0, .agg #[.int .i64 (a : Nat), .int .i64 (c : Nat)], .int .i64 (x : Nat)]) ∧ Below w.heap.size w w'
  | .inr ls => ∃ A n cap us, e = .returned (.tuple #[.slice A n cap, .agg #[.int .i64 0, .int .i64 0], .int .i64 0]) ∧ n = ls.length ∧ OwnL w' w.heap.size (.slice A n cap) us ls ∧ Below w.heap.size w w'

theorem OwnL.base {w : World} {base base' : Nat} {v : Value} {us : List Value} {ls : List Line} (h : OwnL w base v us ls) (hb : base' ≤ base) : OwnL w base' v us ls :=
  ⟨ownsRow_base h.1 hb, h.2.1, fun j u z hu hz => (h.2.2 j u z hu hz).base hb⟩

set_option maxRecDepth 100000 in
set_option maxHeartbeats 2000000 in
theorem lines_big (s : ByteArray) (w : World) (hs : 65536 < s.size) :
    Calls Tryd.prog 8 #[.string s] w (LinesPost w (lexS s)) := by
  have h' : (65536 : Int) < (s.size : Int) := by omega
  have HL := Lib.hid (show lexS s = .inl (0, 0, 4) by unfold lexS; rw [if_pos hs])
  clear hs
  go_enter Tryd.func8, Tryd.ntmps8
  go_wp2
  refine bodyPost_ret (v := .tuple #[.slice none 0 0, .agg #[.int .i64 0, .int .i64 0], .int .i64 4]) (by simp [results, Tryd.results8, go_sem]) rfl ?_
  rw [HL.out]
  refine ⟨rfl, ?_⟩
  go_grown

set_option maxRecDepth 100000 in
set_option maxHeartbeats 2000000 in
theorem lines_small (s : ByteArray) (w : World) (hs : s.size ≤ 65536) :
    Calls Tryd.prog 8 #[.string s] w (LinesPost w (lexS s)) := by
  have h' : ¬ (65536 : Int) < (s.size : Int) := by omega
  have hR : linesS (pieces s.data.toList) 1 [] = lexS s := by unfold lexS; rw [if_neg (by omega)]
  generalize lexS s = R at hR ⊢
  have HR := Lib.hid hR
  have hlen : s.data.toList.length = s.size := by simp
  have HLEN := Lib.hid hlen
  clear hR hlen
  go_enter Tryd.func8, Tryd.ntmps8
  go_wp2_with fail
  refine (split_any s _ hs).mono ?_
  rintro e w2 ⟨n, rfl, hn, hn2, hw2⟩
  have HN := Lib.hid hn
  obtain ⟨ps, hps⟩ : ∃ ps, ps = pieces s.data.toList := ⟨_, rfl⟩
  rw [← hps] at hn hw2
  have hpl : ∀ k, k < ps.length → (nthP ps k).size ≤ 65536 := by
    intro k hk
    rw [hps] at hk ⊢
    have := pieces_le hk
    rw [HLEN.out] at this; omega
  have HPL := Lib.hid hpl
  have hr2 : linesS (ps.drop 0) 1 [] = R := by rw [List.drop_zero, hps]; exact HR.out
  have HR2 := Lib.hid hr2
  have HPN := Lib.hid hn
  have hrc : w2.heap[w.heap.size]? = some (.cells #[.int .i64 0, .int .i64 0] 25 (0, 0)) := by
    rw [hw2]; exact heap_below (heap_alloc_new w _) ((Below.refl _ _).alloc (Nat.le_refl _) _)
  have hpc : w2.heap[w.heap.size + 1]? = some (.cells (ps.map Value.string).toArray 9 (0, 0)) := by
    rw [hw2]
    have h := heap_alloc_new (w.alloc (.cells #[.int .i64 0, .int .i64 0] 25)) (.cells (ps.map Value.string).toArray 9)
    rwa [show (w.alloc (.cells #[.int .i64 0, .int .i64 0] 25)).heap.size = w.heap.size + 1 by simp] at h
  have hb2 : Below w.heap.size w w2 := by rw [hw2]; exact ((Below.refl _ _).alloc (Nat.le_refl _) _).alloc (by simp) _
  have hz2 : w2.heap.size = w.heap.size + 2 := by rw [hw2]; simp
  have HRC := Lib.hid hrc
  have HPC := Lib.hid hpc
  have HB2 := Lib.hid hb2
  have hz2' : w.heap.size + 1 < w2.heap.size := by omega
  clear HR hn hps hw2 hpl hr2 hrc hpc hb2 hz2 HN
  go_wp2
  go_loopw [5, 19] (fun t i wr => ∃ (k : Nat) (A : Option Addr) (m cap : Nat) (us : List Value) (ls : List Line), k ≤ n ∧ i = .int .i64 k ∧ t = .slice A m cap ∧ m ≤ 2000 ∧ m = ls.length ∧ OwnL wr w2.heap.size (.slice A m cap) us ls ∧ linesS (ps.drop k) (k + 1) ls = R ∧ Below w2.heap.size w2 wr) (fun _ i _ => n - (intOf i).toNat)
  case atStart => exact ⟨0, none, 0, 0, [], [], Nat.zero_le _, rfl, rfl, by omega, rfl, OwnL.nil _ _, HR2.out, Below.refl _ _⟩
  case round =>
    obtain ⟨k, A, m, cap, us, ls, hk, rfl, rfl, hm2, hm, hown, hrun, hbw⟩ := hrel
    have HM := Lib.hid hm
    have HO := Lib.hid hown
    have HB := Lib.hid hbw
    have HRUN := Lib.hid hrun
    have hbwz := hbw.size
    clear HR2 hm hown hrun
    by_cases hlt : k < n
    · have hkp : k < ps.length := by rw [← HPN.out]; exact hlt
      have q0 : wr.cell? ⟨w.heap.size + 1, k, none⟩ = some (.string (nthP ps k)) := by
        refine cells_get (heap_below HPC.out hbw) k ?_
        simp [nthP_get hkp]
      have HPK := Lib.hid (HPL.out k hkp)
      have hst := linesS_at hkp (k + 1) ls
      obtain ⟨most, hmost⟩ : ∃ most, most = if ls.length = 2000 then 0 else 40 := ⟨_, rfl⟩
      have hm40 : most ≤ 40 := by rw [hmost]; split <;> omega
      rw [← hmost] at hst
      obtain ⟨L, hL⟩ : ∃ L, lineS most (nthP ps k).data.toList = L := ⟨_, rfl⟩
      rw [hL] at hst
      have HL := Lib.hid hL
      have R2 := Lib.hid (hst.symm.trans HRUN.out)
      have HMO := Lib.hid hmost
      clear HRUN hst hL hmost hbw
      have hWO := wordsOf_any (nthP ps k) most wr HPK.out hm40 L HL.out
      have HWO := Lib.hid hWO
      clear hWO
      by_cases h2000 : m = 2000
      · have e2000 : ((m : Int) == 2000) = true := by simp; omega
        have hm0 : most = 0 := by rw [HMO.out, if_pos (by rw [← HM.out]; exact h2000)]
        subst hm0
        clear h2000
        cases L with
        | inl cx =>
          obtain ⟨c, x⟩ := cx
          have hx := run_err _ _ _ _ _ HL.out
          have hxn : ((x : Int) != 0) = true := by simp; omega
          have hR : R = .inl (k + 1, c, x) := R2.out.symm
          have HRR := Lib.hid hR
          clear hx hR
          go_wp2_with fail
          refine HWO.out.mono ?_
          rintro e w3 ⟨rfl, hb3⟩
          have hT := HB.out.trans (hb3.mono HB.out.size)
          have HT := Lib.hid (HB2.out.trans (hT.mono HB2.out.size))
          have rc := heap_below HRC.out hT
          have r0 := cells_get rc 0 (v := .int .i64 0) rfl
          have r1 := cells_get rc 1 (v := .int .i64 0) rfl
          have f0 := cells_free rc 0
          have f1 := cells_free rc 1
          have lrc := lt_of_heap rc
          clear hb3 hT rc q0
          go_wp2
          refine bodyPost_ret (v := .tuple #[.slice none 0 0, .agg #[.int .i64 ((k + 1 : Nat) : Int), .int .i64 (c : Nat)], .int .i64 (x : Nat)]) ?_ rfl ?_
          · simp [results, Tryd.results8, go_sem, World.cell?_setCell_same', r0, r1]
          · rw [HRR.out]
            exact ⟨rfl, (HT.out.setCell (p := ⟨w.heap.size, 0, none⟩) (by simp) _).setCell (p := ⟨w.heap.size, 1, none⟩) (by simp) _⟩
        | inr st =>
          have hsm := run_most _ _ _ _ HL.out (Nat.zero_le _)
          have HST := Lib.hid hsm
          clear hsm
          go_wp2_with fail
          refine HWO.out.mono ?_
          rintro e w3 ⟨A1, n1, cap1, rfl, hn1, hw3, hb3⟩
          have HT := Lib.hid (HB.out.trans (hb3.mono HB.out.size))
          have HO3 := Lib.hid (HO.out.below hb3)
          have HW3 := Lib.hid (hw3.base (base' := w2.heap.size) hbwz)
          have HN1 := Lib.hid hn1
          clear hn1 hw3 hb3 q0
          have hn10 : n1 = 0 := by have := HST.out; have := HN1.out; omega
          subst hn10
          have HNX := Lib.hid (show linesS (ps.drop (k + 1)) (k + 1 + 1) ls = R by
            have := R2.out
            unfold nextR at this
            simp only at this
            rwa [if_pos (by rw [← HN1.out])] at this)
          go_wp2
          go_roundw
          case rel => exact ⟨k + 1, A, m, cap, us, ls, by omega, by go_num, rfl, by omega, HM.out, HO3.out, HNX.out, HT.out⟩
          case measure => simp [intOf]; omega
      · have e2000 : ((m : Int) == 2000) = false := by simp; omega
        have hm40' : most = 40 := by rw [HMO.out, if_neg (by rw [← HM.out]; exact h2000)]
        subst hm40'
        cases L with
        | inl cx =>
          obtain ⟨c, x⟩ := cx
          have hx := run_err _ _ _ _ _ HL.out
          have hxn : ((x : Int) != 0) = true := by simp; omega
          have hR : R = .inl (k + 1, c, x) := R2.out.symm
          have HRR := Lib.hid hR
          clear hx hR
          go_wp2_with fail
          refine HWO.out.mono ?_
          rintro e w3 ⟨rfl, hb3⟩
          have hT := HB.out.trans (hb3.mono HB.out.size)
          have HT := Lib.hid (HB2.out.trans (hT.mono HB2.out.size))
          have rc := heap_below HRC.out hT
          have r0 := cells_get rc 0 (v := .int .i64 0) rfl
          have r1 := cells_get rc 1 (v := .int .i64 0) rfl
          have f0 := cells_free rc 0
          have f1 := cells_free rc 1
          have lrc := lt_of_heap rc
          clear hb3 hT rc q0
          go_wp2
          refine bodyPost_ret (v := .tuple #[.slice none 0 0, .agg #[.int .i64 ((k + 1 : Nat) : Int), .int .i64 (c : Nat)], .int .i64 (x : Nat)]) ?_ rfl ?_
          · simp [results, Tryd.results8, go_sem, World.cell?_setCell_same', r0, r1]
          · rw [HRR.out]
            exact ⟨rfl, (HT.out.setCell (p := ⟨w.heap.size, 0, none⟩) (by simp) _).setCell (p := ⟨w.heap.size, 1, none⟩) (by simp) _⟩
        | inr st =>
          have hsm := run_most _ _ _ _ HL.out (Nat.zero_le _)
          have HST := Lib.hid hsm
          clear hsm
          go_wp2_with fail
          refine HWO.out.mono ?_
          rintro e w3 ⟨A1, n1, cap1, rfl, hn1, hw3, hb3⟩
          have HT := Lib.hid (HB.out.trans (hb3.mono HB.out.size))
          have HO3 := Lib.hid (HO.out.below hb3)
          have HW3 := Lib.hid (hw3.base (base' := w2.heap.size) hbwz)
          have HN1 := Lib.hid hn1
          clear hn1 hw3 hb3 q0
          by_cases hn0 : n1 = 0
          · subst hn0
            have HNX := Lib.hid (show linesS (ps.drop (k + 1)) (k + 1 + 1) ls = R by
              have := R2.out
              unfold nextR at this
              simp only at this
              rwa [if_pos (by rw [← HN1.out])] at this)
            go_wp2
            go_roundw
            case rel => exact ⟨k + 1, A, m, cap, us, ls, by omega, by go_num, rfl, by omega, HM.out, HO3.out, HNX.out, HT.out⟩
            case measure => simp [intOf]; omega
          · have HNX := Lib.hid (show linesS (ps.drop (k + 1)) (k + 1 + 1) (ls ++ [(k + 1, wordsB (nthP ps k) st.cols)]) = R by
              have := R2.out
              unfold nextR at this
              simp only at this
              rwa [if_neg (by rw [← HN1.out]; exact hn0)] at this)
            have hpos : (0 : Int) < (n1 : Int) := by omega
            have HOA := Lib.hid (HO3.out.alloc (.cells #[.int .i64 ((k : Int) + 1), .slice A1 n1 cap1] 37))
            have HWA := Lib.hid (HW3.out.alloc (.cells #[.int .i64 ((k : Int) + 1), .slice A1 n1 cap1] 37))
            have HTA := Lib.hid (HT.out.alloc HT.out.size (.cells #[.int .i64 ((k : Int) + 1), .slice A1 n1 cap1] 37))
            have hlsz : ls.length ≤ 65536 := by rw [← HM.out]; omega
            have HLZ := Lib.hid hlsz
            clear hlsz hn0
            go_wp2_with (at_builtin; refine appL_list (W := w3.alloc (.cells #[.int .i64 ((k : Int) + 1), .slice A1 n1 cap1] 37)) (base := w2.heap.size) (us := us) (ls := ls) (A1 := A1) (L1 := n1) (c1 := cap1) (z := wordsB (nthP ps k) st.cols) (k + 1) ((k : Int) + 1) (.tmp 44) (.tmp 49) rfl rfl rfl HOA.out rfl (heap_alloc_new w3 _) (by omega) HWA.out HLZ.out HTA.out.size ?_; intro T7 m7 c7 w7 hown7 hm7 hgrow7; have HM7 := Lib.hid hm7; have HO7 := Lib.hid hown7; have HB7 := Lib.hid (HTA.out.grown hgrow7 HTA.out.size (fun g hg => (HOA.out.1.lt g hg).1)); clear hown7 hm7 hgrow7)
            go_roundw
            case rel => exact ⟨k + 1, T7, m7, c7, us ++ [.slice A1 n1 cap1], ls ++ [(k + 1, wordsB (nthP ps k) st.cols)], by omega, by go_num, rfl, by rw [HM7.out, ← HM.out]; omega, by rw [HM7.out]; simp, HO7.out, HNX.out, HB7.out⟩
            case measure => simp [intOf]; omega
    · obtain rfl : k = n := by omega
      have hr : R = .inr ls := by
        have := HRUN.out
        rw [List.drop_eq_nil_of_le (by rw [← HPN.out]; exact Nat.le_refl _)] at this
        exact this.symm
      have HR := Lib.hid hr
      have rc := heap_below HRC.out hbw
      have r0 := cells_get rc 0 (v := .int .i64 0) rfl
      have r1 := cells_get rc 1 (v := .int .i64 0) rfl
      have f0 := cells_free rc 0
      have f1 := cells_free rc 1
      have lrc := lt_of_heap rc
      have HT := Lib.hid (HB2.out.trans (hbw.mono HB2.out.size))
      have hset : OwnL ((wr.setCell ⟨w.heap.size, 0, none⟩ (.int .i64 0)).setCell ⟨w.heap.size, 1, none⟩ (.int .i64 0)) w.heap.size (.slice A m cap) us ls := by
        have hz2 := HB2.out.size
        have ht := ((Touch.refl wr (fun i => i = w.heap.size)).set w.heap.size 0 (.int .i64 0) rfl).set w.heap.size 1 (.int .i64 0) rfl
        have hO := HO.out
        refine ⟨own_touch (ownsRow_base hO.1 hz2) ht (fun g hg e => ?_), hO.2.1, fun j u z hu hz => ((hO.2.2 j u z hu hz).base hz2).touch ht (fun g hg e => ?_)⟩
        · have := (hO.1.lt g hg).1; omega
        · have := ((hO.2.2 j u z hu hz).lt g hg).1; omega
      have HSET := Lib.hid hset
      clear HRUN hr rc hbw hset
      go_wp2
      refine bodyPost_ret (v := .tuple #[.slice A m cap, .agg #[.int .i64 0, .int .i64 0], .int .i64 0]) ?_ rfl ?_
      · simp [results, Tryd.results8, go_sem, World.cell?_setCell_same', r0, r1]
      · rw [HR.out]
        exact ⟨A, m, cap, us, rfl, HM.out, HSET.out, (HT.out.setCell (p := ⟨w.heap.size, 0, none⟩) (by simp) _).setCell (p := ⟨w.heap.size, 1, none⟩) (by simp) _⟩

theorem lines_any (s : ByteArray) (w : World) : Calls Tryd.prog 8 #[.string s] w (LinesPost w (lexS s)) := by
  by_cases h : 65536 < s.size
  · exact lines_big s w h
  · exact lines_small s w (by omega)

end Go.Proofs.YtbgamneoghhfpaaDoor.Lx
