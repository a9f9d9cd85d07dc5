/- The walk of the document's Lines. -/
import Derived.Test.YtbgamneoghhfpaaDoorLxLines
namespace Go.Proofs.YtbgamneoghhfpaaDoor.Lx
open Go.RowKit

def RefPost (w : World) (R : Sum (Nat × Nat × Nat) (List Line)) (e : Ending) (w' : World) : Prop :=
  match R with
  | .inl (a, c, x) => e = .returned (.agg #[.slice none 0 0, .int .i64 (a : Nat), .int .i64 (c : Nat), .int .i64 (x : Nat)]) ∧ Below w.heap.size w w'
  | .inr ls => ∃ A n cap us, e = .returned (.agg #[.slice A n cap, .int .i64 0, .int .i64 0, .int .i64 0]) ∧ n = ls.length ∧ OwnL w' w.heap.size (.slice A n cap) us ls ∧ Below w.heap.size w w'

set_option maxRecDepth 100000 in
set_option maxHeartbeats 2000000 in
theorem refLines_big (s : ByteArray) (w : World) (hs : 65536 < s.size) :
    Calls Tryd.prog 9 #[.string s] w (RefPost w (lexS s)) := by
  have h' : (65536 : Int) < (s.size : Int) := by omega
  have HL := Lib.hid (show lexS s = .inl (0, 0, 4) by unfold lexS; rw [if_pos hs])
  clear hs
  go_enter Tryd.func9, Tryd.ntmps9
  go_wp2
  refine bodyPost_ret (v := .agg #[.slice none 0 0, .int .i64 0, .int .i64 0, .int .i64 4]) (by simp [results, Tryd.results9, go_sem]) rfl ?_
  rw [HL.out]
  refine ⟨rfl, ?_⟩
  go_grown

theorem cut_app (b : UInt8) (a r : Bs) (h : ∀ c ∈ a, (c == b) = false) : cut b (a ++ b :: r) = a :: cut b r := by
  induction a with
  | nil => rw [List.nil_append, cut, if_pos (by simp)]
  | cons c a ih =>
    rw [List.cons_append, cut, if_neg (by rw [h c (by simp)]; simp), ih (fun x hx => h x (by simp [hx]))]
theorem cut_none (b : UInt8) (a : Bs) (h : ∀ c ∈ a, (c == b) = false) : cut b a = [a] := by
  induction a with
  | nil => rw [cut]
  | cons c a ih =>
    rw [cut, if_neg (by rw [h c (by simp)]; simp), ih (fun x hx => h x (by simp [hx]))]

/-- No end of a line between. -/
def NoNL (l : Bs) (a b : Nat) : Prop := ∀ (j : Nat) (c : UInt8), a ≤ j → j < b → l[j]? = some c → (c == 10) = false
theorem nonl_mem {l : Bs} {a b : Nat} (h : NoNL l a b) : ∀ c ∈ (l.drop a).take (b - a), (c == 10) = false := by
  intro c hc
  obtain ⟨j, hj, e⟩ := List.mem_iff_getElem.1 hc
  have hj2 : j < b - a := by rw [List.length_take] at hj; omega
  refine h (a + j) c (by omega) (by omega) ?_
  have e2 : ((l.drop a).take (b - a))[j]? = some c := by rw [List.getElem?_eq_getElem hj, e]
  rw [List.getElem?_take, if_pos hj2, List.getElem?_drop] at e2
  exact e2
theorem cut_line {l : Bs} {a b : Nat} (h : NoNL l a b) (ha : a ≤ b) (hb : l[b]? = some 10) : cut 10 (l.drop a) = (l.drop a).take (b - a) :: cut 10 (l.drop (b + 1)) := by
  have hlt := (List.getElem?_eq_some_iff.1 hb).1
  have hd : l.drop a = (l.drop a).take (b - a) ++ 10 :: l.drop (b + 1) := by
    conv => lhs; rw [← List.take_append_drop (b - a) (l.drop a)]
    congr 1
    rw [List.drop_drop, show a + (b - a) = b by omega, List.drop_eq_getElem_cons hlt]
    have := (List.getElem?_eq_some_iff.1 hb).2
    rw [this]
  conv => lhs; rw [hd]
  exact cut_app 10 _ _ (nonl_mem h)
theorem cut_last {l : Bs} {a b : Nat} (h : NoNL l a b) (hb : l.length ≤ b) : cut 10 (l.drop a) = [(l.drop a).take (b - a)] := by
  have e : (l.drop a).take (b - a) = l.drop a := List.take_of_length_le (by rw [List.length_drop]; omega)
  have := nonl_mem h
  rw [e] at this ⊢
  exact cut_none 10 _ this
theorem extract_mk (s : ByteArray) (a b : Nat) : s.extract a b = mk ((s.data.toList.drop a).take (b - a)) := by
  rw [← mk_toList (s.extract a b)]
  congr 1
  rw [Lib.extract_data]

theorem room_most (m : Nat) (h : m ≤ 2000) : (if m = 2000 then 0 else 40) = if decide (m < 2000) = true then 40 else 0 := by
  by_cases h2 : m = 2000
  · rw [if_pos h2, if_neg (by simp; omega)]
  · rw [if_neg h2, if_pos (by simp; omega)]

structure RSt (w wr : World) (A : Option Addr) (m cap : Nat) (us : List Value) (ls : List Line) : Prop where
  res : wr.heap[w.heap.size]? = some (.cells #[.slice none 0 0, .int .i64 0, .int .i64 0, .int .i64 0] 30 (0, 0))
  out : wr.heap[w.heap.size + 1]? = some (.cells #[.slice A m cap, .int .i64 0, .int .i64 0, .int .i64 0] 30 (0, 0))
  own : OwnL wr (w.heap.size + 2) (.slice A m cap) us ls
  bel : Below w.heap.size w wr
  big : w.heap.size + 2 ≤ wr.heap.size
theorem RSt.below {w wr wr' : World} {A : Option Addr} {m cap : Nat} {us : List Value} {ls : List Line} (h : RSt w wr A m cap us ls) (hb : Below wr.heap.size wr wr') : RSt w wr' A m cap us ls :=
  ⟨heap_below h.res hb, heap_below h.out hb, h.own.below hb, h.bel.trans (hb.mono h.bel.size), Nat.le_trans h.big hb.size⟩
theorem RSt.app {w wr w7 : World} {A T : Option Addr} {m cap m7 c7 : Nat} {us us7 : List Value} {ls ls7 : List Line} (h : RSt w wr A m cap us ls) (hg : wr.grownBy w7 (Value.slice A m cap).ownBlock) (hown : OwnL w7 (w.heap.size + 2) (.slice T m7 c7) us7 ls7) :
    RSt w (w7.setCell ⟨w.heap.size + 1, 0, none⟩ (.slice T m7 c7)) T m7 c7 us7 ls7 := by
  have hap : ∀ B, B < w.heap.size + 2 → (Value.slice A m cap).ownBlock ≠ some B := fun B hB e => by have := (h.own.1.lt B e).1; omega
  have h1 := heap_grown h.res hg (Ne.symm (hap _ (by omega)))
  have h2 := heap_grown h.out hg (Ne.symm (hap _ (by omega)))
  have ht := (Touch.refl w7 (fun i => i = w.heap.size + 1)).set (w.heap.size + 1) 0 (.slice T m7 c7) rfl
  refine ⟨heap_set_far h1 (by omega), cells_set h2 0 _, ⟨own_touch hown.1 ht (fun g hg e => ?_), hown.2.1, fun j u z hu hz => (hown.2.2 j u z hu hz).touch ht (fun g hg e => ?_)⟩, ?_, ?_⟩
  · have := (hown.1.lt g hg).1; omega
  · have := ((hown.2.2 j u z hu hz).lt g hg).1; omega
  · exact (h.bel.grown hg h.bel.size (fun g hg => by have := (h.own.1.lt g hg).1; omega)).setCell (p := ⟨w.heap.size + 1, 0, none⟩) (by simp) _
  · have := h.big; have := hg.size; simp; omega

theorem linesS_cons (p : ByteArray) (r : List ByteArray) (n : Nat) (out : List Line) : linesS (p :: r) n out = nextR (p :: r) 0 n out (lineS (if out.length = 2000 then 0 else 40) p.data.toList) :=
  linesS_at (ps := p :: r) (k := 0) (by simp) n out
theorem lz0 (w : World) (o p : Obj) : ((w.alloc o).alloc p).heap[w.heap.size]? = some o := heap_below (heap_alloc_new w o) ((Below.refl _ _).alloc (Nat.le_refl _) p)
theorem lz1 (w : World) (o p : Obj) : ((w.alloc o).alloc p).heap[w.heap.size + 1]? = some p := by
  have h := heap_alloc_new (w.alloc o) p
  rwa [show (w.alloc o).heap.size = w.heap.size + 1 by simp] at h
theorem below2 (w : World) (o p : Obj) : Below w.heap.size w ((w.alloc o).alloc p) := ((Below.refl _ _).alloc (Nat.le_refl _) o).alloc (by simp) p

set_option maxRecDepth 100000 in
set_option maxHeartbeats 2000000 in
theorem refLines_small (s : ByteArray) (w : World) (hs : s.size ≤ 65536) :
    Calls Tryd.prog 9 #[.string s] w (RefPost w (lexS s)) := by
  have h' : ¬ (65536 : Int) < (s.size : Int) := by omega
  have hR : linesS (pieces (s.data.toList.drop 0)) 1 [] = lexS s := by unfold lexS; rw [if_neg (by omega)]; rfl
  generalize lexS s = R at hR ⊢
  have HR := Lib.hid hR
  have hlen : s.data.toList.length = s.size := by simp
  have HLEN := Lib.hid hlen
  clear hR hlen
  go_enter Tryd.func9, Tryd.ntmps9
  go_wp2
  go_loopw [4, 5, 6] (fun t f i wr => ∃ (k a n : Nat) (A : Option Addr) (m cap : Nat) (us : List Value) (ls : List Line), i = .int .i64 k ∧ f = .int .i64 a ∧ t = .int .i64 n ∧ n ≤ k + 1 ∧ m ≤ 2000 ∧ m = ls.length ∧ RSt w wr A m cap us ls ∧
      k ≤ s.size + 1 ∧ a ≤ k ∧ (k ≤ s.size → linesS (pieces (s.data.toList.drop a)) n ls = R ∧ NoNL s.data.toList a k) ∧ (s.size < k → R = .inr ls)) (fun _ _ i _ => s.size + 1 - (intOf i).toNat)
  case atStart =>
    refine ⟨0, 0, 1, none, 0, 0, [], [], rfl, rfl, rfl, by omega, by omega, rfl, ⟨?_, ?_, OwnL.nil _ _, ?_, ?_⟩, by omega, Nat.le_refl _, fun _ => ⟨HR.out, fun j c h1 h2 => by omega⟩, fun h => by omega⟩
    · exact lz0 w _ _
    · exact lz1 w _ _
    · exact below2 w _ _
    · simp
  case round =>
    clear HR
    obtain ⟨k, a, n, A, m, cap, us, ls, rfl, rfl, rfl, hnk, hm2, hm, hst, hk, hak, hgo, hend⟩ := hrel
    have HM := Lib.hid hm
    have HST := Lib.hid hst
    have HGO := Lib.hid hgo
    have HEND := Lib.hid hend
    clear hm hgo hend
    by_cases hks : k ≤ s.size
    · obtain ⟨hrun, hno⟩ := HGO.out hks
      have HRUN := Lib.hid hrun
      have HNO := Lib.hid hno
      clear HGO HEND hrun hno
      have a0 : (0 : Int) ≤ (a : Int) := by omega
      have a1 : (a : Int) ≤ (k : Int) := by omega
      have a2 : (k : Int) ≤ (s.size : Int) := by omega
      clear hst
      by_cases hlt : k < s.size
      · have HBY := Lib.hid (get_byte hlt)
        by_cases h10 : (s[k].toNat : Int) = 10
        · have e10 : ((s[k].toNat : Int) != 10) = false := by simpa using h10
          have hb10 : s.data.toList[k]? = some 10 := by
            rw [HBY.out]
            congr 1
            apply UInt8.toNat_inj.1
            simp; omega
          have HB10 := Lib.hid hb10
          clear h10 hb10
          have HPS := Lib.hid (show (s.extract a k).size ≤ 65536 by
            have : (s.extract a k).size ≤ s.size := by rw [ByteArray.size_extract]; omega
            omega)
          have HPS := Lib.hid (show (s.extract a k).size ≤ 65536 by
            have : (s.extract a k).size ≤ s.size := by rw [ByteArray.size_extract]; omega
            omega)
          have hcons : pieces (s.data.toList.drop a) = s.extract a k :: pieces (s.data.toList.drop (k + 1)) := by
            unfold pieces
            rw [cut_line HNO.out hak HB10.out, extract_mk]; rfl
          have hr0 := HRUN.out
          rw [hcons, linesS_cons] at hr0
          have HR0 := Lib.hid hr0
          clear hr0 hcons HRUN HNO
          by_cases h2000 : m < 2000
          · have e2 : decide ((m : Int) < 2000) = true := by simp; omega
            obtain ⟨L, hL⟩ : ∃ L, lineS 40 (s.extract a k).data.toList = L := ⟨_, rfl⟩
            have hr1 := HR0.out
            rw [if_neg (by rw [← HM.out]; omega), hL] at hr1
            have R2 := Lib.hid hr1
            have HL := Lib.hid hL
            clear hr1 hL HR0
            cases L with
            | inl cx =>
              obtain ⟨c, x⟩ := cx
              have hx := run_err _ _ _ _ _ HL.out
              have hxn : ((x : Int) != 0) = true := by simp; omega
              have hR : R = .inl (n, c, x) := R2.out.symm
              have HRR := Lib.hid hR
              clear hx hR
              have hWO := line_any (s.extract a k) true 40 rfl wr.drew HPS.out _ HL.out
              have HWO := Lib.hid hWO
              have o0 := cells_get HST.out.out 0 (v := .slice A m cap) rfl
              have lo := lt_of_heap HST.out.out
              clear hWO
              go_wp2_with fail
              go_region_held3 (fun w' => w'.cell? ⟨w.heap.size + 1, 0, none⟩ = some (.slice A m cap)) (go_keep) ((go_at_call 16; refine HWO.out.mono ?_; rintro e w3 ⟨⟨A1, n1, cap1, rfl⟩, hb3⟩; have hT := (Below.refl wr.heap.size wr).drew.trans hb3; have HST3 := Lib.hid (HST.out.below hT); have o3 := cells_get HST3.out.out 0 (v := .slice A m cap) rfl; clear hb3 hT))
              have hst3 := HST3.out
              have HT := Lib.hid hst3.bel
              have r0 := cells_get hst3.res 0 (v := .slice none 0 0) rfl
              have r1 := cells_get hst3.res 1 (v := .int .i64 0) rfl
              have r2 := cells_get hst3.res 2 (v := .int .i64 0) rfl
              have r3 := cells_get hst3.res 3 (v := .int .i64 0) rfl
              have f0 := cells_free hst3.res 0
              have f1 := cells_free hst3.res 1
              have f2 := cells_free hst3.res 2
              have f3 := cells_free hst3.res 3
              have lres := lt_of_heap hst3.res
              clear hst3 o0 lo o3
              go_wp2
              refine bodyPost_ret (v := .agg #[.slice none 0 0, .int .i64 (n : Nat), .int .i64 (c : Nat), .int .i64 (x : Nat)]) ?_ rfl ?_
              · simp [results, Tryd.results9, go_sem, World.cell?_setCell_same', r0, r1, r2, r3]
              · rw [HRR.out]
                exact ⟨rfl, (((HT.out.setCell (p := ⟨w.heap.size, 0, none⟩) (by simp) _).setCell (p := ⟨w.heap.size, 1, none⟩) (by simp) _).setCell (p := ⟨w.heap.size, 2, none⟩) (by simp) _).setCell (p := ⟨w.heap.size, 3, none⟩) (by simp) _⟩
            | inr st =>
              have hsm := run_most _ _ _ _ HL.out (Nat.zero_le _)
              have HSM := Lib.hid hsm
              clear hsm
              have hWO := line_any (s.extract a k) true 40 rfl wr.drew HPS.out _ HL.out
              have HWO := Lib.hid hWO
              have o0 := cells_get HST.out.out 0 (v := .slice A m cap) rfl
              have lo := lt_of_heap HST.out.out
              clear hWO
              go_wp2_with fail
              go_region_held3 (fun w' => w'.cell? ⟨w.heap.size + 1, 0, none⟩ = some (.slice A m cap)) (go_keep) ((go_at_call 16; refine HWO.out.mono ?_; rintro e w3 ⟨A1, n1, cap1, rfl, hn1, hw3, hb3⟩; have hT := (Below.refl wr.heap.size wr).drew.trans hb3; have HST3 := Lib.hid (HST.out.below hT); have HW3 := Lib.hid (hw3.base (base' := w.heap.size + 2) (by have := HST.out.big; simpa using this)); have HN1 := Lib.hid hn1; have o3 := cells_get HST3.out.out 0 (v := .slice A m cap) rfl; clear hn1 hw3 hb3 hT))
              clear o0 lo o3
              by_cases hn0 : n1 = 0
              · subst hn0
                have HNX := Lib.hid (show linesS (pieces (s.data.toList.drop (k + 1))) (n + 1) ls = R by
                  have := R2.out
                  unfold nextR at this
                  simp only at this
                  rwa [if_pos (by rw [← HN1.out])] at this)
                go_wp2
                go_roundw
                case rel => exact ⟨k + 1, k + 1, n + 1, A, m, cap, us, ls, by go_num, by go_num, by go_num, by omega, by omega, HM.out, HST3.out, by omega, Nat.le_refl _, (fun _ => ⟨HNX.out, fun j c h1 h2 => by omega⟩), (fun h => by omega)⟩
                case measure => simp [intOf]; omega
              · have HNX := Lib.hid (show linesS (pieces (s.data.toList.drop (k + 1))) (n + 1) (ls ++ [(n, wordsB (s.extract a k) st.cols)]) = R by
                  have := R2.out
                  unfold nextR at this
                  simp only at this
                  rwa [if_neg (by rw [← HN1.out]; exact hn0)] at this)
                have hpos : (0 : Int) < (n1 : Int) := by omega
                have HOA := Lib.hid (HST3.out.own.alloc (.cells #[.int .i64 (n : Nat), .slice A1 n1 cap1] 37))
                have HWA := Lib.hid (HW3.out.alloc (.cells #[.int .i64 (n : Nat), .slice A1 n1 cap1] 37))
                have hstA := HST3.out.below ((Below.refl _ _).alloc (Nat.le_refl _) (.cells #[.int .i64 (n : Nat), .slice A1 n1 cap1] 37))
                have HSTA := Lib.hid hstA
                have p0 := cells_get HST3.out.out 0 (v := .slice A m cap) rfl
                have lp := lt_of_heap HST3.out.out
                have hlsz : ls.length ≤ 65536 := by rw [← HM.out]; omega
                have HLZ := Lib.hid hlsz
                clear hlsz hn0 hstA
                go_wp2_with (at_builtin; refine appL_list (W := w3.alloc (.cells #[.int .i64 (n : Nat), .slice A1 n1 cap1] 37)) (base := w.heap.size + 2) (us := us) (ls := ls) (A1 := A1) (L1 := n1) (c1 := cap1) (z := wordsB (s.extract a k) st.cols) n (n : Nat) (.tmp 56) (.tmp 60) rfl rfl rfl HOA.out rfl (heap_alloc_new w3 _) rfl HWA.out HLZ.out HSTA.out.big ?_; intro T7 m7 c7 w7 hown7 hm7 hgrow7; have HM7 := Lib.hid hm7; have hst7 := HSTA.out.app hgrow7 hown7; have p7 := heap_grown HSTA.out.out hgrow7 (fun e => by have := (HOA.out.1.lt (w.heap.size + 1) e.symm).1; omega); have q7 := cells_get p7 0 (v := .slice A m cap) rfl; have f7 := cells_free p7 0; have l7 := lt_of_heap p7; have HST7 := Lib.hid hst7; clear hown7 hm7 hgrow7 hst7 p7 p0 lp)
                go_roundw
                case rel => exact ⟨k + 1, k + 1, n + 1, T7, m7, c7, us ++ [.slice A1 n1 cap1], (ls ++ [(n, wordsB (s.extract a k) st.cols)]), by go_num, by go_num, by go_num, by omega, by rw [HM7.out, ← HM.out]; omega, by rw [HM7.out]; simp, HST7.out, by omega, Nat.le_refl _, (fun _ => ⟨HNX.out, fun j c h1 h2 => by omega⟩), (fun h => by omega)⟩
                case measure => simp [intOf]; omega
          · have e2 : decide ((m : Int) < 2000) = false := by simp; omega
            obtain ⟨L, hL⟩ : ∃ L, lineS 0 (s.extract a k).data.toList = L := ⟨_, rfl⟩
            have hr1 := HR0.out
            rw [if_pos (by rw [← HM.out]; omega), hL] at hr1
            have R2 := Lib.hid hr1
            have HL := Lib.hid hL
            clear hr1 hL HR0
            cases L with
            | inl cx =>
              obtain ⟨c, x⟩ := cx
              have hx := run_err _ _ _ _ _ HL.out
              have hxn : ((x : Int) != 0) = true := by simp; omega
              have hR : R = .inl (n, c, x) := R2.out.symm
              have HRR := Lib.hid hR
              clear hx hR
              have hWO := line_any (s.extract a k) false 0 rfl wr.drew HPS.out _ HL.out
              have HWO := Lib.hid hWO
              have o0 := cells_get HST.out.out 0 (v := .slice A m cap) rfl
              have lo := lt_of_heap HST.out.out
              clear hWO
              go_wp2_with fail
              go_region_held3 (fun w' => w'.cell? ⟨w.heap.size + 1, 0, none⟩ = some (.slice A m cap)) (go_keep) ((go_at_call 16; refine HWO.out.mono ?_; rintro e w3 ⟨⟨A1, n1, cap1, rfl⟩, hb3⟩; have hT := (Below.refl wr.heap.size wr).drew.trans hb3; have HST3 := Lib.hid (HST.out.below hT); have o3 := cells_get HST3.out.out 0 (v := .slice A m cap) rfl; clear hb3 hT))
              have hst3 := HST3.out
              have HT := Lib.hid hst3.bel
              have r0 := cells_get hst3.res 0 (v := .slice none 0 0) rfl
              have r1 := cells_get hst3.res 1 (v := .int .i64 0) rfl
              have r2 := cells_get hst3.res 2 (v := .int .i64 0) rfl
              have r3 := cells_get hst3.res 3 (v := .int .i64 0) rfl
              have f0 := cells_free hst3.res 0
              have f1 := cells_free hst3.res 1
              have f2 := cells_free hst3.res 2
              have f3 := cells_free hst3.res 3
              have lres := lt_of_heap hst3.res
              clear hst3 o0 lo o3
              go_wp2
              refine bodyPost_ret (v := .agg #[.slice none 0 0, .int .i64 (n : Nat), .int .i64 (c : Nat), .int .i64 (x : Nat)]) ?_ rfl ?_
              · simp [results, Tryd.results9, go_sem, World.cell?_setCell_same', r0, r1, r2, r3]
              · rw [HRR.out]
                exact ⟨rfl, (((HT.out.setCell (p := ⟨w.heap.size, 0, none⟩) (by simp) _).setCell (p := ⟨w.heap.size, 1, none⟩) (by simp) _).setCell (p := ⟨w.heap.size, 2, none⟩) (by simp) _).setCell (p := ⟨w.heap.size, 3, none⟩) (by simp) _⟩
            | inr st =>
              have hsm := run_most _ _ _ _ HL.out (Nat.zero_le _)
              have HSM := Lib.hid hsm
              clear hsm
              have hWO := line_any (s.extract a k) false 0 rfl wr.drew HPS.out _ HL.out
              have HWO := Lib.hid hWO
              have o0 := cells_get HST.out.out 0 (v := .slice A m cap) rfl
              have lo := lt_of_heap HST.out.out
              clear hWO
              go_wp2_with fail
              go_region_held3 (fun w' => w'.cell? ⟨w.heap.size + 1, 0, none⟩ = some (.slice A m cap)) (go_keep) ((go_at_call 16; refine HWO.out.mono ?_; rintro e w3 ⟨A1, n1, cap1, rfl, hn1, hw3, hb3⟩; have hT := (Below.refl wr.heap.size wr).drew.trans hb3; have HST3 := Lib.hid (HST.out.below hT); have HW3 := Lib.hid (hw3.base (base' := w.heap.size + 2) (by have := HST.out.big; simpa using this)); have HN1 := Lib.hid hn1; have o3 := cells_get HST3.out.out 0 (v := .slice A m cap) rfl; clear hn1 hw3 hb3 hT))
              clear o0 lo o3
              have hn10 : n1 = 0 := by have := HSM.out; have := HN1.out; omega
              subst hn10
              have HNX := Lib.hid (show linesS (pieces (s.data.toList.drop (k + 1))) (n + 1) ls = R by
                have := R2.out
                unfold nextR at this
                simp only at this
                rwa [if_pos (by rw [← HN1.out])] at this)
              go_wp2
              go_roundw
              case rel => exact ⟨k + 1, k + 1, n + 1, A, m, cap, us, ls, by go_num, by go_num, by go_num, by omega, by omega, HM.out, HST3.out, by omega, Nat.le_refl _, (fun _ => ⟨HNX.out, fun j c h1 h2 => by omega⟩), (fun h => by omega)⟩
              case measure => simp [intOf]; omega
        · have e10 : ((s[k].toNat : Int) != 10) = true := by simpa using h10
          have hno2 : NoNL s.data.toList a (k + 1) := by
            intro j c h1 h2 hc
            by_cases hj : j = k
            · subst hj
              rw [HBY.out] at hc
              injection hc with hc
              subst hc
              simp
              intro e
              apply h10
              rw [e]; rfl
            · exact HNO.out j c h1 (by omega) hc
          have HNO2 := Lib.hid hno2
          clear h10 hno2
          go_wp2
          go_roundw
          case rel => exact ⟨k + 1, a, n, A, m, cap, us, ls, by go_num, rfl, rfl, by omega, hm2, HM.out, HST.out, by omega, by omega, (fun _ => ⟨HRUN.out, HNO2.out⟩), (fun h => by omega)⟩
          case measure => simp [intOf]; omega
      · have hks2 : s.size ≤ k := by omega
        have HPS := Lib.hid (show (s.extract a k).size ≤ 65536 by
          have : (s.extract a k).size ≤ s.size := by rw [ByteArray.size_extract]; omega
          omega)
        have HPS := Lib.hid (show (s.extract a k).size ≤ 65536 by
          have : (s.extract a k).size ≤ s.size := by rw [ByteArray.size_extract]; omega
          omega)
        have hcons : pieces (s.data.toList.drop a) = s.extract a k :: [] := by
          unfold pieces
          rw [cut_last HNO.out (by rw [HLEN.out]; omega), extract_mk]; rfl
        have hr0 := HRUN.out
        rw [hcons, linesS_cons] at hr0
        have HR0 := Lib.hid hr0
        clear hr0 hcons HRUN HNO
        by_cases h2000 : m < 2000
        · have e2 : decide ((m : Int) < 2000) = true := by simp; omega
          obtain ⟨L, hL⟩ : ∃ L, lineS 40 (s.extract a k).data.toList = L := ⟨_, rfl⟩
          have hr1 := HR0.out
          rw [if_neg (by rw [← HM.out]; omega), hL] at hr1
          have R2 := Lib.hid hr1
          have HL := Lib.hid hL
          clear hr1 hL HR0
          cases L with
          | inl cx =>
            obtain ⟨c, x⟩ := cx
            have hx := run_err _ _ _ _ _ HL.out
            have hxn : ((x : Int) != 0) = true := by simp; omega
            have hR : R = .inl (n, c, x) := R2.out.symm
            have HRR := Lib.hid hR
            clear hx hR
            have hWO := line_any (s.extract a k) true 40 rfl wr.drew HPS.out _ HL.out
            have HWO := Lib.hid hWO
            have o0 := cells_get HST.out.out 0 (v := .slice A m cap) rfl
            have lo := lt_of_heap HST.out.out
            clear hWO
            go_wp2_with fail
            go_region_held3 (fun w' => w'.cell? ⟨w.heap.size + 1, 0, none⟩ = some (.slice A m cap)) (go_keep) ((go_at_call 16; refine HWO.out.mono ?_; rintro e w3 ⟨⟨A1, n1, cap1, rfl⟩, hb3⟩; have hT := (Below.refl wr.heap.size wr).drew.trans hb3; have HST3 := Lib.hid (HST.out.below hT); have o3 := cells_get HST3.out.out 0 (v := .slice A m cap) rfl; clear hb3 hT))
            have hst3 := HST3.out
            have HT := Lib.hid hst3.bel
            have r0 := cells_get hst3.res 0 (v := .slice none 0 0) rfl
            have r1 := cells_get hst3.res 1 (v := .int .i64 0) rfl
            have r2 := cells_get hst3.res 2 (v := .int .i64 0) rfl
            have r3 := cells_get hst3.res 3 (v := .int .i64 0) rfl
            have f0 := cells_free hst3.res 0
            have f1 := cells_free hst3.res 1
            have f2 := cells_free hst3.res 2
            have f3 := cells_free hst3.res 3
            have lres := lt_of_heap hst3.res
            clear hst3 o0 lo o3
            go_wp2
            refine bodyPost_ret (v := .agg #[.slice none 0 0, .int .i64 (n : Nat), .int .i64 (c : Nat), .int .i64 (x : Nat)]) ?_ rfl ?_
            · simp [results, Tryd.results9, go_sem, World.cell?_setCell_same', r0, r1, r2, r3]
            · rw [HRR.out]
              exact ⟨rfl, (((HT.out.setCell (p := ⟨w.heap.size, 0, none⟩) (by simp) _).setCell (p := ⟨w.heap.size, 1, none⟩) (by simp) _).setCell (p := ⟨w.heap.size, 2, none⟩) (by simp) _).setCell (p := ⟨w.heap.size, 3, none⟩) (by simp) _⟩
          | inr st =>
            have hsm := run_most _ _ _ _ HL.out (Nat.zero_le _)
            have HSM := Lib.hid hsm
            clear hsm
            have hWO := line_any (s.extract a k) true 40 rfl wr.drew HPS.out _ HL.out
            have HWO := Lib.hid hWO
            have o0 := cells_get HST.out.out 0 (v := .slice A m cap) rfl
            have lo := lt_of_heap HST.out.out
            clear hWO
            go_wp2_with fail
            go_region_held3 (fun w' => w'.cell? ⟨w.heap.size + 1, 0, none⟩ = some (.slice A m cap)) (go_keep) ((go_at_call 16; refine HWO.out.mono ?_; rintro e w3 ⟨A1, n1, cap1, rfl, hn1, hw3, hb3⟩; have hT := (Below.refl wr.heap.size wr).drew.trans hb3; have HST3 := Lib.hid (HST.out.below hT); have HW3 := Lib.hid (hw3.base (base' := w.heap.size + 2) (by have := HST.out.big; simpa using this)); have HN1 := Lib.hid hn1; have o3 := cells_get HST3.out.out 0 (v := .slice A m cap) rfl; clear hn1 hw3 hb3 hT))
            clear o0 lo o3
            by_cases hn0 : n1 = 0
            · subst hn0
              have HNX := Lib.hid (show R = .inr ls by
                have := R2.out
                unfold nextR at this
                simp only at this
                rw [if_pos (by rw [← HN1.out])] at this
                exact this.symm)
              go_wp2
              go_roundw
              case rel => exact ⟨k + 1, k + 1, n + 1, A, m, cap, us, ls, by go_num, by go_num, by go_num, by omega, by omega, HM.out, HST3.out, by omega, Nat.le_refl _, (fun h => by omega), (fun _ => HNX.out)⟩
              case measure => simp [intOf]; omega
            · have HNX := Lib.hid (show R = .inr (ls ++ [(n, wordsB (s.extract a k) st.cols)]) by
                have := R2.out
                unfold nextR at this
                simp only at this
                rw [if_neg (by rw [← HN1.out]; exact hn0)] at this
                exact this.symm)
              have hpos : (0 : Int) < (n1 : Int) := by omega
              have HOA := Lib.hid (HST3.out.own.alloc (.cells #[.int .i64 (n : Nat), .slice A1 n1 cap1] 37))
              have HWA := Lib.hid (HW3.out.alloc (.cells #[.int .i64 (n : Nat), .slice A1 n1 cap1] 37))
              have hstA := HST3.out.below ((Below.refl _ _).alloc (Nat.le_refl _) (.cells #[.int .i64 (n : Nat), .slice A1 n1 cap1] 37))
              have HSTA := Lib.hid hstA
              have p0 := cells_get HST3.out.out 0 (v := .slice A m cap) rfl
              have lp := lt_of_heap HST3.out.out
              have hlsz : ls.length ≤ 65536 := by rw [← HM.out]; omega
              have HLZ := Lib.hid hlsz
              clear hlsz hn0 hstA
              go_wp2_with (at_builtin; refine appL_list (W := w3.alloc (.cells #[.int .i64 (n : Nat), .slice A1 n1 cap1] 37)) (base := w.heap.size + 2) (us := us) (ls := ls) (A1 := A1) (L1 := n1) (c1 := cap1) (z := wordsB (s.extract a k) st.cols) n (n : Nat) (.tmp 56) (.tmp 60) rfl rfl rfl HOA.out rfl (heap_alloc_new w3 _) rfl HWA.out HLZ.out HSTA.out.big ?_; intro T7 m7 c7 w7 hown7 hm7 hgrow7; have HM7 := Lib.hid hm7; have hst7 := HSTA.out.app hgrow7 hown7; have p7 := heap_grown HSTA.out.out hgrow7 (fun e => by have := (HOA.out.1.lt (w.heap.size + 1) e.symm).1; omega); have q7 := cells_get p7 0 (v := .slice A m cap) rfl; have f7 := cells_free p7 0; have l7 := lt_of_heap p7; have HST7 := Lib.hid hst7; clear hown7 hm7 hgrow7 hst7 p7 p0 lp)
              go_roundw
              case rel => exact ⟨k + 1, k + 1, n + 1, T7, m7, c7, us ++ [.slice A1 n1 cap1], (ls ++ [(n, wordsB (s.extract a k) st.cols)]), by go_num, by go_num, by go_num, by omega, by rw [HM7.out, ← HM.out]; omega, by rw [HM7.out]; simp, HST7.out, by omega, Nat.le_refl _, (fun h => by omega), (fun _ => HNX.out)⟩
              case measure => simp [intOf]; omega
        · have e2 : decide ((m : Int) < 2000) = false := by simp; omega
          obtain ⟨L, hL⟩ : ∃ L, lineS 0 (s.extract a k).data.toList = L := ⟨_, rfl⟩
          have hr1 := HR0.out
          rw [if_pos (by rw [← HM.out]; omega), hL] at hr1
          have R2 := Lib.hid hr1
          have HL := Lib.hid hL
          clear hr1 hL HR0
          cases L with
          | inl cx =>
            obtain ⟨c, x⟩ := cx
            have hx := run_err _ _ _ _ _ HL.out
            have hxn : ((x : Int) != 0) = true := by simp; omega
            have hR : R = .inl (n, c, x) := R2.out.symm
            have HRR := Lib.hid hR
            clear hx hR
            have hWO := line_any (s.extract a k) false 0 rfl wr.drew HPS.out _ HL.out
            have HWO := Lib.hid hWO
            have o0 := cells_get HST.out.out 0 (v := .slice A m cap) rfl
            have lo := lt_of_heap HST.out.out
            clear hWO
            go_wp2_with fail
            go_region_held3 (fun w' => w'.cell? ⟨w.heap.size + 1, 0, none⟩ = some (.slice A m cap)) (go_keep) ((go_at_call 16; refine HWO.out.mono ?_; rintro e w3 ⟨⟨A1, n1, cap1, rfl⟩, hb3⟩; have hT := (Below.refl wr.heap.size wr).drew.trans hb3; have HST3 := Lib.hid (HST.out.below hT); have o3 := cells_get HST3.out.out 0 (v := .slice A m cap) rfl; clear hb3 hT))
            have hst3 := HST3.out
            have HT := Lib.hid hst3.bel
            have r0 := cells_get hst3.res 0 (v := .slice none 0 0) rfl
            have r1 := cells_get hst3.res 1 (v := .int .i64 0) rfl
            have r2 := cells_get hst3.res 2 (v := .int .i64 0) rfl
            have r3 := cells_get hst3.res 3 (v := .int .i64 0) rfl
            have f0 := cells_free hst3.res 0
            have f1 := cells_free hst3.res 1
            have f2 := cells_free hst3.res 2
            have f3 := cells_free hst3.res 3
            have lres := lt_of_heap hst3.res
            clear hst3 o0 lo o3
            go_wp2
            refine bodyPost_ret (v := .agg #[.slice none 0 0, .int .i64 (n : Nat), .int .i64 (c : Nat), .int .i64 (x : Nat)]) ?_ rfl ?_
            · simp [results, Tryd.results9, go_sem, World.cell?_setCell_same', r0, r1, r2, r3]
            · rw [HRR.out]
              exact ⟨rfl, (((HT.out.setCell (p := ⟨w.heap.size, 0, none⟩) (by simp) _).setCell (p := ⟨w.heap.size, 1, none⟩) (by simp) _).setCell (p := ⟨w.heap.size, 2, none⟩) (by simp) _).setCell (p := ⟨w.heap.size, 3, none⟩) (by simp) _⟩
          | inr st =>
            have hsm := run_most _ _ _ _ HL.out (Nat.zero_le _)
            have HSM := Lib.hid hsm
            clear hsm
            have hWO := line_any (s.extract a k) false 0 rfl wr.drew HPS.out _ HL.out
            have HWO := Lib.hid hWO
            have o0 := cells_get HST.out.out 0 (v := .slice A m cap) rfl
            have lo := lt_of_heap HST.out.out
            clear hWO
            go_wp2_with fail
            go_region_held3 (fun w' => w'.cell? ⟨w.heap.size + 1, 0, none⟩ = some (.slice A m cap)) (go_keep) ((go_at_call 16; refine HWO.out.mono ?_; rintro e w3 ⟨A1, n1, cap1, rfl, hn1, hw3, hb3⟩; have hT := (Below.refl wr.heap.size wr).drew.trans hb3; have HST3 := Lib.hid (HST.out.below hT); have HW3 := Lib.hid (hw3.base (base' := w.heap.size + 2) (by have := HST.out.big; simpa using this)); have HN1 := Lib.hid hn1; have o3 := cells_get HST3.out.out 0 (v := .slice A m cap) rfl; clear hn1 hw3 hb3 hT))
            clear o0 lo o3
            have hn10 : n1 = 0 := by have := HSM.out; have := HN1.out; omega
            subst hn10
            have HNX := Lib.hid (show R = .inr ls by
              have := R2.out
              unfold nextR at this
              simp only at this
              rw [if_pos (by rw [← HN1.out])] at this
              exact this.symm)
            go_wp2
            go_roundw
            case rel => exact ⟨k + 1, k + 1, n + 1, A, m, cap, us, ls, by go_num, by go_num, by go_num, by omega, by omega, HM.out, HST3.out, by omega, Nat.le_refl _, (fun h => by omega), (fun _ => HNX.out)⟩
            case measure => simp [intOf]; omega
    · have HR := Lib.hid (HEND.out (by omega))
      have r0 := cells_get hst.res 0 (v := .slice none 0 0) rfl
      have r1 := cells_get hst.res 1 (v := .int .i64 0) rfl
      have r2 := cells_get hst.res 2 (v := .int .i64 0) rfl
      have r3 := cells_get hst.res 3 (v := .int .i64 0) rfl
      have o0 := cells_get hst.out 0 (v := .slice A m cap) rfl
      have o1 := cells_get hst.out 1 (v := .int .i64 0) rfl
      have o2 := cells_get hst.out 2 (v := .int .i64 0) rfl
      have o3 := cells_get hst.out 3 (v := .int .i64 0) rfl
      have f0 := cells_free hst.res 0
      have f1 := cells_free hst.res 1
      have f2 := cells_free hst.res 2
      have f3 := cells_free hst.res 3
      have lres := lt_of_heap hst.res
      have HT := Lib.hid hst.bel
      have hz := hst.big
      have hown : ∀ x0 x1 x2 x3, OwnL ((((wr.setCell ⟨w.heap.size, 0, none⟩ x0).setCell ⟨w.heap.size, 1, none⟩ x1).setCell ⟨w.heap.size, 2, none⟩ x2).setCell ⟨w.heap.size, 3, none⟩ x3) w.heap.size (.slice A m cap) us ls := by
        intro x0 x1 x2 x3
        have ht := ((((Touch.refl wr (fun i => i = w.heap.size)).set w.heap.size 0 x0 rfl).set w.heap.size 1 x1 rfl).set w.heap.size 2 x2 rfl).set w.heap.size 3 x3 rfl
        have hO := hst.own
        refine ⟨own_touch (ownsRow_base hO.1 (by omega)) ht (fun g hg e => ?_), hO.2.1, fun j u z hu hz => ((hO.2.2 j u z hu hz).base (by omega)).touch ht (fun g hg e => ?_)⟩
        · have := (hO.1.lt g hg).1; omega
        · have := ((hO.2.2 j u z hu hz).lt g hg).1; omega
      have HOWN := Lib.hid hown
      clear hst HGO HEND hown
      go_wp2
      refine bodyPost_ret (v := .agg #[.slice A m cap, .int .i64 0, .int .i64 0, .int .i64 0]) ?_ rfl ?_
      · simp [results, Tryd.results9, go_sem, World.cell?_setCell_same', r0, r1, r2, r3]
      · rw [HR.out]
        exact ⟨A, m, cap, us, rfl, HM.out, HOWN.out _ _ _ _, (((HT.out.setCell (p := ⟨w.heap.size, 0, none⟩) (by simp) _).setCell (p := ⟨w.heap.size, 1, none⟩) (by simp) _).setCell (p := ⟨w.heap.size, 2, none⟩) (by simp) _).setCell (p := ⟨w.heap.size, 3, none⟩) (by simp) _⟩

theorem refLines_any (s : ByteArray) (w : World) : Calls Tryd.prog 9 #[.string s] w (RefPost w (lexS s)) := by
  by_cases h : 65536 < s.size
  · exact refLines_big s w h
  · exact refLines_small s w (by omega)

end Go.Proofs.YtbgamneoghhfpaaDoor.Lx
