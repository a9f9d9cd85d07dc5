/- CnfJoins: the law's walk. -/
import Derived.Test.YtiomocmceccmbaaCnJoin2
namespace Go.Proofs.Ytiomocmceccmbaa.Cn
open Go.RowKit

theorem holds_append (a b : List (List Int)) (bs : List Bool) : holdsB (a ++ b) bs = (holdsB a bs && holdsB b bs) := by unfold holdsB; simp

/-- Each row of the second has what the first has, and more. -/
def Wider (a l : List (List Int)) (more : List Int) (k : Nat) : Prop := l.length = a.length ∧ ∀ j, j < a.length → nthL l j = if j < k then nthL a j ++ more else nthL a j

theorem wider_holds {a l : List (List Int)} {more : List Int} {bs : List Bool} (h : Wider a l more a.length) (hx : holdsB a bs = true) : holdsB l bs = true := by
  unfold holdsB at *
  rw [List.all_eq_true] at *
  intro z hz
  obtain ⟨j, hj, e⟩ := List.getElem_of_mem hz
  have hja : j < a.length := by rw [← h.1]; exact hj
  have e1 : nthL l j = z := by unfold nthL; simp [List.getD_eq_getElem?_getD, hj, e]
  have e2 := h.2 j hja
  rw [if_pos hja] at e2
  have h3 := hx (nthL a j) (List.mem_of_getElem? (nthL_get hja))
  rw [← e1, e2, List.any_append, h3]; rfl

theorem nthL_set {l : List (List Int)} {k j : Nat} {z : List Int} (h : k < l.length) : nthL (l.set k z) j = if j = k then z else nthL l j := by
  unfold nthL
  by_cases e : j = k
  · subst e; rw [if_pos rfl]; simp [List.getD_eq_getElem?_getD, h]
  · rw [if_neg e]; simp [List.getD_eq_getElem?_getD, List.getElem?_set_ne (Ne.symm e)]

theorem Wider.step {a l : List (List Int)} {more : List Int} {k : Nat} (h : Wider a l more k) (hk : k < a.length) : Wider a (l.set k (nthL l k ++ more)) more (k + 1) := by
  refine ⟨by simpa using h.1, fun j hj => ?_⟩
  rw [nthL_set (by rw [h.1]; exact hk)]
  by_cases e : j = k
  · subst e
    rw [if_pos rfl, if_pos (by omega), h.2 j hj, if_neg (by omega)]
  · rw [if_neg e, h.2 j hj]
    by_cases e2 : j < k
    · rw [if_pos e2, if_pos (by omega)]
    · rw [if_neg e2, if_neg (by omega)]

/-- One of the rows is replaced. -/
theorem OwnG.setRow {w : World} {base g n c k : Nat} {us : List Value} {ls : List (List Int)} {A1 : Option Addr} {L1 c1 : Nat} {z : List Int} (h : OwnG w base (.slice (some ⟨g, 0, none⟩) n c) us ls) (hk : k < us.length) (hr : Row w 0 (.slice A1 L1 c1) z) (hne : (Value.slice A1 L1 c1).ownBlock ≠ some g) :
    OwnG (w.setCell ⟨g, k, none⟩ (.slice A1 L1 c1)) base (.slice (some ⟨g, 0, none⟩) n c) (us.set k (.slice A1 L1 c1)) (ls.set k z) := by
  have ht : Touch w (w.setCell ⟨g, k, none⟩ (.slice A1 L1 c1)) (fun i => i = g) := (Touch.refl w (fun i => i = g)).set g k _ rfl
  refine ⟨?_, ?_⟩
  · obtain ⟨o1, o2⟩ := h.own
    rcases o2 with ⟨e, _⟩ | ⟨g', cap, cur, e, hb, hh, h1, h2, h3, h4⟩
    · cases e
    · injection e with e e2 e3
      injection e with e
      injection e with e
      subst e; subst e3
      refine ⟨by simp, .inr ⟨g, c, cur.setIfInBounds k (.slice A1 L1 c1), by rw [List.length_set]; exact congrArg (fun m => Value.slice (some ⟨g, 0, none⟩) m c) e2, hb, cells_set hh k _, by simpa using h1, h2, by simpa using h3, ?_⟩⟩
      rw [← h4]
      simp [List.take_set]
      rw [Nat.min_eq_left (by omega)]
  · refine ⟨by simp [h.rows.1], fun j u z' hu hz => ?_⟩
    by_cases e : j = k
    · subst e
      rw [List.getElem?_set_self hk] at hu
      rw [List.getElem?_set_self (by rw [h.rows.1]; exact hk)] at hz
      injection hu with hu; injection hz with hz
      subst hu; subst hz
      refine ⟨hr.touchs ht (fun _ b hb e => hne (by rw [hb, e])), fun _ b hb hG => hne (by rw [hb]; exact hG.symm ▸ rfl)⟩
    · rw [List.getElem?_set_ne (Ne.symm e)] at hu hz
      obtain ⟨q1, q2⟩ := h.rows.2 j u z' hu hz
      exact ⟨q1.touchs ht (fun hne b hb e => q2 hne b hb (by rw [e]; rfl)), q2⟩

theorem below_new {wr w1 : World} {o : Obj} {v : Value} (hv : ∀ b, v.ownBlock = some b → wr.heap.size ≤ b) (hg : (wr.alloc o).grownBy w1 v.ownBlock) : Below wr.heap.size wr w1 :=
  Touch.belows ((Below.refl _ _).alloc (Nat.le_refl _) o) (Touch.of_grown (S := fun i => wr.heap.size ≤ i) hg hv) (Nat.le_refl _) (fun _ hi => hi)
theorem below_grew {wr w1 w2 : World} {v : Value} (h : Below wr.heap.size wr w1) (hv : ∀ b, v.ownBlock = some b → wr.heap.size ≤ b) (hg : w1.grownBy w2 v.ownBlock) : Below wr.heap.size wr w2 :=
  Touch.belows h (Touch.of_grown (S := fun i => wr.heap.size ≤ i) hg hv) (Nat.le_refl _) (fun _ hi => hi)
theorem block_new (n : Nat) : ∀ b, (Value.slice (some ⟨n, 0, none⟩) 0 0).ownBlock = some b → n ≤ b := fun b hb => by injection hb with hb; exact Nat.le_of_eq hb
theorem block_hat {v v' : Value} {n m : Nat} (h : ∀ b, v.ownBlock = some b → n ≤ b) (hat : v'.ownBlock = v.ownBlock ∨ v'.ownBlock = some m) (hm : n ≤ m) : ∀ b, v'.ownBlock = some b → n ≤ b := fun b hb => by
  rcases hat with e | e
  · exact h b (e ▸ hb)
  · rw [e] at hb; injection hb with hb; omega
theorem own_free {w : World} {base n c g k : Nat} {e : TypeId} {u : Value} {xs : List Value} (h : w.ownsRow base e 1 (.slice (some ⟨g, 0, none⟩) n c) n xs) (hu : xs[k]? = some u) : w.frozen? ⟨g, k, none⟩ = false := by
  obtain ⟨g', c', e2, _, _, _, _, hc⟩ := own_cells h (by simp)
  injection e2 with e2 _ e3
  injection e2 with e2
  injection e2 with e2
  subst e2
  exact (hc k u hu).2

theorem own_cell {w : World} {base n c g k : Nat} {e : TypeId} {u : Value} {xs : List Value} (h : w.ownsRow base e 1 (.slice (some ⟨g, 0, none⟩) n c) n xs) (hu : xs[k]? = some u) : w.cell? ⟨g, k, none⟩ = some u := by
  obtain ⟨g', c', e2, _, _, _, _, hc⟩ := own_cells h (by simp)
  injection e2 with e2 _ e3
  injection e2 with e2
  injection e2 with e2
  subst e2
  exact (hc k u hu).1

set_option maxRecDepth 100000 in
set_option maxHeartbeats 1600000 in
theorem cnfJoins_any (A1 : Option Addr) (n1 c1 : Nat) (la : List (List Int)) (A2 : Option Addr) (n2 c2 : Nat) (lb : List (List Int)) (am : Option Addr) (lm cm : Nat) (zm : List Int) (M : Option Addr) (ml mc : Nat) (bs : List Bool) (w : World)
    (ha : GridIn w A1 n1 c1 la) (hb : GridIn w A2 n2 c2 lb) (hmore : IsRow .i64 w am lm cm zm) (hm : BRow w M ml mc bs) :
    Calls Try.prog 5 #[.slice A1 n1 c1, .slice A2 n2 c2, .slice am lm cm, .slice M ml mc] w fun e w' => e = .returned (.bool true) ∧ Below w.heap.size w w' := by
  have hrow := isRow_row hmore
  have hmle := hmore.le
  obtain ⟨zs, hzs⟩ : ∃ zs, zm.take lm = zs := ⟨_, rfl⟩
  rw [hzs] at hrow
  have hlz : zs.length = lm := by
    obtain ⟨A, c, e, _⟩ := hrow
    injection e with _ e; exact e.symm
  obtain ⟨l1, l2⟩ := hmle
  have hmm := hm
  obtain ⟨hx1, m1, m2, hx2⟩ := hmm
  clear hx1 hx2
  unfold maxLen at l2 m2
  have HA := Lib.hid (show Grid w (.slice A1 n1 c1) la from ha)
  have HB := Lib.hid (show Grid w (.slice A2 n2 c2) lb from hb)
  have HZ := Lib.hid hrow
  have HM := Lib.hid hm
  have HLZ := Lib.hid hlz
  clear ha hb hmore hrow hzs hlz hm
  go_enter Try.func5, Try.ntmps5
  go_wp2_with fail
  refine (great_any w _ la HA.out).mono ?_
  rintro e w' ⟨rfl, hga⟩
  rcases hga with rfl | ⟨rfl, ga1, ga2⟩
  · go_wp2_with fail
    refine (fixed_any _).mono ?_
    rintro e w1 ⟨rfl, hb⟩
    have HB1 := Lib.hid hb
    clear hb
    go_wp2
    go_ret
    exact ⟨rfl, HB1.out⟩
  have GA1 := Lib.hid ga1
  have GA2 := Lib.hid ga2
  clear ga1 ga2
  go_wp2_with fail
  refine (great_any w _ lb HB.out).mono ?_
  rintro e w' ⟨rfl, hgb⟩
  rcases hgb with rfl | ⟨rfl, gb1, gb2⟩
  · go_wp2_with fail
    refine (fixed_any _).mono ?_
    rintro e w1 ⟨rfl, hb⟩
    have HB1 := Lib.hid hb
    clear hb
    go_wp2
    go_ret
    exact ⟨rfl, HB1.out⟩
  have GB1 := Lib.hid gb1
  clear gb1 gb2
  by_cases hg3 : 100 < lm
  · go_wp2_with fail
    refine (fixed_any _).mono ?_
    rintro e w1 ⟨rfl, hb⟩
    have HB1 := Lib.hid hb
    clear hb
    go_wp2
    go_ret
    exact ⟨rfl, HB1.out⟩
  by_cases hg4 : 300 < ml
  · go_wp2_with fail
    refine (fixed_any _).mono ?_
    rintro e w1 ⟨rfl, hb⟩
    have HB1 := Lib.hid hb
    clear hb
    go_wp2
    go_ret
    exact ⟨rfl, HB1.out⟩
  go_wp2_with fail
  refine (holds_any w _ la HA.out M ml mc bs HM.out).mono ?_
  rintro e w1 ⟨rfl, hb1⟩
  obtain ⟨xB, hxB⟩ : ∃ xB, holdsB la bs = xB := ⟨_, rfl⟩
  rw [hxB]
  have HXB := Lib.hid hxB
  have HW1 := Lib.hid hb1
  clear hxB hb1
  go_wp2_with fail
  refine (holds_any w1 _ lb (HB.out.below HW1.out) M ml mc bs (HM.out.below HW1.out (Nat.le_refl _))).mono ?_
  rintro e w2 ⟨rfl, hb2⟩
  obtain ⟨yB, hyB⟩ : ∃ yB, holdsB lb bs = yB := ⟨_, rfl⟩
  rw [hyB]
  have HYB := Lib.hid hyB
  have HW2 := Lib.hid (HW1.out.trans (hb2.mono HW1.out.size))
  clear hyB hb2
  have HA2 := Lib.hid ((HA.out.below HW2.out).bound)
  have HB2 := Lib.hid ((HB.out.below HW2.out).bound)
  have HA2' := Lib.hid (HA2.out.below ((Below.refl w2.heap.size w2).alloc (Nat.le_refl _) (.cells #[] 22)))
  have HO0 := Lib.hid (ownG_empty (heap_alloc_new w2 (.cells #[] 22)) HW2.out.size)
  have HS1 := Lib.hid (show ([] : List (List Int)).length + la.length ≤ 200000 by have := GA1.out; simp; omega)
  have HS2 := Lib.hid (show ([] ++ la : List (List Int)).length + lb.length ≤ 200000 by have := GA1.out; have := GB1.out; simp; omega)
  have hs0 : w.heap.size ≤ (w2.alloc (.cells #[] 22)).heap.size := by have := HW2.out.size; simp; omega
  have hN0 : Hid (∀ b, (Value.slice (some ⟨w2.heap.size, 0, none⟩) 0 0).ownBlock = some b → w2.heap.size ≤ b) := Lib.hid (fun b hb => by injection hb with hb; exact Nat.le_of_eq hb)
  go_wp2_with (first | (at_builtin; refine wpList_append_grid (v := .slice (some ⟨w2.heap.size, 0, none⟩) 0 0) (x := .slice A1 n1 c1) rfl (.tmp 37) (.tmp 38) rfl rfl rfl rfl HO0.out HA2'.out HS1.out hs0 (block_new _) ?_; intro A3 L3 c3 us3 w3 hown3 hgrow3 hat3; have HW3 := Lib.hid (below_new (block_new _) hgrow3); have HN3 := Lib.hid (block_hat (block_new w2.heap.size) hat3 (by simp)); have HO3 := Lib.hid hown3; have hs3 := Nat.le_trans HW2.out.size HW3.out.size; have HB3 := Lib.hid (HB2.out.below HW3.out); clear hown3 hgrow3 hat3) | (at_builtin; refine wpList_append_grid (v := .slice A3 L3 c3) (x := .slice A2 n2 c2) rfl (.tmp 39) (.tmp 40) rfl rfl rfl rfl HO3.out HB3.out HS2.out hs3 HN3.out ?_; intro A4 L4 c4 us4 w4 hown4 hgrow4 hat4; have HW4 := Lib.hid (below_grew HW3.out HN3.out hgrow4); have HO4 := Lib.hid hown4; have HWW4 := Lib.hid (HW2.out.trans (HW4.out.mono HW2.out.size)); have HA4 := Lib.hid (HA2.out.below (HW4.out.alloc HW4.out.size (.cells #[] 22))); have HO4' := Lib.hid (ownG_empty (heap_alloc_new w4 (.cells #[] 22)) HWW4.out.size); have hs4 := HWW4.out.alloc HWW4.out.size (.cells #[] 22) |>.size; have hN4 : ∀ b, (Value.slice (some ⟨w4.heap.size, 0, none⟩) 0 0).ownBlock = some b → w2.heap.size ≤ b := fun b hb => Nat.le_trans HW4.out.size (block_new _ b hb); have HN4 := Lib.hid hN4; clear hown4 hgrow4 hat4 hN4) | (at_builtin; refine wpList_append_grid (v := .slice (some ⟨w4.heap.size, 0, none⟩) 0 0) (x := .slice A1 n1 c1) rfl (.tmp 42) (.tmp 43) rfl rfl rfl rfl HO4'.out HA4.out HS1.out hs4 HN4.out ?_; intro A5 L5 c5 us5 w5 hown5 hgrow5 hat5; have HW5 := Lib.hid (below_new (block_new _) hgrow5); have HN5 := Lib.hid (block_hat (block_new w4.heap.size) hat5 (by simp)); have HO5 := Lib.hid hown5; clear hown5 hgrow5 hat5))
  have hL5 : L5 = la.length ∧ L5 ≤ 3000 := by
    have h1 := HO5.out.rows.1
    have h2 := GA1.out
    rcases own_len HO5.out.own with ⟨e, h0⟩ | ⟨g, c, e⟩
    · injection e with _ e _; simp at h1; exact ⟨by omega, by omega⟩
    · injection e with _ e _; simp at h1; exact ⟨by omega, by omega⟩
  obtain ⟨hL5, hL5b⟩ := hL5
  have HL5 := Lib.hid hL5
  have HO5' : Hid (OwnG w5 w.heap.size (.slice A5 L5 c5) us5 la) := Lib.hid (by have := HO5.out; rwa [List.nil_append] at this)
  clear hL5 HS1 HS2 hs0 hs3 hs4
  go_loopw [47] (fun i wr => ∃ (k : Nat) (us : List Value) (ls : List (List Int)), i = .int .i64 (k : Int) ∧ k ≤ L5 ∧ OwnG wr w.heap.size (.slice A5 L5 c5) us ls ∧ Wider la ls zs k ∧ Below w4.heap.size w4 wr) (fun i _ => L5 - (intOf i).toNat)
  case atStart => exact ⟨0, us5, la, rfl, by omega, HO5'.out, ⟨rfl, fun j _ => by rw [if_neg (by omega)]⟩, HW5.out⟩
  case round =>
    obtain ⟨k, us, ls, rfl, hk, hog, hwd, hbw⟩ := hrel
    have HOG := Lib.hid hog
    have HWD := Lib.hid hwd
    have HBW := Lib.hid hbw
    clear hog hwd hbw
    by_cases hkl : k < L5
    · have hka : k < la.length := by have := HL5.out; omega
      have hkls : k < ls.length := by rw [HWD.out.1]; exact hka
      have hkus : k < us.length := by rw [← HOG.out.rows.1]; exact hkls
      have hul : us.length = L5 := by have h1 := HOG.out.rows.1; have h2 := HWD.out.1; have h3 := HL5.out; omega
      have hown : wr.ownsRow w.heap.size 22 1 (.slice A5 L5 c5) L5 us := by have := HOG.out.own; rwa [hul] at this
      obtain ⟨g, c, eA, hcell⟩ := own_at hown (List.getElem?_eq_getElem hkus)
      injection eA with eA _ ec
      subst eA
      have hr1 := (HOG.out.rows.2 k _ _ (List.getElem?_eq_getElem hkus) (nthL_get hkls)).1
      obtain ⟨A6, L6, c6, e6, hx6⟩ := hr1.open'
      clear hx6
      rw [e6] at hr1 hcell
      have hz : nthL ls k = nthL la k := by rw [HWD.out.2 k hka, if_neg (by omega)]
      have hz3 : (nthL ls k).length ≤ 3000 := by rw [hz]; exact GA2.out _ (List.mem_of_getElem? (nthL_get hka))
      have hgr : g < wr.heap.size := (hown.lt g rfl).2
      have hg4 : w4.heap.size ≤ g := HN5.out g rfl
      have HR1 := Lib.hid (hr1.below ((Below.refl wr.heap.size wr).alloc (Nat.le_refl _) (.cells #[] 3)))
      have HS1 : Hid (([] : List Int).length + (nthL ls k).length ≤ 200000) := Lib.hid (by simp; omega)
      have HS2 : Hid (([] ++ nthL ls k : List Int).length + zs.length ≤ 200000) := Lib.hid (by have := HLZ.out; simp; omega)
      have HE0 := Lib.hid (own_empty (heap_alloc_new wr (.cells #[] 3)) (Nat.le_refl wr.heap.size))
      have hs0 : wr.heap.size ≤ (wr.alloc (.cells #[] 3)).heap.size := by simp
      have HKUS := Lib.hid hkus
      have HUL := Lib.hid hul
      have HKA := Lib.hid hka
      clear hka hkls hkus hul hown ec hr1 e6 hz hz3
      go_wp2_with (first | (at_builtin; refine wpList_append_row (v := .slice (some ⟨wr.heap.size, 0, none⟩) 0 0) (x := .slice A6 L6 c6) rfl (.tmp 52) (.tmp 56) rfl rfl rfl rfl HE0.out HR1.out HS1.out hs0 ?_; intro A7 L7 c7 w7 hown7 hgrow7 hat7; have HW7 := Lib.hid (below_new (block_new _) hgrow7); have HN7 := Lib.hid (block_hat (block_new wr.heap.size) hat7 (by simp)); have HO7 := Lib.hid hown7; have HZ7 := Lib.hid (HZ.out.belows (HWW4.out.trans ((HBW.out.trans (HW7.out.mono HBW.out.size)).mono HWW4.out.size)) (Nat.le_refl _)); have hs7 := HW7.out.size; clear hown7 hgrow7 hat7 hcell) | (at_builtin; refine wpList_append_row (v := .slice A7 L7 c7) (x := .slice am lm cm) rfl (.tmp 57) (.tmp 58) rfl rfl rfl rfl HO7.out HZ7.out HS2.out hs7 ?_; intro A8 L8 c8 w8 hown8 hgrow8 hat8; have HW8 := Lib.hid (below_grew HW7.out HN7.out hgrow8); have HN8 := Lib.hid (block_hat HN7.out hat8 HW7.out.size); have HO8 := Lib.hid hown8; have HG8 := Lib.hid (HOG.out.below HW8.out); have hown8' : w8.ownsRow w.heap.size 22 1 (.slice (some ⟨g, 0, none⟩) L5 c5) L5 us := (by have := HG8.out.own; rwa [HUL.out] at this); have hget8 := List.getElem?_eq_getElem HKUS.out; have f8 := own_free hown8' hget8; have d8 := own_cell hown8' hget8; clear hown8 hgrow8 hat8 hown8' hget8))
      have hrow8 : Row w8 0 (.slice A8 L8 c8) (nthL ls k ++ zs) := by
        have := HO8.out
        rw [List.nil_append] at this
        refine (this.row fun y hy => ?_).base (Nat.zero_le _)
        rcases List.mem_append.1 hy with hy | hy
        · exact HR1.out.bounds y hy
        · exact HZ.out.bounds y hy
      have hne8 : (Value.slice A8 L8 c8).ownBlock ≠ some g := fun e => by have := HN8.out g e; omega
      have hb48 : Below w4.heap.size w4 (w8.setCell ⟨g, k, none⟩ (.slice A8 L8 c8)) := Touch.belows (HBW.out.trans (HW8.out.mono HBW.out.size)) ((Touch.refl w8 (fun i => i = g)).set g k _ rfl) (Nat.le_refl _) (fun i hi => by rw [hi]; exact hg4)
      exact ⟨⟨k + 1, us.set k (.slice A8 L8 c8), ls.set k (nthL ls k ++ zs), by first | rfl | go_num, by omega, HG8.out.setRow HKUS.out hrow8 hne8, HWD.out.step HKA.out, hb48⟩, by simp [intOf]; omega⟩
    · have hkL : k = la.length := by have := HL5.out; omega
      have hwx := HWD.out
      rw [hkL] at hwx
      have HWX := Lib.hid hwx
      clear hwx hkL
      go_wp2_with fail
      refine (fixed_any _).mono ?_
      rintro e w6 ⟨rfl, hb6⟩
      have HW6 := Lib.hid (HBW.out.trans (hb6.mono HBW.out.size))
      have HGW6 := Lib.hid (HOG.out.grid.below hb6)
      clear hb6
      have HALL : Hid (Grid w6 (.slice A4 L4 c4) (la ++ lb)) := Lib.hid (by have := HO4.out.grid; rw [List.nil_append] at this; exact this.below HW6.out)
      have HWW6 := Lib.hid (HWW4.out.trans (HW6.out.mono HWW4.out.size))
      go_wp2_with fail
      refine (holds_any w6 _ (la ++ lb) HALL.out M ml mc bs (HM.out.below HWW6.out (Nat.le_refl _))).mono ?_
      rintro e w7 ⟨rfl, hb7⟩
      rw [holds_append, HXB.out, HYB.out]
      have HWW7 := Lib.hid (HWW6.out.trans (hb7.mono HWW6.out.size))
      have HGW7 := Lib.hid (HGW6.out.below hb7)
      have HALL7 := Lib.hid (HALL.out.below hb7)
      clear hb7
      obtain ⟨p, hp⟩ : ∃ p, supL la = p := ⟨_, rfl⟩
      obtain ⟨q, hq⟩ : ∃ q, supL lb = q := ⟨_, rfl⟩
      obtain ⟨m, hm⟩ : ∃ m, supL (la ++ lb) = m := ⟨_, rfl⟩
      have hmpq : m = max p q := by rw [← hm, supL_append, hp, hq]
      have HP := Lib.hid hp
      have HQ := Lib.hid hq
      have HMM := Lib.hid hm
      clear hp hq hm
      cases xB with
      | true =>
        cases yB
        all_goals
          go_wp2_with fail
          refine (holds_any w7 _ ls HGW7.out M ml mc bs (HM.out.below HWW7.out (Nat.le_refl _))).mono ?_
          rintro e w8 ⟨rfl, hb8⟩
          rw [wider_holds HWX.out HXB.out]
          have HWW8 := Lib.hid (HWW7.out.trans (hb8.mono HWW7.out.size))
          have HALL8 := Lib.hid (HALL7.out.below hb8)
          clear hb8
          go_wp2_with fail
          refine (atoms_any w8 _ _ HALL8.out).mono ?_
          rintro e w9 ⟨rfl, rfl⟩
          rw [HMM.out]
          go_wp2_with fail
          refine (atoms_any w8 _ _ (HA.out.below HWW8.out)).mono ?_
          rintro e w9 ⟨rfl, rfl⟩
          rw [HP.out]
          go_wp2_with fail
          refine (atoms_any w8 _ _ (HB.out.below HWW8.out)).mono ?_
          rintro e w9 ⟨rfl, rfl⟩
          rw [HQ.out]
          by_cases hpq : p ≤ q
          · obtain rfl : m = q := by omega
            clear hmpq
            go_wp2
            all_goals
              go_ret
              exact ⟨ret_bool (by simp; try omega), HWW8.out⟩
          · obtain rfl : m = p := by omega
            clear hmpq
            go_wp2
            all_goals
              go_ret
              exact ⟨ret_bool (by simp; try omega), HWW8.out⟩
      | false =>
        cases yB
        all_goals
          go_wp2_with fail
          refine (atoms_any w7 _ _ HALL7.out).mono ?_
          rintro e w9 ⟨rfl, rfl⟩
          rw [HMM.out]
          go_wp2_with fail
          refine (atoms_any w7 _ _ (HA.out.below HWW7.out)).mono ?_
          rintro e w9 ⟨rfl, rfl⟩
          rw [HP.out]
          go_wp2_with fail
          refine (atoms_any w7 _ _ (HB.out.below HWW7.out)).mono ?_
          rintro e w9 ⟨rfl, rfl⟩
          rw [HQ.out]
          by_cases hpq : p ≤ q
          · obtain rfl : m = q := by omega
            clear hmpq
            go_wp2
            all_goals
              go_ret
              exact ⟨ret_bool (by simp; try omega), HWW7.out⟩
          · obtain rfl : m = p := by omega
            clear hmpq
            go_wp2
            all_goals
              go_ret
              exact ⟨ret_bool (by simp; try omega), HWW7.out⟩

end Go.Proofs.Ytiomocmceccmbaa.Cn
