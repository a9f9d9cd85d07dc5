/- The document's Read. -/
import Derived.Test.YtdijkekglaimfaaGreatDoorSpanMath3
import Derived.Test.YtdijkekglaimfaaGreatDoorSpan11
import Derived.Test.YtdijkekglaimfaaGreatDoorSpan6
import Derived.Deep.RegionHeld3
namespace Go.Proofs.YtdijkekglaimfaaGreatDoor.Ver
open Go.RowKit

theorem b_cell {W w1 : World} (hb : Below W.heap.size W w1) : ∀ b o, b < W.heap.size → w1.cell? ⟨b, o, none⟩ = W.cell? ⟨b, o, none⟩ := fun b o h => hb.cell (p := ⟨b, o, none⟩) h
theorem b_frozen {W w1 : World} (hb : Below W.heap.size W w1) : ∀ b o, b < W.heap.size → w1.frozen? ⟨b, o, none⟩ = W.frozen? ⟨b, o, none⟩ := fun b o h => hb.frozen (p := ⟨b, o, none⟩) h

set_option maxHeartbeats 800000 in
theorem refRead_one (t : ByteArray) (b : Bool) (hc : cut 58 t.data.toList = [t.data.toList]) (hb : may t.data.toList = b) (hl : t.size ≤ 50000) (w : World) :
    Calls Tryz.prog 14 #[.string t] w fun e w' => e = .returned (.tuple #[.agg #[.string (t), .string (t)], .bool b]) ∧ Below w.heap.size w w' := by
  have hcut := fun w => refCut_any t 58 58 rfl w (by omega)
  rw [hc] at hcut
  have Hcut := Lib.hid hcut
  have Hb := Lib.hid hb
  have hb0 := below_new w (.cells #[.string ⟨#[]⟩, .string ⟨#[]⟩] 31)
  have p0_0 := pair_new w ⟨#[]⟩ ⟨#[]⟩ 31
  clear hc hb hcut
  go_enter Tryz.func14, Tryz.ntmps14
  go_wp2_with fail
  refine (Hcut.out _).mono ?_
  rintro e w1 ⟨v, rfl, own, h1⟩
  obtain ⟨ao, cap, rfl, fx⟩ := strAt_own own
  clear own fx
  have hb1 := hb0.trans (h1.mono hb0.size)
  have p0_1 := p0_0.below h1
  have c0_1 := p0_1.1
  have d0_1 := p0_1.2.1
  have f0_1 := p0_1.2.2.1
  have g0_1 := p0_1.2.2.2
  have hb1 := hb1.alloc hb1.size (.cells #[.string (⟨#[]⟩), .string (⟨#[]⟩)] 31)
  have p0_1 := p0_1.below (below_new _ (.cells #[.string (⟨#[]⟩), .string (⟨#[]⟩)] 31))
  have p1_1 := pair_new w1 (⟨#[]⟩) (⟨#[]⟩) 31
  go_wp2_with fail
  refine (refMay_is t _ Hb.out _).mono ?_
  rintro e w2 ⟨rfl, h2⟩
  have hb2 := hb1.trans (h2.mono hb1.size)
  have p0_2 := p0_1.below h2
  have c0_2 := p0_2.1
  have d0_2 := p0_2.2.1
  have f0_2 := p0_2.2.2.1
  have g0_2 := p0_2.2.2.2
  have p1_2 := p1_1.below h2
  have c1_2 := p1_2.1
  have d1_2 := p1_2.2.1
  have f1_2 := p1_2.2.2.1
  have g1_2 := p1_2.2.2.2
  go_wp2
  refine bodyPost_ret (v := .tuple #[.agg #[.string (t), .string (t)], .bool b]) (by simp [results, Tryz.results14, go_sem, c0_2, d0_2, World.cell?_setCell_same']) rfl ⟨rfl, (hb2.setCell (p := ⟨w.heap.size, 0, none⟩) (Nat.le_refl _) _).setCell (p := ⟨w.heap.size, 1, none⟩) (Nat.le_refl _) _⟩

set_option maxHeartbeats 800000 in
theorem refRead_two (t lo hi : ByteArray) (b : Bool) (hc : cut 58 t.data.toList = [lo.data.toList, hi.data.toList]) (hb : (smay lo.data.toList hi.data.toList && decide (rtext lo hi = t)) = b) (hl : t.size ≤ 50000) (hlo : lo.size ≤ 50000) (hhi : hi.size ≤ 50000) (w : World) :
    Calls Tryz.prog 14 #[.string t] w fun e w' => e = .returned (.tuple #[.agg #[.string (lo), .string (hi)], .bool b]) ∧ Below w.heap.size w w' := by
  have hcut := fun w => refCut_any t 58 58 rfl w (by omega)
  rw [hc] at hcut
  have Hcut := Lib.hid hcut
  have Hb := Lib.hid hb
  have hb0 := below_new w (.cells #[.string ⟨#[]⟩, .string ⟨#[]⟩] 31)
  have p0_0 := pair_new w ⟨#[]⟩ ⟨#[]⟩ 31
  clear hc hb hcut
  go_enter Tryz.func14, Tryz.ntmps14
  go_wp2_with fail
  refine (Hcut.out _).mono ?_
  rintro e w1 ⟨v, rfl, own, h1⟩
  obtain ⟨ao, cap, rfl, fx⟩ := strAt_own own
  obtain ⟨g, off, rfl, _, fc⟩ := fx (by simp)
  have q0 : w1.cell? ⟨g, off, none⟩ = some (.string lo) := by have := fc 0 (by simp); rw [Nat.add_zero] at this; rw [this]; exact congrArg (fun t => some (Value.string t)) (mk_toList lo)
  have q1 : w1.cell? ⟨g, off + 1, none⟩ = some (.string hi) := by rw [fc 1 (by simp)]; exact congrArg (fun t => some (Value.string t)) (mk_toList hi)
  clear own fx fc
  have hb1 := hb0.trans (h1.mono hb0.size)
  have p0_1 := p0_0.below h1
  have c0_1 := p0_1.1
  have d0_1 := p0_1.2.1
  have f0_1 := p0_1.2.2.1
  have g0_1 := p0_1.2.2.2
  have lt0 := World.block_lt_of_cell? _ _ p0_1.1
  have le1 := hb1.size
  have hb1 := hb1.alloc hb1.size (.cells #[.string (⟨#[]⟩), .string (⟨#[]⟩)] 31)
  have p0_1 := p0_1.below (below_new _ (.cells #[.string (⟨#[]⟩), .string (⟨#[]⟩)] 31))
  have p1_1 := pair_new w1 (⟨#[]⟩) (⟨#[]⟩) 31
  have hq : Below w1.heap.size w1 (w1.alloc (.cells #[.string ⟨#[]⟩, .string ⟨#[]⟩] 31)) := below_new w1 _
  have r0 := (hq.cell (World.block_lt_of_cell? w1 _ q0)).trans q0
  have r1 := (hq.cell (World.block_lt_of_cell? w1 _ q1)).trans q1
  clear q0 q1 hq
  go_wp2_with fail
  go_region
  go_wp2_with fail
  have hdr : Below w.heap.size w ((w1.alloc (.cells #[.string ⟨#[]⟩, .string ⟨#[]⟩] 31)).alloc (.cells #[.string lo, .string hi] 31)).drew := (hb1.alloc hb1.size _).drew
  have ps : Pair ((w1.alloc (.cells #[.string ⟨#[]⟩, .string ⟨#[]⟩] 31)).alloc (.cells #[.string lo, .string hi] 31)).drew (w1.heap.size + 1) lo hi := by
    have := pair_new (w1.alloc (.cells #[.string ⟨#[]⟩, .string ⟨#[]⟩] 31)) lo hi 31
    have e : (w1.alloc (.cells #[.string ⟨#[]⟩, .string ⟨#[]⟩] 31)).heap.size = w1.heap.size + 1 := by simp
    rw [e] at this; exact this
  have pr : Pair ((w1.alloc (.cells #[.string ⟨#[]⟩, .string ⟨#[]⟩] 31)).alloc (.cells #[.string lo, .string hi] 31)).drew w.heap.size ⟨#[]⟩ ⟨#[]⟩ :=
    p0_1.below ((below_new (w1.alloc (.cells #[.string ⟨#[]⟩, .string ⟨#[]⟩] 31)) (.cells #[.string lo, .string hi] 31)).drew)
  have hlt : w.heap.size < w1.heap.size + 1 := Nat.lt_succ_of_le le1
  clear hb1 p0_1 p1_1 c0_1 d0_1 f0_1 g0_1 r0 r1 p0_0 hb0 h1 lt0 le1
  generalize ((w1.alloc (.cells #[.string ⟨#[]⟩, .string ⟨#[]⟩] 31)).alloc (.cells #[.string lo, .string hi] 31)).drew = w3 at hdr ps pr ⊢
  generalize w1.heap.size + 1 = s at ps hlt ⊢
  generalize w1.heap.size = s' at ⊢
  have ne : s ≠ w.heap.size := Nat.ne_of_gt hlt
  have psd : Pair w3.drew s lo hi := ps
  have prd : Pair w3.drew w.heap.size ⟨#[]⟩ ⟨#[]⟩ := pr
  have hdd : Below w.heap.size w w3.drew := hdr.drew
  have ps4 := (psd.other ne 0 (.string lo)).other ne 1 (.string hi)
  have pr4 := (prd.set0 lo).set1 hi
  have hd4 := (hdd.setCell (p := ⟨w.heap.size, 0, none⟩) (Nat.le_refl _) (.string lo)).setCell (p := ⟨w.heap.size, 1, none⟩) (Nat.le_refl _) (.string hi)
  have a1 := ps.1
  have a2 := ps.2.1
  have b1 := pr.1
  have b2 := pr.2.1
  have b3 := pr.2.2.1
  have b4 := pr.2.2.2
  have ne' : ¬ w.heap.size = s := fun e => ne e.symm
  have lS : s < w3.heap.size := World.block_lt_of_cell? _ _ a1
  have lR : w.heap.size < w3.heap.size := by omega
  clear ps pr ps4 pr4 hd4
  have HD := Lib.hid hdd
  have PS := Lib.hid psd
  have PR := Lib.hid prd
  clear psd prd hdd hdr
  cases hs : smay lo.data.toList hi.data.toList with
  | false =>
    have Hs := Lib.hid hs
    have hbf : b = false := by have := Hb.out; rw [hs, Bool.false_and] at this; exact this.symm
    subst hbf
    clear hs
    refine wp_region_held_drew (S := fun W => W.cell? ⟨s, 0, none⟩ = some (.string lo) ∧ W.cell? ⟨s, 1, none⟩ = some (.string hi)) (by kernel_rfl) ⟨PS.out.1, PS.out.2.1⟩ (fun hS0 => ?_)
    refine wpAnyH_take (i := 0) (v := .agg #[.string lo, .string hi]) rfl (by kernel_rfl) (by kernel_rfl) (by kernel_rfl) (fun _ _ _ h => h) (Or.inl ⟨by rfl, ?_⟩) hS0 ?_
    · (intro W hW; obtain ⟨q1, q2⟩ := hW; go_simp)
    refine wpAnyH_take (i := 1) (v := .agg #[.string lo, .string hi]) rfl (by kernel_rfl) (by kernel_rfl) (by kernel_rfl) (fun _ _ _ h => h) (Or.inl ⟨by rfl, ?_⟩) hS0 ?_
    · (intro W hW; obtain ⟨q1, q2⟩ := hW; go_simp)
    refine wpAnyH_ready (rs := [2]) (by kernel_rfl) (by simp) ?_
    refine AllReadyH.cons rfl (fun K hK => ?_) AllReadyH.nil
    go_simp
    refine (refSMay_is lo hi _ Hs.out _).mono ?_
    rintro e w5 ⟨rfl, h5⟩
    have QR := Lib.hid (PR.out.below h5)
    have QS := Lib.hid (PS.out.below h5)
    have HD5 := Lib.hid (HD.out.trans (h5.mono HD.out.size))
    clear h5
    refine hK.out _ _ ⟨QS.out.1, QS.out.2.1⟩ (fun hS5 => ?_)
    clear hK K
    refine wpAnyH_take (i := 3) (v := .bool false) rfl (by kernel_rfl) (by kernel_rfl) (by kernel_rfl) (fun _ _ _ h => h) (Or.inl ⟨by rfl, ?_⟩) hS5 ?_
    · (intro W _; go_simp)
    refine wpAnyH_take (i := 4) (v := undef) rfl (by kernel_rfl) (by kernel_rfl) (by kernel_rfl) (fun _ _ _ h => h) (Or.inr ⟨by rfl, rfl⟩) hS5 ?_
    refine wpAnyH_take (i := 5) (v := undef) rfl (by kernel_rfl) (by kernel_rfl) (by kernel_rfl) (fun _ _ _ h => h) (Or.inr ⟨by rfl, rfl⟩) hS5 ?_
    refine wpAnyH_take (i := 6) (v := undef) rfl (by kernel_rfl) (by kernel_rfl) (by kernel_rfl) (fun _ _ _ h => h) (Or.inr ⟨by rfl, rfl⟩) hS5 ?_
    refine wpAnyH_take (i := 7) (v := undef) rfl (by kernel_rfl) (by kernel_rfl) (by kernel_rfl) (fun _ _ _ h => h) (Or.inr ⟨by rfl, rfl⟩) hS5 ?_
    refine wpAnyH_take (i := 8) (v := .bool false) rfl (by kernel_rfl) (by kernel_rfl) (by kernel_rfl) (fun _ _ _ h => h) (Or.inl ⟨by rfl, ?_⟩) hS5 ?_
    · (intro W _; go_simp)
    have qb1 := QR.out.1
    have qb2 := QR.out.2.1
    have qb3 := QR.out.2.2.1
    have qb4 := QR.out.2.2.2
    have QS9 := Lib.hid ((QS.out.other ne 0 (.string lo)).other ne 1 (.string hi))
    refine wpAnyH_ready (rs := [9]) (by kernel_rfl) (by simp) ?_
    refine AllReadyH.cons rfl (fun K hK => ?_) AllReadyH.nil
    go_simp
    refine hK.out _ _ ⟨QS9.out.1, QS9.out.2.1⟩ (fun hS9 => ?_)
    clear hK K
    refine wpAnyH_take (i := 10) (v := .bool false) rfl (by kernel_rfl) (by kernel_rfl) (by kernel_rfl) (fun _ _ _ h => h) (Or.inl ⟨by rfl, ?_⟩) hS9 ?_
    · (intro W _; go_simp)
    refine wpAnyH_done (by kernel_rfl) ?_ _
    clear hS0 hS5 hS9
    go_wp2
    refine bodyPost_ret (v := .tuple #[.agg #[.string lo, .string hi], .bool false]) (by simp [results, Tryz.results14, go_sem, World.cell?_setCell_same', qb1, qb2]) rfl ⟨rfl, ?_⟩
    exact (HD5.out.setCell (p := ⟨w.heap.size, 0, none⟩) (Nat.le_refl _) _).setCell (p := ⟨w.heap.size, 1, none⟩) (Nat.le_refl _) _
  | true =>
    have Hs := Lib.hid hs
    obtain ⟨tx, htx⟩ : ∃ tx, rtext lo hi = tx := ⟨_, rfl⟩
    have Htx := Lib.hid htx
    have gt : (tx.toList == t.toList) = b := by
      have := Hb.out
      rw [hs, htx, Bool.true_and] at this
      rw [← this, Bool.eq_iff_iff, beq_iff_eq, decide_eq_true_iff]
      exact toList_eq
    clear hs htx
    refine wp_region_held_drew (S := fun W => W.cell? ⟨s, 0, none⟩ = some (.string lo) ∧ W.cell? ⟨s, 1, none⟩ = some (.string hi)) (by kernel_rfl) ⟨PS.out.1, PS.out.2.1⟩ (fun hS0 => ?_)
    refine wpAnyH_take (i := 0) (v := .agg #[.string lo, .string hi]) rfl (by kernel_rfl) (by kernel_rfl) (by kernel_rfl) (fun _ _ _ h => h) (Or.inl ⟨by rfl, ?_⟩) hS0 ?_
    · (intro W hW; obtain ⟨q1, q2⟩ := hW; go_simp)
    refine wpAnyH_take (i := 1) (v := .agg #[.string lo, .string hi]) rfl (by kernel_rfl) (by kernel_rfl) (by kernel_rfl) (fun _ _ _ h => h) (Or.inl ⟨by rfl, ?_⟩) hS0 ?_
    · (intro W hW; obtain ⟨q1, q2⟩ := hW; go_simp)
    refine wpAnyH_ready (rs := [2]) (by kernel_rfl) (by simp) ?_
    refine AllReadyH.cons rfl (fun K hK => ?_) AllReadyH.nil
    go_simp
    refine (refSMay_is lo hi _ Hs.out _).mono ?_
    rintro e w5 ⟨rfl, h5⟩
    have QR := Lib.hid (PR.out.below h5)
    have QS := Lib.hid (PS.out.below h5)
    have HD5 := Lib.hid (HD.out.trans (h5.mono HD.out.size))
    clear h5
    refine hK.out _ _ ⟨QS.out.1, QS.out.2.1⟩ (fun hS5 => ?_)
    clear hK K
    refine wpAnyH_take (i := 3) (v := .bool true) rfl (by kernel_rfl) (by kernel_rfl) (by kernel_rfl) (fun _ _ _ h => h) (Or.inl ⟨by rfl, ?_⟩) hS5 ?_
    · (intro W _; go_simp)
    refine wpAnyH_take (i := 4) (v := .agg #[.string lo, .string hi]) rfl (by kernel_rfl) (by kernel_rfl) (by kernel_rfl) (fun _ _ _ h => h) (Or.inl ⟨by rfl, ?_⟩) hS5 ?_
    · (intro W hW; obtain ⟨q1, q2⟩ := hW; go_simp)
    refine wpAnyH_take (i := 6) (v := .string t) rfl (by kernel_rfl) (by kernel_rfl) (by kernel_rfl) (fun _ _ _ h => h) (Or.inl ⟨by rfl, ?_⟩) hS5 ?_
    · (intro W _; go_simp)
    refine wpAnyH_ready (rs := [5]) (by kernel_rfl) (by simp) ?_
    refine AllReadyH.cons rfl (fun K hK => ?_) AllReadyH.nil
    go_simp
    refine (refText_is lo hi _ Htx.out (by omega) (by omega) _).mono ?_
    rintro e w6 ⟨rfl, h6⟩
    have RR := Lib.hid (QR.out.below h6)
    have RS := Lib.hid (QS.out.below h6)
    have HD6 := Lib.hid (HD5.out.trans (h6.mono HD5.out.size))
    clear h6
    refine hK.out _ _ ⟨RS.out.1, RS.out.2.1⟩ (fun hS6 => ?_)
    clear hK K
    refine wpAnyH_take (i := 7) (v := .bool b) rfl (by kernel_rfl) (by kernel_rfl) (by kernel_rfl) (fun _ _ _ h => h) (Or.inl ⟨by rfl, ?_⟩) hS6 ?_
    · (intro W _; go_simp)
    refine wpAnyH_take (i := 8) (v := .bool b) rfl (by kernel_rfl) (by kernel_rfl) (by kernel_rfl) (fun _ _ _ h => h) (Or.inl ⟨by rfl, ?_⟩) hS6 ?_
    · (intro W _; go_simp)
    have qb1 := RR.out.1
    have qb2 := RR.out.2.1
    have qb3 := RR.out.2.2.1
    have qb4 := RR.out.2.2.2
    have QS9 := Lib.hid ((RS.out.other ne 0 (.string lo)).other ne 1 (.string hi))
    refine wpAnyH_ready (rs := [9]) (by kernel_rfl) (by simp) ?_
    refine AllReadyH.cons rfl (fun K hK => ?_) AllReadyH.nil
    go_simp
    refine hK.out _ _ ⟨QS9.out.1, QS9.out.2.1⟩ (fun hS9 => ?_)
    clear hK K
    refine wpAnyH_take (i := 10) (v := .bool b) rfl (by kernel_rfl) (by kernel_rfl) (by kernel_rfl) (fun _ _ _ h => h) (Or.inl ⟨by rfl, ?_⟩) hS9 ?_
    · (intro W _; go_simp)
    refine wpAnyH_done (by kernel_rfl) ?_ _
    clear hS0 hS5 hS6 hS9
    go_wp2
    refine bodyPost_ret (v := .tuple #[.agg #[.string lo, .string hi], .bool b]) (by simp [results, Tryz.results14, go_sem, World.cell?_setCell_same', qb1, qb2]) rfl ⟨rfl, ?_⟩
    exact (HD6.out.setCell (p := ⟨w.heap.size, 0, none⟩) (Nat.le_refl _) _).setCell (p := ⟨w.heap.size, 1, none⟩) (Nat.le_refl _) _

end Go.Proofs.YtdijkekglaimfaaGreatDoor.Ver

