/- The walk of All. -/
import Derived.Test.YtbdceeecngibmaaVaAllMath
namespace Go.Proofs.Ytbdceeecngibmaa.Va
open Go.RowKit

theorem setOne {w : World} {X : Nat} {x : Set1} (h : w.heap[X]? = some (.cells #[.string x.1, .string x.2] 37 (0, 0))) (base : Nat) (hb : base ≤ X) : OwnT w base (.slice (some ⟨X, 0, none⟩) 1 1) [x] :=
  ⟨rfl, .inr ⟨X, 1, #[.string x.1, .string x.2], rfl, hb, h, Nat.le_refl _, by simp [maxLen], rfl, rfl⟩⟩
theorem gridTwo {w : World} {X : Nat} {u v : Value} {a b : List Set1} (h : w.heap[X]? = some (.cells #[u, v] 25 (0, 0))) (ha : Sets w u a) (hb : Sets w v b) : Grid w (.slice (some ⟨X, 0, none⟩) 2 2) [a, b] := by
  refine ⟨_, 2, rfl, by simp, by simp [maxLen], fun _ => ⟨X, 0, rfl, lt_of_heap h, fun j hj => ?_⟩⟩
  rw [Nat.zero_add]
  match j, hj with
  | 0, _ => exact ⟨u, cells_get h 0 rfl, ha⟩
  | 1, _ => exact ⟨v, cells_get h 1 rfl, hb⟩
theorem heap_three (w : World) (o p : Obj) : ((w.alloc o).alloc p).heap[w.heap.size]? = some o := by
  have h := heap_alloc_new w o
  exact heap_below h ((Below.refl _ _).alloc (Nat.le_refl _) p)
theorem heap_threeb (w : World) (o p : Obj) : ((w.alloc o).alloc p).heap[w.heap.size + 1]? = some p := by
  have h := heap_alloc_new (w.alloc o) p
  rwa [show (w.alloc o).heap.size = w.heap.size + 1 by simp] at h
theorem below_two (w : World) (o p : Obj) : Below w.heap.size w ((w.alloc o).alloc p) := ((Below.refl _ _).alloc (Nat.le_refl _) o).alloc (by simp) p

theorem rowsOne {w : World} {X : Nat} (h : w.heap[X]? = some (.cells #[.slice none 0 0] 25 (0, 0))) (base : Nat) (hb : base ≤ X) : OwnR w base (.slice (some ⟨X, 0, none⟩) 1 1) [.slice none 0 0] [[]] := by
  refine ⟨⟨rfl, .inr ⟨X, 1, #[.slice none 0 0], rfl, hb, h, Nat.le_refl _, by simp [maxLen], rfl, rfl⟩⟩, rfl, fun j u z hu hz => ?_⟩
  match j, hu, hz with
  | 0, hu, hz => simp at hu hz; subst hu; subst hz; exact own_nilT _ _

/-- Where the two inner loops stand: the world is below B1 as it was; what was collected. -/
structure Mid (B1 : Nat) (w1 wr : World) (t : Value) (ls : List (List Set1)) : Prop where
  own : ∃ T n c us, t = .slice T n c ∧ n = ls.length ∧ OwnR wr B1 (.slice T n c) us ls
  bel : Below B1 w1 wr

theorem concat_two (w : World) (X : Nat) (a b : List Set1) (u v : Value) (h : w.heap[X]? = some (.cells #[u, v] 25 (0, 0))) (ha : Sets w u a) (hb : Sets w v b) (hl : (a ++ b).length ≤ 100000) :
    Calls Try.prog 41 #[.slice (some ⟨X, 0, none⟩) 2 2] w fun e w' => ∃ A L c, e = .returned (.slice A L c) ∧ OwnT w' w.heap.size (.slice A L c) (a ++ b) ∧ Below w.heap.size w w' := by
  have := concatT_any w _ _ (gridTwo h ha hb) (by simpa using hl)
  simpa using this

set_option maxRecDepth 100000 in
set_option maxHeartbeats 3200000 in
theorem all_any (w : World) (v : Value) (l : List Var) (h : Vars w v l) :
    Calls Try.prog 22 #[v] w fun e w' => ∃ A n c us, e = .returned (.slice A n c) ∧ n = (allB l).length ∧ OwnR w' w.heap.size (.slice A n c) us (allB l) ∧ Below w.heap.size w w' := by
  have hall := h
  cases hm : mayB l with
  | false =>
    have Hv := Lib.hid (show allB l = [] by unfold allB; rw [hm]; rfl)
    have HM := Lib.hid hm
    obtain ⟨A, L, c, rfl, hL, h1, h2, h3⟩ := h.open'
    have H := Lib.hid hall
    clear h hm h3 hL h2 hall
    go_enter Try.func22, Try.ntmps22
    go_wp2_with (go_at_call 15; refine (may_is _ _ l H.out false HM.out).mono ?_; rintro e w1 ⟨rfl, hb⟩)
    go_ret
    exact ⟨none, 0, 0, [], rfl, by rw [Hv.out]; rfl, by rw [Hv.out]; exact ⟨⟨rfl, .inl ⟨rfl, rfl⟩⟩, rfl, fun j u z hu hz => by simp at hu⟩, hb⟩
  | true =>
    have Hv := Lib.hid (show allB l = foldR l by unfold allB; rw [hm]; rfl)
    have HM := Lib.hid hm
    have HF := Lib.hid (foldR_rows hm)
    have HVV := Lib.hid (fun k hk => mayB_vals hm (k := k) hk)
    have HS := Lib.hid (small_fold hall.small)
    have HSV := Lib.hid hall.small
    have hl4 := mayB_len hm
    obtain ⟨A, L, c, rfl, hL, h1, h2, h3⟩ := h.open'
    have H := Lib.hid hall
    have HL := Lib.hid hL
    have H3 := Lib.hid h3
    have hL4 : L ≤ 4 := by omega
    unfold maxLen at h2
    clear h hm h3 hall hL hl4
    go_enter Try.func22, Try.ntmps22
    go_wp2_with (go_at_call 15; refine (may_is _ _ l H.out true HM.out).mono ?_; rintro e w1 ⟨rfl, hb⟩; have HB := Lib.hid hb; clear hb)
    go_loopw [3, 17] (fun t i wr => ∃ (k : Nat) (T : Option Addr) (n cp : Nat) (us : List Value), k ≤ L ∧ i = .int .i64 k ∧ t = .slice T n cp ∧ n = (foldR (l.take k)).length ∧ OwnR wr w.heap.size (.slice T n cp) us (foldR (l.take k)) ∧ Below w.heap.size w wr) (fun _ i _ => L - (intOf i).toNat)
    case atStart =>
      have hw1 := HB.out.size
      refine ⟨0, some ⟨w1.heap.size, 0, none⟩, 1, 1, [.slice none 0 0], Nat.zero_le _, rfl, rfl, by simp [foldR], ?_, HB.out.alloc HB.out.size _⟩
      have := rowsOne (heap_alloc_new w1 (.cells #[.slice none 0 0] 25)) w.heap.size hw1
      simpa [foldR] using this
    case round =>
      clear HB
      obtain ⟨k, T, n, cp, us, hk, rfl, rfl, hn, hown, hbw⟩ := hrel
      have HN := Lib.hid hn
      have HO := Lib.hid hown
      have HBW := Lib.hid hbw
      clear hn hown
      by_cases hlt : k < L
      · have hkl : k < l.length := by rw [← HL.out]; exact hlt
        obtain ⟨b, off, rfl, hb, hc⟩ := H3.out (by omega)
        obtain ⟨g1, ⟨u, g2, g3⟩, g4⟩ := hc k hlt
        have HSTR := Lib.hid g3
        obtain ⟨A1, L1, c1, rfl, hL1, g5, g6, g7⟩ := g3.open'
        have G7 := Lib.hid g7
        have HL1 := Lib.hid hL1
        have hL14 : L1 ≤ 4 := by rw [hL1]; exact (HVV.out k hkl).2
        have q1 := (hbw.cell (p := ⟨b, off + k * 2, none⟩) hb).trans g1
        have q2 := (hbw.cell (p := ⟨b, off + k * 2 + 1, none⟩) hb).trans g2
        have HRW := Lib.hid (HF.out k (by omega))
        have hn256 : n ≤ 256 := by rw [HN.out]; exact Nat.le_trans HRW.out.2 (pow_le (by omega))
        have HSM := Lib.hid (HS.out k (by omega))
        have hsn := HSV.out _ (nthV_mem hkl)
        have HSN := Lib.hid hsn
        have HNX := Lib.hid (foldR_snoc hkl)
        have hbwz := hbw.size
        clear hc g1 g2 g3 g7 hL1 hbw hsn
        generalize hw1 : wr.alloc (.cells #[.string (nthV l k).1, .slice A1 L1 c1] 35) = w1
        have HW1 := Lib.hid hw1
        have hnew : w1.heap[wr.heap.size]? = some (.cells #[.string (nthV l k).1, .slice A1 L1 c1] 35 (0, 0)) := by rw [← hw1]; exact heap_alloc_new wr _
        have hbel1 : Below wr.heap.size wr w1 := by rw [← hw1]; exact (Below.refl _ _).alloc (Nat.le_refl _) _
        have hsz1 : w1.heap.size = wr.heap.size + 1 := by rw [← hw1]; simp
        have HNEW := Lib.hid hnew
        have HBEL1 := Lib.hid hbel1
        have HOW1 := Lib.hid (HO.out.below hbel1)
        have HSZ1 := Lib.hid hsz1
        have hbw1 : Below w.heap.size w w1 := HBW.out.trans (hbel1.mono hbwz)
        have HBW1 := Lib.hid hbw1
        have hwr1 : wr.heap.size < w1.heap.size := by omega
        clear hnew hbel1 hsz1 hbw1 hw1
        go_wp2
        rw [HW1.out]
        obtain ⟨f, hf⟩ : ∃ f : ByteArray → List (List Set1), f = fun x => (foldR (l.take k)).map (· ++ [((nthV l k).1, x)]) := ⟨_, rfl⟩
        have Hf := Lib.hid hf
        clear hf q1 q2
        go_loopw [6, 24] (fun t i wx => ∃ j : Nat, j ≤ L1 ∧ i = .int .i64 j ∧ Mid w1.heap.size w1 wx t (((nthV l k).2.take j).flatMap f)) (fun _ i _ => L1 - (intOf i).toNat)
        case atStart => exact ⟨0, Nat.zero_le _, rfl, ⟨_, _, _, [], rfl, by simp, ⟨⟨rfl, .inl ⟨rfl, by simp⟩⟩, by simp, fun j u z hu hz => by simp at hu⟩⟩, Below.refl _ _⟩
        case round =>
          obtain ⟨j, hj, rfl, ⟨⟨T', n', c', us', rfl, hn', hown'⟩, hbel'⟩⟩ := hrel
          have HN' := Lib.hid hn'
          have HO' := Lib.hid hown'
          have HB' := Lib.hid hbel'
          clear hn' hown' hbel'
          by_cases hjl : j < L1
          · obtain ⟨b1, o1, rfl, hb1, hc1⟩ := G7.out (by omega)
            obtain ⟨r1, r2⟩ := hc1 j hjl
            have hwB : w.heap.size ≤ w1.heap.size := by omega
            have r3 := (HB'.out.cell (p := ⟨b1, o1 + j, none⟩) (by simp; omega)).trans ((HBW1.out.cell (p := ⟨b1, o1 + j, none⟩) hb1).trans r1)
            clear r1 hc1
            have hjl2 : j < (nthV l k).2.length := by rw [← HL1.out]; exact hjl
            have HFS := Lib.hid (flatMap_snoc hjl2 f)
            clear hjl2
            have hpl : (((nthV l k).2.take j).flatMap f).length ≤ 1024 := by
              rw [flatMap_le f n (fun x => by rw [Hf.out, List.length_map]; exact HN.out.symm)]
              have h1 : ((nthV l k).2.take j).length ≤ 4 := by rw [List.length_take]; omega
              exact Nat.le_trans (Nat.mul_le_mul h1 hn256) (by omega)
            generalize hx : nthS (nthV l k).2 j = x at r2 r3 HFS
            generalize hprev : ((nthV l k).2.take j).flatMap f = prev at HFS HO' HN' hpl
            clear hx hprev
            go_wp2
            go_loopw [6, 30] (fun t i wx => ∃ m : Nat, m ≤ n ∧ i = .int .i64 m ∧ Mid w1.heap.size w1 wx t (prev ++ ((foldR (l.take k)).take m).map (· ++ [((nthV l k).1, x)]))) (fun _ i _ => n - (intOf i).toNat)
            case atStart => exact ⟨0, Nat.zero_le _, rfl, ⟨T', n', c', us', rfl, by simpa using HN'.out, by simpa using HO'.out⟩, HB'.out⟩
            case round =>
              clear HO' HB' HN' r3
              obtain ⟨m, hm, rfl, ⟨⟨T2, n2, c2, us2, rfl, hn2, hown2⟩, hbel2⟩⟩ := hrel
              have HN2 := Lib.hid hn2
              have HO2 := Lib.hid hown2
              have HB2 := Lib.hid hbel2
              clear hn2 hown2 hbel2
              by_cases hml : m < n
              · have hmm : m < (foldR (l.take k)).length := by rw [← HN.out]; exact hml
                obtain ⟨bR, u, rfl, hu, hut⟩ := (HOW1.out.belowB HB2.out (Nat.le_refl _)).at hml
                obtain ⟨Au, Lu, cu, rfl⟩ : ∃ A L c, u = .slice A L c := by
                  obtain ⟨A, c, e⟩ := hut.slice
                  exact ⟨_, _, _, e⟩
                have hset := hut.sets (HSM.out _ (nthG_mem hmm))
                have hzl : (nthG (foldR (l.take k)) m).length = k := HRW.out.1 _ (nthG_mem hmm)
                have hms := map_snoc hmm (· ++ [((nthV l k).1, x)])
                have hll : (prev ++ ((foldR (l.take k)).take m).map (· ++ [((nthV l k).1, x)])).length ≤ 65536 := by
                  rw [List.length_append, List.length_map, List.length_take]; omega
                have HLL := Lib.hid hll
                have HMS := Lib.hid hms
                generalize hz : nthG (foldR (l.take k)) m = z at hut hset hzl HMS
                have hxb := heap_below HNEW.out (HB2.out)
                have x0 := cells_get hxb 0 (v := .string (nthV l k).1) rfl
                have hX1 := heap_three wr (.cells #[.string (nthV l k).1, .string x] 37) (.cells #[.slice Au Lu cu, .slice (some ⟨wr.heap.size, 0, none⟩) 1 1] 25)
                have hX2 := heap_threeb wr (.cells #[.string (nthV l k).1, .string x] 37) (.cells #[.slice Au Lu cu, .slice (some ⟨wr.heap.size, 0, none⟩) 1 1] 25)
                have hB4 := below_two wr (.cells #[.string (nthV l k).1, .string x] 37) (.cells #[.slice Au Lu cu, .slice (some ⟨wr.heap.size, 0, none⟩) 1 1] 25)
                have hone := (setOne (x := ((nthV l k).1, x)) hX1 0 (Nat.zero_le _)).sets (by intro y hy; simp at hy; subst hy; exact ⟨HSN.out.1, r2⟩)
                have hcc := concat_two _ _ z [((nthV l k).1, x)] _ _ hX2 (hset.below hB4 (Nat.le_refl _)) hone (by rw [List.length_append, hzl]; simp; omega)
                have HCC := Lib.hid hcc
                have HB4 := Lib.hid hB4
                have hB2z := HB2.out.size
                clear hms hmm hll hut hset hzl hz hxb hX1 hX2 hB4 hone hcc
                go_wp2_with (first | (go_at_call 41; refine HCC.out.mono ?_; rintro e w5 ⟨A5, L5, c5, rfl, h5, hb5⟩; have hb5' : Below wr.heap.size wr w5 := HB4.out.trans (hb5.mono HB4.out.size); have HO6 := Lib.hid ((HO2.out.below hb5').alloc (.cells #[.slice A5 L5 c5] 25)); have H56 := Lib.hid ((h5.base (base' := w1.heap.size) (by simp; omega)).alloc (.cells #[.slice A5 L5 c5] 25)); have HB5 := Lib.hid (HB2.out.trans (hb5'.mono HB2.out.size)); clear h5 hb5 hb5' hu x0) | (at_builtin; refine appR_list (W := w5.alloc (.cells #[.slice A5 L5 c5] 25)) (base := w1.heap.size) (us := us2) (A1 := A5) (L1 := L5) (c1 := c5) (z := z ++ [((nthV l k).1, x)]) (.tmp 34) (.tmp 43) rfl rfl rfl HO6.out rfl (heap_alloc_new w5 _) H56.out HLL.out ((HB5.out.alloc HB5.out.size _).size) ?_; intro T7 m7 c7 w7 hown7 hm7 hgrow7; have HM7 := Lib.hid hm7; have HO7 := Lib.hid hown7; have HB7 := Lib.hid ((HB5.out.alloc HB5.out.size _).grown hgrow7 (HB5.out.alloc HB5.out.size _).size (fun g hg => (HO6.out.1.lt g hg).1)); clear hown7 hm7 hgrow7))
                go_roundw
                case rel => exact ⟨m + 1, by omega, by go_num, ⟨T7, m7, c7, _, rfl, by rw [HM7.out, HMS.out, ← List.append_assoc]; simp only [List.length_append, List.length_cons, List.length_nil], by rw [HMS.out, ← List.append_assoc]; exact HO7.out⟩, HB7.out⟩
                case measure => simp [intOf]; omega
              · obtain rfl : m = n := by omega
                go_wp2
                go_roundw
                case rel =>
                  have e : (foldR (l.take k)).take m = foldR (l.take k) := List.take_of_length_le (by rw [← HN.out]; exact Nat.le_refl _)
                  have hn2 := HN2.out
                  have hO2 := HO2.out
                  rw [e] at hn2 hO2
                  have e2 : (foldR (l.take k)).map (· ++ [((nthV l k).1, x)]) = f x := by rw [Hf.out]
                  rw [e2, ← HFS.out] at hn2 hO2
                  exact ⟨j + 1, by omega, by go_num, ⟨T2, n2, c2, us2, rfl, hn2, hO2⟩, HB2.out⟩
                case measure => simp [intOf]; omega
          · obtain rfl : j = L1 := by omega
            go_wp2
            go_roundw
            case rel =>
              have e : ((nthV l k).2.take j).flatMap f = foldR (l.take (k + 1)) := by
                rw [HNX.out, HL1.out, List.take_length, Hf.out]; rfl
              have hn2 := HN'.out
              have hO2 := HO'.out
              rw [e] at hn2 hO2
              exact ⟨k + 1, T', n', c', us', by omega, by go_num, rfl, hn2, hO2.base (by omega), HBW1.out.trans (HB'.out.mono (by omega))⟩
            case measure => simp [intOf]; omega
      · obtain rfl : k = L := by omega
        go_wp2
        go_ret
        have hO := HO.out
        rw [HL.out, List.take_length, ← Hv.out] at hO
        exact ⟨_, _, _, us, rfl, by rw [HN.out, HL.out, List.take_length, Hv.out], hO, HBW.out⟩

end Go.Proofs.Ytbdceeecngibmaa.Va
