/- Holds: the program's and the document's. -/
import Derived.Test.YtiomocmceccmbaaCnHolds
namespace Go.Proofs.Ytiomocmceccmbaa.Cn
open Go.RowKit

abbrev I64 := { x : Int // -9223372036854775808 ≤ x ∧ x ≤ 9223372036854775807 }
instance : Inhabited I64 := ⟨⟨0, by decide⟩⟩
def encJ (x : I64) : Value := .int .i64 x.val
theorem lift_ints : ∀ {zs : List Int}, (∀ x ∈ zs, -9223372036854775808 ≤ x ∧ x ≤ 9223372036854775807) → ∃ d : List I64, d.map Subtype.val = zs
  | [], _ => ⟨[], rfl⟩
  | x :: r, h => by
    obtain ⟨d, hd⟩ := lift_ints (zs := r) fun y hy => h y (by simp [hy])
    exact ⟨⟨x, h x (by simp)⟩ :: d, by simp [hd]⟩

theorem holds1_any (w : World) (x : Int) (B : Nat) (M : Option Addr) (ml mc : Nat) (bs : List Bool) (h1 : -9223372036854775808 ≤ x) (h2 : x ≤ 9223372036854775807) (hbox : w.heap[B]? = some (.cells #[.slice M ml mc] 23 (0, 0))) (h : BRow w M ml mc bs) :
    Calls Try.prog 38 #[.int .i64 x, .pointer (some ⟨B, 0, none⟩)] w fun e w' => e = .returned (.bool (soB x bs)) ∧ w = w' := by
  have c0 := cells_get hbox 0 (v := .slice M ml mc) rfl
  have H := Lib.hid h
  clear hbox h
  go_enter Try.func38, Try.ntmps38
  go_wp2_with fail
  refine (isSo_any _ x M ml mc bs h1 h2 H.out).mono ?_
  rintro e w' ⟨rfl, rfl⟩
  go_wp2
  go_ret
  exact ⟨rfl, rfl⟩

theorem containsSo_any (w : World) (B : Nat) (M : Option Addr) (ml mc : Nat) (bs : List Bool) (hbox : w.heap[B]? = some (.cells #[.slice M ml mc] 23 (0, 0))) (h : BRow w M ml mc bs) (ba : Nat) (v : Value) (zs : List Int) (hr : Row w ba v zs) :
    Calls Try.prog 37 #[v, .func (.func 38) #[] #[.pointer (some ⟨B, 0, none⟩)]] w fun e w' => e = .returned (.bool (zs.any fun x => soB x bs)) ∧ ∃ q, w' = w.drewN q := by
  obtain ⟨A, L, c, rfl, hL, h1, h2, h3⟩ := hr.open'
  by_cases h0 : 0 < L
  · obtain ⟨b, off, rfl, _, _, hcell⟩ := h3 h0
    obtain ⟨d, hd⟩ := lift_ints hr.bounds
    have hdl : d.length = zs.length := by rw [← hd]; simp
    have := Try.slices_ContainsFunc encJ (fun x => soB x.val bs) 38 #[.pointer (some ⟨B, 0, none⟩)] (enters_of Try.func38 (by kernel_rfl) rfl) b off L c d w
      (fun W x hb => (holds1_any W x.val B M ml mc bs x.property.1 x.property.2 (heap_below hbox hb) (h.below hb (Nat.le_refl _))).mono fun _ _ ⟨he, hw⟩ => ⟨he, 0, hw.symm⟩) (by omega) (by unfold maxLen at h2; omega) (fun j hj => by
        rw [(hcell j (by omega)).1]
        unfold encJ nthI
        rw [← hd]
        simp [List.getD_eq_getElem?_getD, hj])
    refine this.mono fun e w' ⟨he, hw⟩ => ⟨?_, hw⟩
    rw [he, hL, ← hdl, List.take_length, ← hd, List.any_map]
    rfl
  · have e0 : L = 0 := by omega
    subst e0
    have ez : zs = [] := List.eq_nil_of_length_eq_zero hL.symm
    subst ez
    refine (Try.slices_ContainsFunc_empty (α := Int) A c _ w).mono fun e w' ⟨he, hw⟩ => ⟨?_, 0, hw⟩
    rw [he]; rfl

theorem take_snocL {ls : List (List Int)} {k : Nat} (hk : k < ls.length) : ls.take (k + 1) = ls.take k ++ [nthL ls k] := by
  rw [List.take_succ_eq_append_getElem hk]; congr 2; unfold nthL; simp [List.getD_eq_getElem?_getD, hk]

set_option maxHeartbeats 1600000 in
theorem holds_any (w : World) (v : Value) (ls : List (List Int)) (hg : Grid w v ls) (M : Option Addr) (ml mc : Nat) (bs : List Bool) (h : BRow w M ml mc bs) :
    Calls Try.prog 11 #[v, .slice M ml mc] w fun e w' => e = .returned (.bool (holdsB ls bs)) ∧ Below w.heap.size w w' := by
  obtain ⟨r, hr⟩ : ∃ r, holdsB ls bs = r := ⟨_, rfl⟩
  rw [hr]
  have HR := Lib.hid hr
  have HG := Lib.hid hg
  have H := Lib.hid h
  obtain ⟨A, L, c, rfl, hL, h1, h2⟩ := hg.open'
  unfold maxLen at h2
  have HL := Lib.hid hL
  have hb1 : Below w.heap.size w (w.alloc (.cells #[.slice M ml mc] 23)) := (Below.refl _ _).alloc (Nat.le_refl _) _
  have HB1 := Lib.hid hb1
  have HX := Lib.hid (heap_alloc_new w (.cells #[.slice M ml mc] 23))
  clear hr hg h hL hb1
  go_enter Try.func11, Try.ntmps11
  go_wp2
  go_loopw [9] (fun i wr => ∃ k : Nat, i = .int .i64 (k : Int) ∧ k ≤ L ∧ ((ls.take k).all fun z => z.any fun x => soB x bs) = true ∧ ∃ q, wr = (w.alloc (.cells #[.slice M ml mc] 23)).drewN q) (fun i _ => L - (intOf i).toNat)
  case atStart => exact ⟨0, rfl, by omega, by simp, 0, rfl⟩
  case round =>
    obtain ⟨k, rfl, hk, hall, hq⟩ := hrel
    have hbw : Below w.heap.size w wr := by obtain ⟨q, rfl⟩ := hq; exact below_draws HB1.out q
    have hbox : wr.heap[w.heap.size]? = some (.cells #[.slice M ml mc] 23 (0, 0)) := by obtain ⟨q, rfl⟩ := hq; exact HX.out
    have HQ := Lib.hid hq
    have HA := Lib.hid hall
    have HW := Lib.hid hbw
    have HBX := Lib.hid hbox
    clear hall hq hbw hbox
    by_cases hkl : k < L
    · obtain ⟨b, off, A1, L1, c1, rfl, cc, r1⟩ := (HG.out.below HW.out).at hkl
      have HR1 := Lib.hid r1
      obtain ⟨s, hs⟩ : ∃ s, ((nthL ls k).any fun x => soB x bs) = s := ⟨_, rfl⟩
      have HS := Lib.hid hs
      clear r1 hs
      go_wp2_with fail
      refine (containsSo_any wr _ M ml mc bs HBX.out (H.out.below HW.out (Nat.le_refl _)) 0 _ _ HR1.out).mono ?_
      rintro e w2 ⟨rfl, q, rfl⟩
      rw [HS.out]
      cases s with
      | true =>
        go_wp2
        go_roundw
        case rel => exact ⟨k + 1, by first | rfl | go_num, by omega, by
          have hkl' : k < ls.length := by rw [← HL.out]; exact hkl
          rw [take_snocL hkl', List.all_append, HA.out]; simpa using HS.out, by obtain ⟨q', hq'⟩ := HQ.out; rw [hq']; exact ⟨_, World.drewN_drewN _ _ _⟩⟩
        case measure => simp [intOf]; omega
      | false =>
        go_wp2
        go_ret
        have hr : r = false := by
          rw [← HR.out]
          unfold holdsB
          rw [List.all_eq_false]
          exact ⟨nthL ls k, List.mem_of_getElem? (nthL_get (by rw [← HL.out]; exact hkl)), by rw [HS.out]; simp⟩
        rw [hr]
        exact ⟨rfl, below_draws HW.out q⟩
    · have hkL : k = L := by omega
      subst hkL
      go_wp2
      go_ret
      have hr : r = true := by
        rw [← HR.out]
        have := HA.out
        rw [HL.out, List.take_length] at this
        exact this
      rw [hr]
      exact ⟨rfl, HW.out⟩

theorem take_snocI {zs : List Int} {k : Nat} (hk : k < zs.length) : zs.take (k + 1) = zs.take k ++ [nthI zs k] := by
  rw [List.take_succ_eq_append_getElem hk]; congr 2; unfold nthI; simp [List.getD_eq_getElem?_getD, hk]

set_option maxHeartbeats 1600000 in
theorem refHolds_any (w : World) (v : Value) (ls : List (List Int)) (hg : Grid w v ls) (M : Option Addr) (ml mc : Nat) (bs : List Bool) (h : BRow w M ml mc bs) :
    Calls Try.prog 12 #[v, .slice M ml mc] w fun e w' => e = .returned (.bool (holdsB ls bs)) ∧ w = w' := by
  obtain ⟨r, hr⟩ : ∃ r, holdsB ls bs = r := ⟨_, rfl⟩
  rw [hr]
  have HR := Lib.hid hr
  have HG := Lib.hid hg
  have H := Lib.hid h
  obtain ⟨A, L, c, rfl, hL, h1, h2⟩ := hg.open'
  unfold maxLen at h2
  have HL := Lib.hid hL
  clear hr hg h hL
  go_enter Try.func12, Try.ntmps12
  go_wp2
  go_loop [10] (fun i => ∃ k : Nat, i = .int .i64 (k : Int) ∧ k ≤ L ∧ ((ls.take k).all fun z => z.any fun x => soB x bs) = true) (fun i => L - (intOf i).toNat)
  case atStart => exact ⟨0, rfl, by omega, by simp⟩
  case round =>
    obtain ⟨k, rfl, hk, hall⟩ := hrel
    have HA := Lib.hid hall
    clear hall
    by_cases hkl : k < L
    · obtain ⟨b, off, A1, L1, c1, rfl, cc, r1⟩ := HG.out.at hkl
      have HR1 := Lib.hid r1
      have hl1 : L1 = (nthL ls k).length ∧ L1 ≤ 9223372036854775807 := by
        obtain ⟨A', L', c', e, e2, e3, e4, _⟩ := r1.open'
        injection e with _ e5 _
        unfold maxLen at e4
        exact ⟨by omega, by omega⟩
      obtain ⟨hl1, hl2⟩ := hl1
      have HL1 := Lib.hid hl1
      clear r1 hl1
      go_wp2
      go_loop [6, 18] (fun f i => ∃ (j : Nat) (hb : Bool), i = .int .i64 (j : Int) ∧ f = .bool hb ∧ j ≤ L1 ∧ hb = ((nthL ls k).take j).any fun x => soB x bs) (fun _ i => L1 - (intOf i).toNat)
      case atStart => exact ⟨0, false, rfl, rfl, by omega, by simp⟩
      case round =>
        obtain ⟨j, hb, rfl, rfl, hj, hh⟩ := hrel
        have HH := Lib.hid hh
        clear hh
        by_cases hjl : j < L1
        · obtain ⟨b1, o1, rfl, hcell⟩ := HR1.out.at (by omega)
          obtain ⟨x, hx⟩ : ∃ x, nthI (nthL ls k) j = x := ⟨_, rfl⟩
          have cx := hcell j hjl
          rw [hx] at cx
          have hbx := HR1.out.bounds x (by rw [← hx]; exact nthI_mem (by rw [← HL1.out]; exact hjl))
          obtain ⟨s, hs⟩ : ∃ s, soB x bs = s := ⟨_, rfl⟩
          have HS := Lib.hid hs
          have HX := Lib.hid hx
          have HBX := Lib.hid hbx
          clear hs hx hcell hbx
          have hnext : ((nthL ls k).take (j + 1)).any (fun x => soB x bs) = (hb || s) := by
            rw [take_snocI (by rw [← HL1.out]; exact hjl), List.any_append, ← HH.out, HX.out]
            simp [HS.out]
          have HN := Lib.hid hnext
          clear hnext HH
          cases hb with
          | true =>
            go_wp2
            go_round
            case rel => exact ⟨j + 1, true, by first | rfl | go_num, rfl, hjl, by rw [HN.out]; rfl⟩
            case measure => simp [intOf]; omega
          | false =>
            go_wp2_with fail
            refine (so_any w x M ml mc bs HBX.out.1 HBX.out.2 H.out).mono ?_
            rintro e w' ⟨rfl, rfl⟩
            rw [HS.out]
            go_wp2
            go_round
            case rel => exact ⟨j + 1, s, by first | rfl | go_num, rfl, hjl, by rw [HN.out]; rfl⟩
            case measure => simp [intOf]; omega
        · have hjL : j = L1 := by omega
          subst hjL
          have hall : ((nthL ls k).any fun x => soB x bs) = hb := by
            have := HH.out
            rw [HL1.out, List.take_length] at this
            exact this.symm
          have HS := Lib.hid hall
          clear hall HH
          cases hb with
          | true =>
            go_wp2
            go_round
            case rel => exact ⟨k + 1, by first | rfl | go_num, by omega, by
              have hkl' : k < ls.length := by rw [← HL.out]; exact hkl
              rw [take_snocL hkl', List.all_append, HA.out]; simpa using HS.out⟩
            case measure => simp [intOf]; omega
          | false =>
            go_wp2
            go_ret
            have hr : r = false := by
              rw [← HR.out]
              unfold holdsB
              rw [List.all_eq_false]
              exact ⟨nthL ls k, List.mem_of_getElem? (nthL_get (by rw [← HL.out]; exact hkl)), by rw [HS.out]; simp⟩
            rw [hr]
            exact ⟨rfl, rfl⟩
    · have hkL : k = L := by omega
      subst hkL
      go_wp2
      go_ret
      have hr : r = true := by
        rw [← HR.out]
        have := HA.out
        rw [HL.out, List.take_length] at this
        exact this
      rw [hr]
      exact ⟨rfl, rfl⟩

end Go.Proofs.Ytiomocmceccmbaa.Cn
