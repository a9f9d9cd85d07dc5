/- HeapAll: all atoms come out once, in their order. -/
import Derived.Test.YtnapkgnbkkilgaaHpAt
namespace Go.Proofs.Ytnapkgnbkkilgaa.Hp
open Go.RowKit

/-- The score of an atom, when k of them were set. -/
def sco (zs : List Int) (k a : Nat) : Nat := if 1 ≤ a ∧ a ≤ k then (zs.getD (a - 1) 0).toNat else 0

/-- The first loop by now. -/
def Set1 (w : World) (zs : List Int) (n B S P : Nat) (t : Value) (wr : World) : Prop :=
  ∃ (k : Nat) (v : Value) (sc row pl : List Nat), t = .int .i64 (k : Int) ∧ k ≤ n ∧ Heap wr w.heap.size B S P v sc row pl ∧ sc.length = n + 1 ∧ (∀ a, at' sc a = sco zs k a) ∧ row.Perm (List.range' 1 n) ∧ Below w.heap.size w wr

/-- The second loop by now. -/
def Set2 (w : World) (zs : List Int) (n B S P : Nat) (t u : Value) (wr : World) : Prop :=
  ∃ (k l : Nat) (v : Value) (sc row pl : List Nat), t = .int .i64 (l : Int) ∧ u = .int .i64 (k : Int) ∧ k ≤ n ∧ Heap wr w.heap.size B S P v sc row pl ∧ sc.length = n + 1 ∧ (∀ a, at' sc a = sco zs n a) ∧ row.length = n - k ∧ (∀ x ∈ row, 1 ≤ x ∧ x ≤ n) ∧ Below w.heap.size w wr ∧
    (l = 0 ∨ (1 ≤ l ∧ l ≤ n ∧ ∀ x ∈ row, Lt sc l x))

theorem bounds_u32 {n : Int} (h : (Lit.int .u32 n).wf = true) : 0 ≤ n ∧ n < 4294967296 := by
  simp [Lit.wf, IntKind.min, IntKind.max, IntKind.bits, IntKind.signed] at h; omega

theorem pop_step {sc row row2 : List Nat} {a : Nat} (hn : row.Nodup) (hp : row.Perm (a :: row2)) (hm : ∀ x ∈ row, ¬ Lt sc x a) : (∀ x ∈ row2, x ∈ row ∧ Lt sc a x) ∧ row.length = row2.length + 1 := by
  have h1 := (hp.nodup_iff.1 hn)
  rw [List.nodup_cons] at h1
  refine ⟨fun x hx => ?_, by rw [hp.length_eq]; simp⟩
  have hx' := hp.mem_iff.2 (List.mem_cons_of_mem a hx)
  refine ⟨hx', ?_⟩
  rcases Lt.total (hm x hx') with e | e
  · exact absurd (e ▸ hx) h1.1
  · exact e

set_option maxRecDepth 100000 in
set_option maxHeartbeats 3200000 in
theorem heapAll_any (c : Option Addr) (len cap : Nat) (zs : List Int) (w : World) (hr : IsRow .u32 w c len cap zs) :
    Calls Try.prog 4 #[.slice c len cap] w fun e w' => e = .returned (.bool true) ∧ Below w.heap.size w w' := by
  have hle := hr.le
  obtain ⟨hle1, hle2⟩ := hle
  unfold maxLen at hle2
  have HR := Lib.hid hr
  clear hr
  by_cases hg : 1000 < len
  · go_enter Try.func4, Try.ntmps4
    go_wp2_with fail
    refine (fixed_any _).mono ?_
    rintro e w1 ⟨rfl, hb⟩
    go_wp2
    go_ret
    exact ⟨rfl, hb⟩
  · go_enter Try.func4, Try.ntmps4
    go_wp2_with fail
    refine (heap_new _ _ len rfl (by omega)).mono ?_
    rintro e w1 ⟨B, S, P, v0, rfl, h1, hb1⟩
    have H1 := Lib.hid h1
    have HB1 := Lib.hid hb1
    clear h1 hb1
    go_wp2
    go_loopw [17] (fun t wr => Set1 w zs len B S P t wr) (fun t _ => len - (intOf t).toNat)
    case atStart => exact ⟨0, v0, _, _, _, rfl, by omega, H1.out, by simp, fun a => by unfold at' sco; rw [if_neg (by omega)]; simp [List.getD_eq_getElem?_getD, List.getElem?_replicate]; split <;> rfl, List.Perm.refl _, HB1.out⟩
    case round =>
      obtain ⟨k, v, sc, row, pl, rfl, hk, hh, hsl, hsc, hpe, hb⟩ := hrel
      clear H1 HB1
      by_cases hlt : k < len
      · obtain ⟨b, off, rfl, hbl, hc⟩ := HR.out.at (by omega)
        obtain ⟨hc1, hc2⟩ := hc k hlt
        obtain ⟨z1, z2⟩ := bounds_u32 hc2
        obtain ⟨s, hs⟩ := Int.eq_ofNat_of_zero_le z1
        have cz := (hb.cell (p := ⟨b, off + k, none⟩) hbl).trans hc1
        rw [hs] at cz z1 z2
        have H := Lib.hid hh
        have HS := Lib.hid hs
        have HSC := Lib.hid hsc
        have HSL := Lib.hid hsl
        have HPE := Lib.hid hpe
        have HB := Lib.hid hb
        clear hc hc1 hc2 hs hsc hsl hpe hb hh
        have h0 : 0 ∉ row := fun hm => by have := HPE.out.mem_iff.1 hm; simp at this
        have z0 : at' sc (k + 1) = 0 := by rw [HSC.out]; unfold sco; rw [if_neg (by omega)]
        go_wp2_with fail
        refine (heap_bump _ w.heap.size B S P v sc row pl H.out h0 (k + 1) s _ _ (by simp) rfl (by omega) (by rw [HSL.out]; omega) (by rw [z0]; omega)).mono ?_
        rintro e w2 ⟨rfl, row', pl', h2, p2, t2⟩
        rw [z0, Nat.zero_add] at h2
        have H2 := Lib.hid h2
        have P2 := Lib.hid p2
        have T2 := Lib.hid t2
        clear h2 p2 t2 z0 h0 cz
        go_wp2
        go_roundw
        case rel =>
          refine ⟨k + 1, v, _, row', pl', by first | rfl | go_num, by omega, H2.out, by simpa using HSL.out, fun a => ?_, P2.out.trans HPE.out, H.out.still T2.out (fun i h => .inr h) HB.out (Nat.le_refl _)⟩
          rw [at_set (by rw [HSL.out]; omega), HSC.out]
          unfold sco
          by_cases e : a = k + 1
          · subst e; rw [if_pos rfl, if_pos (by omega), Nat.add_sub_cancel, HS.out]; simp
          · rw [if_neg e]
            by_cases e2 : 1 ≤ a ∧ a ≤ k
            · rw [if_pos e2, if_pos (by omega)]
            · rw [if_neg e2, if_neg (by omega)]
        case measure => simp [intOf]; omega
      · obtain rfl : k = len := by omega
        have HL := Lib.hid (show row.length = k by rw [hpe.length_eq]; simp)
        have HPE := Lib.hid hpe
        have H := Lib.hid hh
        have HSC := Lib.hid hsc
        have HSL := Lib.hid hsl
        have HB := Lib.hid hb
        clear hh hsc hsl hpe hb
        go_wp2
        go_loopw [6, 31] (fun t u wr => Set2 w zs k B S P t u wr) (fun _ u _ => k - (intOf u).toNat)
        case atStart => exact ⟨0, 0, v, sc, row, pl, rfl, rfl, by omega, H.out, HSL.out, HSC.out, by rw [HL.out]; omega, fun x hx => by have := HPE.out.mem_iff.1 hx; simp at this; omega, HB.out, .inl rfl⟩
        case round =>
          clear H HSL HSC HL HPE HB
          obtain ⟨j, l, v', sc', row', pl', rfl, rfl, hj, hh, hsl, hsc, hrl, hin, hb, hl⟩ := hrel
          have H := Lib.hid hh
          have HSC := Lib.hid hsc
          have HSL := Lib.hid hsl
          have HB := Lib.hid hb
          have HIN := Lib.hid hin
          have HRL := Lib.hid hrl
          have HLL := Lib.hid hl
          have h0 : 0 ∉ row' := fun hm => by have := hin 0 hm; omega
          clear hh hsc hsl hb hin hl
          by_cases hlt2 : j < k
          · have hr1 : 1 ≤ row'.length := by omega
            clear hrl
            go_wp2_with fail
            refine (heap_pop _ w.heap.size B S P v' sc' row' pl' H.out h0 hr1).mono ?_
            rintro e w2 ⟨a, rfl, ha, hmin, v2, row2, pl2, h2, p2, -, t2⟩
            obtain ⟨a1, a2⟩ := HIN.out a ha
            obtain ⟨a', rfl⟩ : ∃ a', a = a' + 1 := ⟨a - 1, by omega⟩
            have HB2 := Lib.hid (H.out.still t2 (fun i h => by rcases h with h | h | h; exact .inl h; exact .inr (.inr (.inl h)); exact .inr (.inr (.inr h))) HB.out (Nat.le_refl _))
            have H2 := Lib.hid h2
            have P2 := Lib.hid p2
            have HM := Lib.hid hmin
            have HA := Lib.hid ha
            clear h2 p2 t2 hmin ha
            obtain ⟨b, off, rfl, hbl, hc⟩ := HR.out.at (by omega)
            obtain ⟨hc1, hc2⟩ := hc a' (by omega)
            obtain ⟨z1, z2⟩ := bounds_u32 hc2
            obtain ⟨sa, hsa⟩ := Int.eq_ofNat_of_zero_le z1
            have ca := (HB2.out.cell (p := ⟨b, off + a', none⟩) hbl).trans hc1
            rw [hsa] at ca
            have sa' : at' sc' (a' + 1) = sa := by rw [HSC.out]; unfold sco; rw [if_pos (by omega), Nat.add_sub_cancel, hsa]; simp
            have i1 : (0 : Int) ≤ (a' : Int) := by omega
            have i2 : (a' : Int) < (k : Int) := by omega
            have wa : IntKind.i64.wrap (a' : Int) = (a' : Int) := IntWalk.i64_in _ (by omega)
            have HSA := Lib.hid sa'
            clear hc1 hc2 hsa sa' z1 z2
            rcases HLL.out with hl0 | ⟨l1, l2, l3⟩
            · subst hl0
              clear hc
              go_wp2_with fail
              go_quiet (fail)
              go_wp2
              go_roundw
              case rel =>
                obtain ⟨q1, q2⟩ := pop_step H.out.2.valid.2 P2.out HM.out
                have hrl := HRL.out
                exact ⟨j + 1, a' + 1, v2, sc', row2, pl2, by first | rfl | go_num | simp, by first | rfl | go_num | simp, by omega, H2.out.below (below_draws (Below.refl _ _) nq), HSL.out, HSC.out, by omega, fun x hx => HIN.out x (q1 x hx).1, below_draws HB2.out nq, .inr ⟨by omega, by omega, fun x hx => (q1 x hx).2⟩⟩
              case measure => simp [intOf]; omega
            · obtain ⟨l', rfl⟩ : ∃ l', l = l' + 1 := ⟨l - 1, by omega⟩
              have hlt := l3 (a' + 1) HA.out
              obtain ⟨hd1, hd2⟩ := hc l' (by omega)
              obtain ⟨y1, y2⟩ := bounds_u32 hd2
              obtain ⟨sl, hsl⟩ := Int.eq_ofNat_of_zero_le y1
              have cl := (HB2.out.cell (p := ⟨b, off + l', none⟩) hbl).trans hd1
              rw [hsl] at cl
              have sl' : at' sc' (l' + 1) = sl := by rw [HSC.out]; unfold sco; rw [if_pos (by omega), Nat.add_sub_cancel, hsl]; simp
              have i3 : (0 : Int) ≤ (l' : Int) := by omega
              have i4 : (l' : Int) < (k : Int) := by omega
              have wl : IntKind.i64.wrap (l' : Int) = (l' : Int) := IntWalk.i64_in _ (by omega)
              unfold Lt at hlt
              rw [sl', HSA.out] at hlt
              clear hc hd1 hd2 hsl sl' y1 y2 l3
              rcases hlt with hlt | ⟨rfl, hla⟩
              · have g1 : decide ((sl : Int) < (sa : Int)) = false := by simp; omega
                have g2 : ((sa : Int) == (sl : Int)) = false := by simp; omega
                have g3 : ¬ sl < sa := by omega
                have g4 : ¬ sa = sl := by omega
                go_wp2_with fail
                go_quiet (fail)
                go_wp2
                go_roundw
                case rel =>
                  obtain ⟨q1, q2⟩ := pop_step H.out.2.valid.2 P2.out HM.out
                  have hrl := HRL.out
                  exact ⟨j + 1, a' + 1, v2, sc', row2, pl2, by first | rfl | go_num | simp, by first | rfl | go_num | simp, by omega, H2.out.below (below_draws (Below.refl _ _) nq), HSL.out, HSC.out, by omega, fun x hx => HIN.out x (q1 x hx).1, below_draws HB2.out nq, .inr ⟨by omega, by omega, fun x hx => (q1 x hx).2⟩⟩
                case measure => simp [intOf]; omega
              · have g1 : ¬ a' ≤ l' := by omega
                have g2 : ¬ a' + 1 ≤ l' + 1 := by omega
                have g3 : decide ((a' : Int) ≤ (l' : Int)) = false := by simp; omega
                go_wp2_with fail
                go_quiet (fail)
                go_wp2
                go_roundw
                case rel =>
                  obtain ⟨q1, q2⟩ := pop_step H.out.2.valid.2 P2.out HM.out
                  have hrl := HRL.out
                  exact ⟨j + 1, a' + 1, v2, sc', row2, pl2, by first | rfl | go_num | simp, by first | rfl | go_num | simp, by omega, H2.out.below (below_draws (Below.refl _ _) nq), HSL.out, HSC.out, by omega, fun x hx => HIN.out x (q1 x hx).1, below_draws HB2.out nq, .inr ⟨by omega, by omega, fun x hx => (q1 x hx).2⟩⟩
                case measure => simp [intOf]; omega
          · have hre : row' = [] := by
              have : row'.length = 0 := by omega
              exact List.eq_nil_of_length_eq_zero this
            subst hre
            clear hrl
            go_wp2_with fail
            refine (fixed_any _).mono ?_
            rintro e w2 ⟨rfl, hb2⟩
            have H2 := Lib.hid (H.out.1.below hb2)
            have HB2 := Lib.hid (HB.out.trans (hb2.mono HB.out.size))
            clear hb2
            go_wp2_with fail
            refine (pop_none _ w.heap.size B S P v' sc' pl' H2.out).mono ?_
            rintro e w3 ⟨rfl, rfl⟩
            go_wp2_with fail
            refine (len_is _ w.heap.size B S P v' sc' [] pl' H2.out).mono ?_
            rintro e w3 ⟨rfl, rfl⟩
            go_wp2
            go_ret
            exact ⟨rfl, HB2.out⟩

end Go.Proofs.Ytnapkgnbkkilgaa.Hp
