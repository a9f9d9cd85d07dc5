/- What the guard says of a recipe: also of its prefers. -/
import Derived.Test.YtaahdhpljlkfjaaGreatZg30
import Derived.Test.YtaahdhpljlkfjaaGreatZg06
import Derived.Test.YtaahdhpljlkfjaaGreatZg27
namespace Go.Proofs.YtaahdhpljlkfjaaGreat.Rc
open Go.RowKit

set_option maxHeartbeats 3200000 in
set_option maxRecDepth 100000 in
theorem great07P_any (w : World) (v1 v2 : Value) (x : Rec) (h : IsRec w v1 v2 x) :
    Calls Tryz.prog 5 #[.agg #[v1, v2]] w (SomeG (fun b => b = false → RecSmall x ∧ ∀ f ∈ x.prefs, f.names.length ≤ 50) w) := by
  have HI := Lib.hid (InBox.new h)
  obtain ⟨A1, L1, c1, A2, L2, c2, rfl, rfl, hL1, hL2, hc1, hm1, hc2, hm2⟩ := rec_box h
  have HL1 := Lib.hid hL1
  have HL2 := Lib.hid hL2
  clear hL1 hL2 h
  by_cases hbig : 30 < L1 ∨ 20 < L2
  · go_enter Tryz.func5, Tryz.ntmps5
    go_wp2_with fail
    all_goals first
      | (go_ret; exact ⟨true, rfl, by simp, HI.out.bel⟩)
      | (exfalso; omega)
  · have e0 : ¬ (30 : Int) < (L1 : Int) := by omega
    have e1 : ¬ (20 : Int) < (L2 : Int) := by omega
    have HSM := Lib.hid (show x.pkgs.length ≤ 30 ∧ x.prefs.length ≤ 20 by rw [← HL1.out, ← HL2.out]; omega)
    clear hbig
    go_enter Tryz.func5, Tryz.ntmps5
    go_wp2
    go_loopw [18] (fun i wr => ∃ k : Nat, k ≤ L1 ∧ i = .int .i64 k ∧ Hid (∀ j, j < k → PkgSmall (nth x.pkgs j)) ∧ InBox w wr (.slice A1 L1 c1) (.slice A2 L2 c2) w.heap.size x) (fun i _ => L1 - (RowKit.intOf i).toNat)
    case atStart => exact ⟨0, Nat.zero_le _, rfl, Lib.hid (fun j hj => by omega), HI.out⟩
    case round =>
      clear HI
      obtain ⟨k, hk, rfl, hall, hi⟩ := hrel
      have HI := Lib.hid hi
      have x0 := hi.c0
      have x1 := hi.c1
      by_cases hlt : k < L1
      · obtain ⟨b, off, v1, v2, v3, v4, v5, v6, rfl, hb, hp, d0, d1, d2, d3, d4, d5, d6, d7⟩ := pkg_at hi.isr.pkgs hlt
        have HP := Lib.hid hp
        clear hp hi
        go_wp2_with fail
        refine (greatPackage_any _ _ _ _ _ _ _ _ HP.out).mono ?_
        rintro e w2 ⟨b3, rfl, hb3, hb2⟩
        have HI2 := Lib.hid (HI.out.step hb2)
        clear hb2
        cases b3 with
        | true =>
          clear hb3
          go_wp2
          go_ret
          exact ⟨true, rfl, by simp, HI2.out.bel⟩
        | false =>
          have hn : Hid (∀ j, j < k + 1 → PkgSmall (nth x.pkgs j)) := Lib.hid (fun j hj => by
            by_cases e : j = k
            · rw [e]; exact hb3 rfl
            · exact hall.out j (by omega))
          clear hb3
          go_wp2
          go_roundw
          case rel => exact ⟨k + 1, by omega, by go_num, hn, HI2.out⟩
          case measure => simp [RowKit.intOf]; omega
      · obtain rfl : k = L1 := by omega
        have HALL := Lib.hid (show ∀ p ∈ x.pkgs, PkgSmall p from all_to (fun j hj => hall.out j (by rw [HL1.out]; exact hj)))
        clear hi
        go_wp2
        go_loop [31] (fun i => ∃ k : Nat, k ≤ L2 ∧ i = .int .i64 k ∧ Hid (∀ j, j < k → (nth x.prefs j).names.length ≤ 50)) (fun i => L2 - (RowKit.intOf i).toNat)
        case atStart => exact ⟨0, Nat.zero_le _, rfl, Lib.hid (fun j hj => by omega)⟩
        case round =>
          obtain ⟨k2, hk2, rfl, HPS⟩ := hrel
          by_cases hlt2 : k2 < L2
          · obtain ⟨b, off, v1, rfl, hb, hs, hr, hw, d0, d1, d2⟩ := pref_at HI.out.isr.prefs hlt2
            have HR := Lib.hid hr
            obtain ⟨Ar, Lr, cr, rfl⟩ := hr.sl
            clear hr hw
            by_cases hn : 100 < (nth x.prefs k2).virt.size
            · have n0 : (100 : Int) < ((nth x.prefs k2).virt.size : Int) := by omega
              go_wp2
              go_ret
              exact ⟨true, rfl, by simp, HI.out.bel⟩
            · have n0 : ¬ (100 : Int) < ((nth x.prefs k2).virt.size : Int) := by omega
              go_wp2_with fail
              refine (greatTexts_any _ _ _ HR.out).mono ?_
              rintro e w' ⟨b3, rfl, hb3, rfl⟩
              cases b3 with
              | true =>
                clear hb3
                go_wp2
                go_ret
                exact ⟨true, rfl, by simp, HI.out.bel⟩
              | false =>
                have HPN : Hid (∀ j, j < k2 + 1 → (nth x.prefs j).names.length ≤ 50) := Lib.hid (fun j hj => by
                  by_cases e : j = k2
                  · rw [e]; exact hb3 rfl
                  · exact HPS.out j (by omega))
                clear hb3
                go_wp2
                go_round
                case rel => exact ⟨k2 + 1, by omega, by go_num, HPN⟩
                case measure => simp [RowKit.intOf]; omega
          · have HPA := Lib.hid (show ∀ f ∈ x.prefs, f.names.length ≤ 50 from all_to (fun j hj => HPS.out j (by rw [← HL2.out] at hj; omega)))
            go_wp2
            go_ret
            exact ⟨false, rfl, fun _ => ⟨⟨HSM.out.1, HSM.out.2, HALL.out⟩, HPA.out⟩, HI.out.bel⟩
end Go.Proofs.YtaahdhpljlkfjaaGreat.Rc

/- What the document's guards say: Great, GreatVariants. -/
namespace Go.Proofs.YtaahdhpljlkfjaaGreat.Va
open Go.RowKit

def SomeB (P : Bool → Prop) (w : World) (e : Ending) (w' : World) : Prop := ∃ b : Bool, e = .returned (.bool b) ∧ P b ∧ w = w'

set_option maxHeartbeats 800000 in
set_option maxRecDepth 100000 in
theorem greatS_any (w : World) (v : Value) (l : List Set1) (h : Sets w v l) :
    Calls Tryz.prog 17 #[v] w (SomeB (fun b => b = false → l.length ≤ 50) w) := by
  obtain ⟨A, L, c, rfl, hL, h1, h2, h3⟩ := h.open'
  unfold maxLen at h2
  have H3 := Lib.hid h3
  have HL := Lib.hid hL
  clear h hL h3
  by_cases h20 : 50 < L
  · have e1 : (50 : Int) < (L : Int) := by omega
    go_enter Tryz.func17, Tryz.ntmps17
    go_wp2
    go_ret
    exact ⟨true, rfl, by simp, rfl⟩
  · have e1 : ¬ (50 : Int) < (L : Int) := by omega
    have HLL := Lib.hid (show l.length ≤ 50 by have := HL.out; omega)
    go_enter Tryz.func17, Tryz.ntmps17
    go_wp2
    go_loop [9] (fun i => ∃ k : Nat, k ≤ L ∧ i = .int .i64 k) (fun i => L - (RowKit.intOf i).toNat)
    case atStart => exact ⟨0, Nat.zero_le _, rfl⟩
    case round =>
      obtain ⟨k, hk, rfl⟩ := hrel
      by_cases hlt : k < L
      · obtain ⟨b, off, rfl, hb, hc⟩ := H3.out (by omega)
        obtain ⟨g1, g2, g3⟩ := hc k hlt
        clear hc g3
        by_cases n1 : 100 < (nthT l k).1.size
        · have e2 : (100 : Int) < ((nthT l k).1.size : Int) := by omega
          go_wp2
          go_ret
          exact ⟨true, rfl, by simp, rfl⟩
        · have e2 : ¬ (100 : Int) < ((nthT l k).1.size : Int) := by omega
          by_cases n2 : 100 < (nthT l k).2.size
          · have e3 : (100 : Int) < ((nthT l k).2.size : Int) := by omega
            go_wp2
            go_ret
            exact ⟨true, rfl, by simp, rfl⟩
          · have e3 : ¬ (100 : Int) < ((nthT l k).2.size : Int) := by omega
            go_wp2
            go_round
            case rel => exact ⟨k + 1, by omega, by go_num⟩
            case measure => simp [RowKit.intOf]; omega
      · go_wp2
        go_ret
        exact ⟨false, rfl, fun _ => HLL.out, rfl⟩

end Go.Proofs.YtaahdhpljlkfjaaGreat.Va

/- The guard of graphs. -/
namespace Go.Proofs.YtaahdhpljlkfjaaGreat.Rc
open Go.RowKit

def GraphSmall (g : List Node) : Prop := g.length ≤ 30 ∧ ∀ n ∈ g, n.sets.length ≤ 50
set_option maxHeartbeats 3200000 in
set_option maxRecDepth 100000 in
theorem greatGraph_any (w : World) (vg : Value) (g : List Node) (h : RowD nodeK w vg g) :
    Calls Tryz.prog 7 #[.agg #[vg]] w (SomeG (fun b => b = false → GraphSmall g) w) := by
  obtain ⟨A, L, c, rfl⟩ := h.sl
  have HX := Lib.hid (Bxs.one w #[.slice A L c] 31)
  have HG := Lib.hid h
  have HL := Lib.hid h.len
  have hc := h.cap
  clear h
  by_cases hbig : 30 < L
  · go_enter Tryz.func7, Tryz.ntmps7
    go_wp2_with fail
    all_goals first
      | (go_ret; exact ⟨true, rfl, by simp, HX.out.bel⟩)
      | (exfalso; omega)
  · have e0 : ¬ (30 : Int) < (L : Int) := by omega
    have HGL := Lib.hid (show g.length ≤ 30 by rw [← HL.out]; omega)
    clear hbig
    go_enter Tryz.func7, Tryz.ntmps7
    go_wp2
    go_loopw [14] (fun i wr => ∃ k : Nat, k ≤ L ∧ i = .int .i64 k ∧ Hid (∀ j, j < k → (nth g j).sets.length ≤ 50) ∧ Hid (Below w.heap.size w wr)) (fun i _ => L - (RowKit.intOf i).toNat)
    case atStart => exact ⟨0, Nat.zero_le _, rfl, Lib.hid (fun j hj => by omega), Lib.hid HX.out.bel⟩
    case round =>
      clear HX
      obtain ⟨k, hk, rfl, hall, HB⟩ := hrel
      by_cases hlt : k < L
      · obtain ⟨bb, off, u1, u2, rfl, hbb, hn, p0, p1, p2, p3⟩ := node_at (HG.out.below HB.out (Nat.le_refl _)) hlt
        obtain ⟨n, hnn⟩ : ∃ n, nth g k = n := ⟨_, rfl⟩
        rw [hnn] at hn p0 p1
        have HNN := Lib.hid hnn
        obtain ⟨A5, L5, c5, rfl⟩ := hn.sets.sl
        obtain ⟨A6, L6, c6, rfl⟩ := hn.needs.sl
        have g0 : (0 : Int) ≤ (k : Int) := by omega
        have g1 : (k : Int) < (L : Int) := by omega
        have HS0 := Lib.hid hn.sets
        have HN0 := Lib.hid hn.needs
        have h6 := hn.needs.cap
        have hbl := below_alloc' wr (.cells #[.string n.name, .string n.ver, .slice A5 L5 c5, .slice A6 L6 c6] 63)
        have HB1 := Lib.hid (HB.out.trans (hbl.mono HB.out.size))
        have HS := Lib.hid (to_sets (HS0.out.below hbl (Nat.le_refl _)))
        have HN := Lib.hid (HN0.out.below hbl (Nat.le_refl _))
        clear hnn hbb hn hbl HS0 HN0 HB
        by_cases hn1 : 100 < n.name.size
        · have n1 : (100 : Int) < (n.name.size : Int) := by omega
          go_wp2
          go_ret
          exact ⟨true, rfl, by simp, HB1.out⟩
        · have n1 : ¬ (100 : Int) < (n.name.size : Int) := by omega
          by_cases hn2 : 100 < n.ver.size
          · have n2 : (100 : Int) < (n.ver.size : Int) := by omega
            go_wp2
            go_ret
            exact ⟨true, rfl, by simp, HB1.out⟩
          · have n2 : ¬ (100 : Int) < (n.ver.size : Int) := by omega
            go_wp2_with fail
            refine (Va.greatS_any _ _ _ HS.out).mono ?_
            rintro e w' ⟨b3, rfl, hb3, rfl⟩
            cases b3 with
            | true =>
              clear hb3
              go_wp2
              go_ret
              exact ⟨true, rfl, by simp, HB1.out⟩
            | false =>
              have hq : Hid (∀ j, j < k + 1 → (nth g j).sets.length ≤ 50) := Lib.hid (fun j hj => by
                by_cases e : j = k
                · rw [e, HNN.out]; exact hb3 rfl
                · exact hall.out j (by omega))
              clear hb3 p0 p1 p2 p3
              by_cases hn3 : 50 < L6
              · have n3 : (50 : Int) < (L6 : Int) := by omega
                go_wp2
                go_ret
                exact ⟨true, rfl, by simp, HB1.out⟩
              · have n3 : ¬ (50 : Int) < (L6 : Int) := by omega
                go_wp2
                go_loop [42] (fun i => ∃ k : Nat, k ≤ L6 ∧ i = .int .i64 k) (fun i => L6 - (RowKit.intOf i).toNat)
                case atStart => exact ⟨0, Nat.zero_le _, rfl⟩
                case round =>
                  obtain ⟨k2, hk2, rfl⟩ := hrel
                  by_cases hlt2 : k2 < L6
                  · obtain ⟨b6, o6, rfl, hb6, hvz, w0⟩ := str_at HN.out hlt2
                    have k0 : (0 : Int) ≤ (k2 : Int) := by omega
                    have k1 : (k2 : Int) < (L6 : Int) := by omega
                    clear hb6 hvz
                    by_cases hn4 : 100 < (nth n.needs k2).size
                    · have n4 : (100 : Int) < ((nth n.needs k2).size : Int) := by omega
                      go_wp2
                      go_ret
                      exact ⟨true, rfl, by simp, HB1.out⟩
                    · have n4 : ¬ (100 : Int) < ((nth n.needs k2).size : Int) := by omega
                      go_wp2
                      go_round
                      case rel => exact ⟨k2 + 1, by omega, by go_num⟩
                      case measure => simp [RowKit.intOf]; omega
                  · go_wp2
                    go_roundw
                    case rel => first | exact ⟨k + 1, by omega, by go_num, hq, HB1⟩ | ((repeat apply Exists.intro); exact ⟨⟨k + 1, by omega, by go_num, hq, HB1⟩, rfl⟩)
                    case measure => simp [RowKit.intOf]; omega
      · have HALL := Lib.hid (show ∀ n ∈ g, n.sets.length ≤ 50 from all_to (fun j hj => hall.out j (by rw [← HL.out] at hj; omega)))
        go_wp2
        go_ret
        exact ⟨false, rfl, fun _ => ⟨HGL.out, HALL.out⟩, HB.out⟩
end Go.Proofs.YtaahdhpljlkfjaaGreat.Rc
