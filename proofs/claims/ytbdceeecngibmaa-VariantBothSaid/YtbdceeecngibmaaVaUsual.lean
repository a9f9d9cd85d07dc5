/- The walk of Usual: the settings with the usual values. -/
import Derived.Test.YtbdceeecngibmaaVaMay2
namespace Go.Proofs.Ytbdceeecngibmaa.Va
open Go.RowKit

def usualB (l : List Var) : List Set1 := l.filterMap fun v => match v.2 with | [] => none | x :: _ => some (v.1, x)
theorem usual_snoc {l : List Var} {k : Nat} (hk : k < l.length) : usualB (l.take (k + 1)) = usualB (l.take k) ++ (if (nthV l k).2.length = 0 then [] else [((nthV l k).1, nthS (nthV l k).2 0)]) := by
  unfold usualB
  rw [List.take_succ_eq_append_getElem hk, List.filterMap_append, nthV_lt hk]
  congr 1
  cases h : l[k].2 with
  | nil => simp [h]
  | cons x r => simp [h, nthS]
theorem usual_len (l : List Var) (k : Nat) : (usualB (l.take k)).length ≤ k := by
  unfold usualB
  exact Nat.le_trans (List.length_filterMap_le _ _) (by rw [List.length_take]; omega)

/-- A setting is appended to a row of the call's own, in a region that draws. -/
theorem appT_step {ops : Array Oper} {o : Oper} {a : Act} {K : Act → World → Prop} {Q : Exit → Act → World → Prop} {E : Prop} {W : World} {base n blk cp : Nat} {A : Option Addr} {l : List Set1} (x : Set1) (s y : Operand)
    (hgd : o.guard = none) (ho : o.op = .call { callee := .builtin .append, args := #[s, y], argTypes := #[25, 25] })
    (hs : a.eval s = .slice A n cp) (hown : OwnT W base (.slice A n cp) l) (hn0 : n = l.length) (hx : a.eval y = .slice (some ⟨blk, 0, none⟩) 1 1)
    (hn : W.heap[blk]? = some (.cells #[.string x.1, .string x.2] 37 (0, 0))) (hsz : n ≤ 65536) (hbase : base ≤ W.heap.size)
    (h : ∀ g cap w', OwnT w' base (.slice (some ⟨g, 0, none⟩) (n + 1) cap) (l ++ [x]) → W.grownBy w' (Value.slice A n cp).ownBlock → ((Value.slice A n cp).ownBlock = some g ∨ g = W.heap.size) → g < w'.heap.size → K (a.put o.dst (.slice (some ⟨g, 0, none⟩) (n + 1) cap)) w') :
    if Region.wanted o (yielded ops a.tmps) = true then Oper.wp Try.prog o a W K Q else E := by
  subst hn0
  obtain ⟨i0, hi0, hz0, hz1, hz2⟩ := info_parts set_info
  exact step_append_lies W hgd s y 25 ho base 37 i0 _ 2 32 Try.underlying25 hi0 hz0 hz1 hz2 rfl (by omega) _ l.length (cellsT l) hs hown ⟨blk, 0, none⟩ 1 1 (cellsT [x]) hx rfl
    (World.news_of_block (cs := #[.string x.1, .string x.2]) hn) (cellsT_one _) (by omega) (by unfold maxLen; omega) (by omega) hbase _ rfl (fun g cap w' h1 h2 h3 h4 => h g cap w' (by unfold OwnT; rw [cellsT_app, List.length_append]; exact h1) h2 h3 h4)

theorem OwnT.alloc {w : World} {base : Nat} {v : Value} {l : List Set1} (h : OwnT w base v l) (o : Obj) : OwnT (w.alloc o) base v l := h.below ((Below.refl _ _).alloc (Nat.le_refl _) o)
theorem OwnT.drew {w : World} {base : Nat} {v : Value} {l : List Set1} (h : OwnT w base v l) : OwnT w.drew base v l := World.ownsRow.drew h
theorem heap_new2 (w : World) (o p : Obj) : (((w.alloc o).alloc p).drew).heap[w.heap.size + 1]? = some p := by
  have h := heap_alloc_new (w.alloc o) p
  rwa [show (w.alloc o).heap.size = w.heap.size + 1 by simp] at h
theorem belowT {B : Nat} {w wr w1 : World} {v : Value} {l : List Set1} {base : Nat} (hbel : Below B w wr) (hB : B ≤ w.heap.size) (hown : OwnT wr base v l) (hb : B ≤ base) (hg : wr.grownBy w1 v.ownBlock) : Below B w w1 :=
  hbel.grown hg (Nat.le_trans hB hbel.size) (fun k hk => Nat.le_trans hb (hown.lt k hk).1)

set_option maxRecDepth 100000 in
set_option maxHeartbeats 1600000 in
theorem usual_any (w : World) (v : Value) (l : List Var) (h : Vars w v l) (hl : l.length ≤ 60000) :
    Calls Try.prog 21 #[v] w fun e w' => ∃ A n c, e = .returned (.slice A n c) ∧ OwnT w' w.heap.size (.slice A n c) (usualB l) ∧ Below w.heap.size w w' := by
  have h' := h
  obtain ⟨A, L, c, rfl, hL, h1, h2, h3⟩ := h'.open'
  unfold maxLen at h2
  have hL60 : L ≤ 60000 := by omega
  have HA := Lib.hid h
  have HL := Lib.hid hL
  have H3 := Lib.hid h3
  clear h h' hL h3 hl
  go_enter Try.func21, Try.ntmps21
  go_wp2
  go_loopw [3, 8] (fun t i wr => ∃ (k : Nat) (T : Option Addr) (n cp : Nat), k ≤ L ∧ i = .int .i64 k ∧ t = .slice T n cp ∧ n ≤ k ∧ n = (usualB (l.take k)).length ∧ OwnT wr w.heap.size (.slice T n cp) (usualB (l.take k)) ∧ Below w.heap.size w wr) (fun _ i _ => L - (intOf i).toNat)
  case atStart => exact ⟨0, none, 0, 0, Nat.zero_le _, rfl, rfl, Nat.le_refl _, by simp [usualB], by simpa [usualB] using own_nilT _ _, Below.refl _ _⟩
  case round =>
    obtain ⟨k, T, n, cp, hk, rfl, rfl, hnk, hn, hown, hbw⟩ := hrel
    have HN := Lib.hid hn
    have HO := Lib.hid hown
    clear hn hown
    by_cases hlt : k < L
    · obtain ⟨b, off, rfl, hb, hc⟩ := H3.out (by omega)
      obtain ⟨g1, ⟨u, g2, g3⟩, g4⟩ := hc k hlt
      obtain ⟨A1, L1, c1, rfl, hL1, g5, g6, g7⟩ := g3.open'
      have q1 := (hbw.cell (p := ⟨b, off + k * 2, none⟩) hb).trans g1
      have q2 := (hbw.cell (p := ⟨b, off + k * 2 + 1, none⟩) hb).trans g2
      have hkl : k < l.length := by rw [← HL.out]; exact hlt
      have hbw1 : Below w.heap.size w (wr.alloc (.cells #[.string (nthV l k).1, .slice A1 L1 c1] 35)) := hbw.alloc hbw.size _
      have hs := usual_snoc hkl
      have HS := Lib.hid hs
      have HBW := Lib.hid hbw1
      have HL1 := Lib.hid hL1
      have hwz := hbw.size
      clear hc g1 g2 g3 hs hbw hbw1 hL1
      by_cases h0 : L1 = 0
      · subst h0
        have hn : usualB (l.take (k + 1)) = usualB (l.take k) := by rw [HS.out, if_pos HL1.out.symm]; simp
        have HNN := Lib.hid hn
        clear hn hkl g7
        go_wp2
        go_roundw
        case rel => exact ⟨k + 1, T, n, cp, by omega, by go_num, rfl, by omega, by rw [HNN.out]; exact HN.out, by rw [HNN.out]; exact HO.out.below ((Below.refl _ _).alloc (Nat.le_refl _) _), HBW.out⟩
        case measure => simp [intOf]; omega
      · have hpos : (0 : Int) < (L1 : Int) := by omega
        obtain ⟨b1, o1, rfl, hb1, hc1⟩ := g7 (by omega)
        obtain ⟨r1, r2⟩ := hc1 0 (by omega)
        rw [Nat.add_zero] at r1
        have r3 := (HBW.out.cell (p := ⟨b1, o1, none⟩) hb1).trans r1
        have hn : usualB (l.take (k + 1)) = usualB (l.take k) ++ [((nthV l k).1, nthS (nthV l k).2 0)] := by rw [HS.out, if_neg (by rw [← HL1.out]; exact h0)]
        have HNN := Lib.hid hn
        have hnew := heap_alloc_new wr (.cells #[.string (nthV l k).1, .slice (some ⟨b1, o1, none⟩) L1 c1] 35)
        have x0 := cells_get hnew 0 (v := .string (nthV l k).1) rfl
        have x1 := cells_get hnew 1 (v := .slice (some ⟨b1, o1, none⟩) L1 c1) rfl
        clear hn hkl hc1 r1 h0 hnew
        go_wp2
        clear q1 q2
        have hs2 : w.heap.size ≤ (((wr.alloc (.cells #[.string (nthV l k).1, .slice (some ⟨b1, o1, none⟩) L1 c1] 35)).alloc (.cells #[.string (nthV l k).1, .string (nthS (nthV l k).2 0)] 37)).drew).heap.size := by simp; omega
        go_region_law (refine appT_step (W := (((wr.alloc (.cells #[.string (nthV l k).1, .slice (some ⟨b1, o1, none⟩) L1 c1] 35)).alloc (.cells #[.string (nthV l k).1, .string (nthS (nthV l k).2 0)] 37)).drew)) (base := w.heap.size) (l := usualB (l.take k)) ((nthV l k).1, nthS (nthV l k).2 0) (.tmp 16) (.tmp 24) rfl rfl rfl ((HO.out.alloc _).alloc _).drew HN.out rfl (heap_new2 _ _ _) (by omega) hs2 ?_; intro gg cap3 w3 hown3 hgrow3 hat3 hlt3; have Hown3 := Lib.hid hown3; have Hgr3 := Lib.hid hgrow3; clear hown3 hgrow3)
        all_goals
          go_wp2
          go_roundw
          case rel => exact ⟨k + 1, some ⟨gg, 0, none⟩, n + 1, cap3, by omega, by go_num, rfl, by omega, by rw [HNN.out, List.length_append, ← HN.out]; rfl, by rw [HNN.out]; exact Hown3.out,
            belowT ((HBW.out.alloc HBW.out.size _).drew) (Nat.le_refl _) ((HO.out.alloc _).alloc _).drew (Nat.le_refl _) Hgr3.out⟩
          case measure => simp [intOf]; omega
    · obtain rfl : k = L := by omega
      go_wp2
      go_ret
      have hO := HO.out
      rw [HL.out, List.take_length] at hO
      exact ⟨_, _, _, rfl, hO, hbw⟩

end Go.Proofs.Ytbdceeecngibmaa.Va
