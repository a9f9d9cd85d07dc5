/- The document's Legal. -/
import Derived.Test.YtaahdhpljlkfjaaGreatZg10
import Derived.Test.YtaahdhpljlkfjaaGreatZg06
import Derived.Deep.Upon
import Derived.Lib.AppendZeros
import Derived.Lib.AppendZerosOnto
namespace Go.Proofs.YtaahdhpljlkfjaaGreat.Va
open Go.RowKit

def legalP (l : List Var) (s : List Set1) (i : Nat) : Bool := eqS (nthV l i).1 (nthT s i).1 && hasS (nthV l i).2 (nthT s i).2
def legalB (l : List Var) (s : List Set1) : Bool := decide (l.length = s.length) && (List.range l.length).all (legalP l s)

theorem hasS_snoc {l : List ByteArray} {k : Nat} (hk : k < l.length) (x : ByteArray) : hasS (l.take (k + 1)) x = (hasS (l.take k) x || eqS (nthS l k) x) := by
  rw [hasS_comm, hasS_comm, any_snocS hk]

end Go.Proofs.YtaahdhpljlkfjaaGreat.Va

/- The walk of Usual: the settings with the usual values. -/
namespace Go.Proofs.YtaahdhpljlkfjaaGreat.Va
open Go.RowKit

def usualB (l : List Var) : List Set1 := l.filterMap fun v => match v.2 with | [] => none | x :: _ => some (v.1, x)
theorem usual_snoc {l : List Var} {k : Nat} (hk : k < l.length) : usualB (l.take (k + 1)) = usualB (l.take k) ++ (if (nthV l k).2.length = 0 then [] else [((nthV l k).1, nthS (nthV l k).2 0)]) := by
  unfold usualB
  rw [List.take_succ_eq_append_getElem hk, List.filterMap_append, nthV_lt hk]
  congr 1
  cases h : l[k].2 with
  | nil => simp [h]
  | cons x r => simp [h, nthS]
theorem usual_len (l : List Var) (k : Nat) : (usualB (l.take k)).length ≤ k := by
  unfold usualB
  exact Nat.le_trans (List.length_filterMap_le _ _) (by rw [List.length_take]; omega)

/-- A setting is appended to a row of the call's own, in a region that draws. -/
theorem appT_step {ops : Array Oper} {o : Oper} {a : Act} {K : Act → World → Prop} {Q : Exit → Act → World → Prop} {E : Prop} {W : World} {base n blk cp : Nat} {A : Option Addr} {l : List Set1} (x : Set1) (s y : Operand)
    (hgd : o.guard = none) (ho : o.op = .call { callee := .builtin .append, args := #[s, y], argTypes := #[57, 57] })
    (hs : a.eval s = .slice A n cp) (hown : OwnT W base (.slice A n cp) l) (hn0 : n = l.length) (hx : a.eval y = .slice (some ⟨blk, 0, none⟩) 1 1)
    (hn : W.heap[blk]? = some (.cells #[.string x.1, .string x.2] 94 (0, 0))) (hsz : n ≤ 65536) (hbase : base ≤ W.heap.size)
    (h : ∀ g cap w', OwnT w' base (.slice (some ⟨g, 0, none⟩) (n + 1) cap) (l ++ [x]) → W.grownBy w' (Value.slice A n cp).ownBlock → ((Value.slice A n cp).ownBlock = some g ∨ g = W.heap.size) → g < w'.heap.size → K (a.put o.dst (.slice (some ⟨g, 0, none⟩) (n + 1) cap)) w') :
    if Region.wanted o (yielded ops a.tmps) = true then Oper.wp Tryz.prog o a W K Q else E := by
  subst hn0
  obtain ⟨i0, hi0, hz0, hz1, hz2⟩ := info_parts set_info
  exact step_append_lies W hgd s y 57 ho base 94 i0 _ 2 32 Tryz.underlying57 hi0 hz0 hz1 hz2 rfl (by omega) _ l.length (cellsT l) hs hown ⟨blk, 0, none⟩ 1 1 (cellsT [x]) hx rfl
    (World.news_of_block (cs := #[.string x.1, .string x.2]) hn) (cellsT_one _) (by omega) (by unfold maxLen; omega) (by omega) hbase _ rfl (fun g cap w' h1 h2 h3 h4 => h g cap w' (by unfold OwnT; rw [cellsT_app, List.length_append]; exact h1) h2 h3 h4)

theorem OwnT.alloc {w : World} {base : Nat} {v : Value} {l : List Set1} (h : OwnT w base v l) (o : Obj) : OwnT (w.alloc o) base v l := h.below ((Below.refl _ _).alloc (Nat.le_refl _) o)
theorem OwnT.drew {w : World} {base : Nat} {v : Value} {l : List Set1} (h : OwnT w base v l) : OwnT w.drew base v l := World.ownsRow.drew h
theorem heap_new2 (w : World) (o p : Obj) : (((w.alloc o).alloc p).drew).heap[w.heap.size + 1]? = some p := by
  have h := heap_alloc_new (w.alloc o) p
  rwa [show (w.alloc o).heap.size = w.heap.size + 1 by simp] at h
theorem belowT {B : Nat} {w wr w1 : World} {v : Value} {l : List Set1} {base : Nat} (hbel : Below B w wr) (hB : B ≤ w.heap.size) (hown : OwnT wr base v l) (hb : B ≤ base) (hg : wr.grownBy w1 v.ownBlock) : Below B w w1 :=
  hbel.grown hg (Nat.le_trans hB hbel.size) (fun k hk => Nat.le_trans hb (hown.lt k hk).1)

set_option maxRecDepth 100000 in
set_option maxHeartbeats 1600000 in
theorem usual_any (w : World) (v : Value) (l : List Var) (h : Vars w v l) (hl : l.length ≤ 60000) :
    Calls Tryz.prog 50 #[v] w fun e w' => ∃ A n c, e = .returned (.slice A n c) ∧ OwnT w' w.heap.size (.slice A n c) (usualB l) ∧ Below w.heap.size w w' := by
  have h' := h
  obtain ⟨A, L, c, rfl, hL, h1, h2, h3⟩ := h'.open'
  unfold maxLen at h2
  have hL60 : L ≤ 60000 := by omega
  have HA := Lib.hid h
  have HL := Lib.hid hL
  have H3 := Lib.hid h3
  clear h h' hL h3 hl
  go_enter Tryz.func50, Tryz.ntmps50
  go_wp2
  go_loopw [3, 8] (fun t i wr => ∃ (k : Nat) (T : Option Addr) (n cp : Nat), k ≤ L ∧ i = .int .i64 k ∧ t = .slice T n cp ∧ n ≤ k ∧ n = (usualB (l.take k)).length ∧ OwnT wr w.heap.size (.slice T n cp) (usualB (l.take k)) ∧ Below w.heap.size w wr) (fun _ i _ => L - (RowKit.intOf i).toNat)
  case atStart => exact ⟨0, none, 0, 0, Nat.zero_le _, rfl, rfl, Nat.le_refl _, by simp [usualB], by simpa [usualB] using own_nilT _ _, Below.refl _ _⟩
  case round =>
    obtain ⟨k, T, n, cp, hk, rfl, rfl, hnk, hn, hown, hbw⟩ := hrel
    have HN := Lib.hid hn
    have HO := Lib.hid hown
    clear hn hown
    by_cases hlt : k < L
    · obtain ⟨b, off, rfl, hb, hc⟩ := H3.out (by omega)
      obtain ⟨g1, ⟨u, g2, g3⟩, g4⟩ := hc k hlt
      obtain ⟨A1, L1, c1, rfl, hL1, g5, g6, g7⟩ := g3.open'
      have q1 := (hbw.cell (p := ⟨b, off + k * 2, none⟩) hb).trans g1
      have q2 := (hbw.cell (p := ⟨b, off + k * 2 + 1, none⟩) hb).trans g2
      have hkl : k < l.length := by rw [← HL.out]; exact hlt
      have hbw1 : Below w.heap.size w (wr.alloc (.cells #[.string (nthV l k).1, .slice A1 L1 c1] 88)) := hbw.alloc hbw.size _
      have hs := usual_snoc hkl
      have HS := Lib.hid hs
      have HBW := Lib.hid hbw1
      have HL1 := Lib.hid hL1
      have hwz := hbw.size
      clear hc g1 g2 g3 hs hbw hbw1 hL1
      by_cases h0 : L1 = 0
      · subst h0
        have hn : usualB (l.take (k + 1)) = usualB (l.take k) := by rw [HS.out, if_pos HL1.out.symm]; simp
        have HNN := Lib.hid hn
        clear hn hkl g7
        go_wp2
        go_roundw
        case rel => exact ⟨k + 1, T, n, cp, by omega, by go_num, rfl, by omega, by rw [HNN.out]; exact HN.out, by rw [HNN.out]; exact HO.out.below ((Below.refl _ _).alloc (Nat.le_refl _) _), HBW.out⟩
        case measure => simp [RowKit.intOf]; omega
      · have hpos : (0 : Int) < (L1 : Int) := by omega
        obtain ⟨b1, o1, rfl, hb1, hc1⟩ := g7 (by omega)
        obtain ⟨r1, r2⟩ := hc1 0 (by omega)
        rw [Nat.add_zero] at r1
        have r3 := (HBW.out.cell (p := ⟨b1, o1, none⟩) hb1).trans r1
        have hn : usualB (l.take (k + 1)) = usualB (l.take k) ++ [((nthV l k).1, nthS (nthV l k).2 0)] := by rw [HS.out, if_neg (by rw [← HL1.out]; exact h0)]
        have HNN := Lib.hid hn
        have hnew := heap_alloc_new wr (.cells #[.string (nthV l k).1, .slice (some ⟨b1, o1, none⟩) L1 c1] 88)
        have x0 := cells_get hnew 0 (v := .string (nthV l k).1) rfl
        have x1 := cells_get hnew 1 (v := .slice (some ⟨b1, o1, none⟩) L1 c1) rfl
        clear hn hkl hc1 r1 h0 hnew
        go_wp2
        clear q1 q2
        have hs2 : w.heap.size ≤ (((wr.alloc (.cells #[.string (nthV l k).1, .slice (some ⟨b1, o1, none⟩) L1 c1] 88)).alloc (.cells #[.string (nthV l k).1, .string (nthS (nthV l k).2 0)] 94)).drew).heap.size := by simp; omega
        go_region_law (refine appT_step (W := (((wr.alloc (.cells #[.string (nthV l k).1, .slice (some ⟨b1, o1, none⟩) L1 c1] 88)).alloc (.cells #[.string (nthV l k).1, .string (nthS (nthV l k).2 0)] 94)).drew)) (base := w.heap.size) (l := usualB (l.take k)) ((nthV l k).1, nthS (nthV l k).2 0) (.tmp 16) (.tmp 24) rfl rfl rfl ((HO.out.alloc _).alloc _).drew HN.out rfl (heap_new2 _ _ _) (by omega) hs2 ?_; intro gg cap3 w3 hown3 hgrow3 hat3 hlt3; have Hown3 := Lib.hid hown3; have Hgr3 := Lib.hid hgrow3; clear hown3 hgrow3)
        all_goals
          go_wp2
          go_roundw
          case rel => exact ⟨k + 1, some ⟨gg, 0, none⟩, n + 1, cap3, by omega, by go_num, rfl, by omega, by rw [HNN.out, List.length_append, ← HN.out]; rfl, by rw [HNN.out]; exact Hown3.out,
            belowT ((HBW.out.alloc HBW.out.size _).drew) (Nat.le_refl _) ((HO.out.alloc _).alloc _).drew (Nat.le_refl _) Hgr3.out⟩
          case measure => simp [RowKit.intOf]; omega
    · obtain rfl : k = L := by omega
      go_wp2
      go_ret
      have hO := HO.out
      rw [HL.out, List.take_length] at hO
      exact ⟨_, _, _, rfl, hO, hbw⟩

end Go.Proofs.YtaahdhpljlkfjaaGreat.Va

/- slices.Contains over settings; among; Meets. -/
namespace Go.Proofs.YtaahdhpljlkfjaaGreat.Va
open Go.RowKit

def eqT (a b : Set1) : Bool := eqS a.1 b.1 && eqS a.2 b.2
def hasT (l : List Set1) (x : Set1) : Bool := l.any (eqT x)
theorem any_snocT {l : List Set1} {k : Nat} (hk : k < l.length) (p : Set1 → Bool) : (l.take (k + 1)).any p = ((l.take k).any p || p (nthT l k)) := by
  rw [List.take_succ_eq_append_getElem hk, List.any_append, nthT_lt hk]; simp
theorem any_atT {l : List Set1} {k : Nat} (hk : k < l.length) {p : Set1 → Bool} (h : p (nthT l k) = true) : l.any p = true :=
  List.any_eq_true.2 ⟨_, nthT_mem hk, h⟩

set_option maxRecDepth 100000 in
set_option maxHeartbeats 800000 in
theorem indexT_any (w : World) (v : Value) (l : List Set1) (x y : ByteArray) (h : Sets w v l) :
    Calls Tryz.prog 98 #[v, .agg #[.string x, .string y]] w fun e w' => (∃ n : Int, e = .returned (.int .i64 n) ∧ decide (0 ≤ n) = hasT l (x, y)) ∧ Below w.heap.size w w' := by
  obtain ⟨A, L, c, rfl, hL, h1, h2, h3⟩ := h.open'
  unfold maxLen at h2
  have HL := Lib.hid hL
  have H3 := Lib.hid h3
  have hb0 : Below w.heap.size w (w.alloc (.cells #[.string x, .string y] 94)) := (Below.refl _ _).alloc (Nat.le_refl _) _
  have hnew := heap_alloc_new w (.cells #[.string x, .string y] 94)
  have HB0 := Lib.hid hb0
  have HNEW := Lib.hid hnew
  clear h hL h3 hb0 hnew
  go_enter Tryz.func98, Tryz.ntmps98
  go_wp2
  go_loopw [8] (fun i wr => ∃ k : Nat, k ≤ L ∧ i = .int .i64 k ∧ Hid ((l.take k).any (eqT (x, y)) = false) ∧ Below (w.heap.size + 1) (w.alloc (.cells #[.string x, .string y] 94)) wr) (fun i _ => L - (RowKit.intOf i).toNat)
  case atStart => exact ⟨0, Nat.zero_le _, rfl, Lib.hid (by simp), Below.refl _ _⟩
  case round =>
    obtain ⟨k, hk, rfl, hall, hbw⟩ := hrel
    have HBW := Lib.hid hbw
    by_cases hlt : k < L
    · obtain ⟨b, off, rfl, hb, hc⟩ := H3.out (by omega)
      have c0 := (hbw.cell (p := ⟨b, off + k * 2, none⟩) (by simp; omega)).trans ((HB0.out.cell (p := ⟨b, off + k * 2, none⟩) hb).trans (hc k hlt).1)
      have c1 := (hbw.cell (p := ⟨b, off + k * 2 + 1, none⟩) (by simp; omega)).trans ((HB0.out.cell (p := ⟨b, off + k * 2 + 1, none⟩) hb).trans (hc k hlt).2.1)
      have x0 := (hbw.cell (p := ⟨w.heap.size, 0, none⟩) (by simp)).trans (cells_get HNEW.out 0 (v := .string x) rfl)
      have x1 := (hbw.cell (p := ⟨w.heap.size, 1, none⟩) (by simp)).trans (cells_get HNEW.out 1 (v := .string y) rfl)
      have hkl : k < l.length := by rw [← HL.out]; exact hlt
      have HS := Lib.hid (any_snocT hkl (eqT (x, y)))
      have k0 : (0 : Int) ≤ (k : Int) := by omega
      have k1 : (k : Int) < (L : Int) := by omega
      clear hc hbw
      cases he : eqS x (nthT l k).1 with
      | false =>
        have hn : Hid ((l.take (k + 1)).any (eqT (x, y)) = false) := Lib.hid (by rw [HS.out, hall.out]; unfold eqT; rw [he]; rfl)
        have e2 : (x.toList == (nthT l k).1.toList) = false := he
        clear he hkl
        go_wp2_with fail
        go_quiet (fail)
        go_wp2
        go_roundw
        case rel => exact ⟨k + 1, by omega, by go_num, hn, below_draws HBW.out _⟩
        case measure => simp [RowKit.intOf]; omega
      | true =>
        have e2 : (x.toList == (nthT l k).1.toList) = true := he
        cases he' : eqS y (nthT l k).2 with
        | false =>
          have hn : Hid ((l.take (k + 1)).any (eqT (x, y)) = false) := Lib.hid (by rw [HS.out, hall.out]; unfold eqT; rw [he, he']; rfl)
          have e3 : (y.toList == (nthT l k).2.toList) = false := he'
          clear he he' hkl
          go_wp2_with fail
          go_quiet (fail)
          go_wp2
          go_roundw
          case rel => exact ⟨k + 1, by omega, by go_num, hn, below_draws HBW.out _⟩
          case measure => simp [RowKit.intOf]; omega
        | true =>
          have Hv := Lib.hid (show hasT l (x, y) = true from any_atT hkl (by unfold eqT; rw [he, he']; rfl))
          have e3 : (y.toList == (nthT l k).2.toList) = true := he'
          clear he he' hkl
          go_wp2_with fail
          go_quiet (fail)
          go_wp2
          go_ret
          exact ⟨⟨k, rfl, by rw [Hv.out]; simp⟩, HB0.out.trans (below_draws (HBW.out.mono (by omega)) _)⟩
    · obtain rfl : k = L := by omega
      have Hv := Lib.hid (show hasT l (x, y) = false by
        have := hall.out
        rw [HL.out, List.take_length] at this
        exact this)
      clear hbw
      go_wp2
      go_ret
      exact ⟨⟨-1, rfl, by rw [Hv.out]; rfl⟩, HB0.out.trans (HBW.out.mono (by omega))⟩

theorem containsT_any (w : World) (v : Value) (l : List Set1) (x y : ByteArray) (h : Sets w v l) :
    Calls Tryz.prog 73 #[v, .agg #[.string x, .string y]] w fun e w' => e = .returned (.bool (hasT l (x, y))) ∧ Below w.heap.size w w' := by
  have hb0 : Below w.heap.size w (w.alloc (.cells #[.string x, .string y] 94)) := (Below.refl _ _).alloc (Nat.le_refl _) _
  have H := Lib.hid (h.below hb0 (Nat.le_refl _))
  have HB0 := Lib.hid hb0
  clear h hb0
  go_enter Tryz.func73, Tryz.ntmps73
  go_wp2_with fail
  refine (indexT_any _ v l x y H.out).mono ?_
  rintro e w' ⟨⟨n, rfl, hn⟩, hb⟩
  have HN := Lib.hid hn
  have HB := Lib.hid (HB0.out.trans (hb.mono HB0.out.size))
  clear hn hb
  go_wp2
  go_ret
  exact ⟨by rw [← HN.out]; rfl, HB.out⟩

/-- The function that among makes: its block P holds the slice. -/
theorem amongC_any (w : World) (v : Value) (l : List Set1) (x y : ByteArray) (P : Nat) (h : Sets w v l) (hP : w.cell? ⟨P, 0, none⟩ = some v) :
    Calls Tryz.prog 72 #[.agg #[.string x, .string y], .pointer (some ⟨P, 0, none⟩)] w fun e w' => e = .returned (.bool (hasT l (x, y))) ∧ Below w.heap.size w w' := by
  have hb0 : Below w.heap.size w (w.alloc (.cells #[.string x, .string y] 94)) := (Below.refl _ _).alloc (Nat.le_refl _) _
  have H := Lib.hid (h.below hb0 (Nat.le_refl _))
  have HB0 := Lib.hid hb0
  have hlp := World.block_lt_of_cell? w _ hP
  have hp1 := (hb0.cell (p := ⟨P, 0, none⟩) hlp).trans hP
  obtain ⟨A, L, c, rfl, h2⟩ := h.open'
  clear hb0 hP h2 h
  go_enter Tryz.func72, Tryz.ntmps72
  go_wp2_with fail
  refine (containsT_any _ _ l x y H.out).mono ?_
  rintro e w' ⟨rfl, hb⟩
  have HB := Lib.hid (HB0.out.trans (hb.mono HB0.out.size))
  clear hb
  go_wp2
  go_ret
  exact ⟨rfl, HB.out⟩

theorem among_any (w : World) (v : Value) (l : List Set1) (h : Sets w v l) :
    Calls Tryz.prog 49 #[v] w fun e w' => e = .returned (.func (.func 72) #[] #[.pointer (some ⟨w.heap.size, 0, none⟩)]) ∧ w'.heap.size = w.heap.size + 1 ∧ w'.cell? ⟨w.heap.size, 0, none⟩ = some v ∧ Below w.heap.size w w' := by
  obtain ⟨A, L, c, rfl, h2⟩ := h.open'
  clear h h2
  go_enter Tryz.func49, Tryz.ntmps49
  go_wp2
  go_ret
  exact ⟨rfl, by simp, cells_get (heap_alloc_new w _) 0 rfl, (Below.refl _ _).alloc (Nat.le_refl _) _⟩

def meetsB (s wish : List Set1) : Bool := wish.all (hasT s)
theorem meets_snoc {l : List Set1} {k : Nat} (hk : k < l.length) (s : List Set1) : meetsB s (l.take (k + 1)) = (meetsB s (l.take k) && hasT s (nthT l k)) := by
  unfold meetsB
  rw [List.take_succ_eq_append_getElem hk, List.all_append, nthT_lt hk]; simp

set_option maxRecDepth 100000 in
set_option maxHeartbeats 800000 in
theorem meets_any (w : World) (v u : Value) (s wish : List Set1) (h : Sets w v s) (hw : Sets w u wish) :
    Calls Tryz.prog 101 #[v, u] w fun e w' => e = .returned (.bool (meetsB s wish)) ∧ Below w.heap.size w w' := by
  obtain ⟨A, L, c, rfl, hL, h1, h2, h3⟩ := hw.open'
  unfold maxLen at h2
  have HL := Lib.hid hL
  have H3 := Lib.hid h3
  have HS := Lib.hid h
  obtain ⟨As, Ls, cs, rfl, hs2⟩ := h.open'
  clear h hL h3 hw hs2
  go_enter Tryz.func101, Tryz.ntmps101
  go_wp2_with fail
  refine (among_any w _ s HS.out).mono ?_
  rintro e w1 ⟨rfl, hz1, hp1, hb1⟩
  have HP1 := Lib.hid hp1
  have HB1 := Lib.hid hb1
  have hz : w.heap.size < w1.heap.size := by omega
  clear hz1 hp1 hb1
  go_wp2
  go_loopw [12] (fun i wr => ∃ k : Nat, k ≤ L ∧ i = .int .i64 k ∧ Hid (meetsB s (wish.take k) = true) ∧ Below w1.heap.size w1 wr) (fun i _ => L - (RowKit.intOf i).toNat)
  case atStart => exact ⟨0, Nat.zero_le _, rfl, Lib.hid (by simp [meetsB]), Below.refl _ _⟩
  case round =>
    obtain ⟨k, hk, rfl, hall, hbw⟩ := hrel
    have HBW := Lib.hid hbw
    have HBT := Lib.hid (HB1.out.trans (hbw.mono HB1.out.size))
    by_cases hlt : k < L
    · obtain ⟨b, off, rfl, hb, hc⟩ := H3.out (by omega)
      have c0 := (HBT.out.cell (p := ⟨b, off + k * 2, none⟩) hb).trans (hc k hlt).1
      have c1 := (HBT.out.cell (p := ⟨b, off + k * 2 + 1, none⟩) hb).trans (hc k hlt).2.1
      have hkl : k < wish.length := by rw [← HL.out]; exact hlt
      have HSN := Lib.hid (meets_snoc hkl s)
      have hbA : Below w1.heap.size w1 (wr.alloc (.cells #[.string (nthT wish k).1, .string (nthT wish k).2] 94)) := hbw.alloc hbw.size _
      have hbT : Below w.heap.size w (wr.alloc (.cells #[.string (nthT wish k).1, .string (nthT wish k).2] 94)) := HB1.out.trans (hbA.mono HB1.out.size)
      have HP2 := Lib.hid ((hbA.cell (p := ⟨w.heap.size, 0, none⟩) hz).trans HP1.out)
      have HS2 := Lib.hid (HS.out.below hbT (Nat.le_refl _))
      have HBA := Lib.hid hbA
      clear hc hbw hkl hbA hbT
      go_wp2_with fail
      refine (amongC_any _ _ s _ _ w.heap.size HS2.out HP2.out).mono ?_
      rintro e w3 ⟨rfl, hb3⟩
      have HB3 := Lib.hid (HBA.out.trans (hb3.mono HBA.out.size))
      clear hb3 c0 c1
      cases hh : hasT s ((nthT wish k).1, (nthT wish k).2) with
      | false =>
        have Hv := Lib.hid (show meetsB s wish = false by
          unfold meetsB
          exact List.all_eq_false.2 ⟨nthT wish k, nthT_mem (by rw [← HL.out]; exact hlt), by rw [show nthT wish k = ((nthT wish k).1, (nthT wish k).2) from rfl, hh]; simp⟩)
        clear hh
        go_wp2
        go_ret
        exact ⟨by rw [Hv.out]; rfl, HB1.out.trans (HB3.out.mono HB1.out.size)⟩
      | true =>
        have hn : Hid (meetsB s (wish.take (k + 1)) = true) := Lib.hid (by rw [HSN.out, hall.out, show nthT wish k = ((nthT wish k).1, (nthT wish k).2) from rfl, hh]; rfl)
        clear hh
        go_wp2
        go_roundw
        case rel => exact ⟨k + 1, by omega, by go_num, hn, HB3.out⟩
        case measure => simp [RowKit.intOf]; omega
    · obtain rfl : k = L := by omega
      have Hv := Lib.hid (show meetsB s wish = true by
        have := hall.out
        rwa [HL.out, List.take_length] at this)
      clear hbw
      go_wp2
      go_ret
      exact ⟨by rw [Hv.out]; rfl, HBT.out⟩

end Go.Proofs.YtaahdhpljlkfjaaGreat.Va

/- slices.Concat of rows of settings. -/
namespace Go.Proofs.YtaahdhpljlkfjaaGreat.Va
open Go.RowKit

def nthG (l : List (List Set1)) (i : Nat) : List Set1 := l[i]?.getD []
theorem nthG_lt {l : List (List Set1)} {i : Nat} (h : i < l.length) : nthG l i = l[i] := by unfold nthG; rw [List.getElem?_eq_getElem h]; rfl

/-- Rows of settings that lie in memory. -/
def Grid (w : World) (v : Value) (ls : List (List Set1)) : Prop :=
  ∃ A c, v = .slice A ls.length c ∧ ls.length ≤ c ∧ c ≤ maxLen ∧ (0 < ls.length → ∃ b off, A = some ⟨b, off, none⟩ ∧ b < w.heap.size ∧ ∀ j, j < ls.length → ∃ u, w.cell? ⟨b, off + j, none⟩ = some u ∧ Sets w u (nthG ls j))
theorem Grid.below {w w' : World} {B : Nat} {v : Value} {l : List (List Set1)} (h : Grid w v l) (hb : Below B w w') (hB : w.heap.size ≤ B) : Grid w' v l := by
  obtain ⟨A, c, e, h1, h2, h3⟩ := h
  refine ⟨A, c, e, h1, h2, fun hp => ?_⟩
  obtain ⟨b, off, ha, hlt, hc⟩ := h3 hp
  refine ⟨b, off, ha, Nat.lt_of_lt_of_le hlt hb.size, fun j hj => ?_⟩
  obtain ⟨u, g1, g2⟩ := hc j hj
  exact ⟨u, (hb.cell (p := ⟨b, off + j, none⟩) (by simp; omega)).trans g1, g2.below hb hB⟩
theorem Grid.open' {w : World} {v : Value} {ls : List (List Set1)} (h : Grid w v ls) : ∃ A L c, v = .slice A L c ∧ L = ls.length ∧ L ≤ c ∧ c ≤ maxLen ∧
   (0 < L → ∃ b off, A = some ⟨b, off, none⟩ ∧ b < w.heap.size ∧ ∀ j, j < L → ∃ u, w.cell? ⟨b, off + j, none⟩ = some u ∧ Sets w u (nthG ls j)) := by
  obtain ⟨A, c, e, h1, h2, h3⟩ := h
  exact ⟨A, _, c, e, rfl, h1, h2, h3⟩

theorem cells_at {w : World} {A : Option Addr} {L c : Nat} {l : List Set1} (h : Sets w (.slice A L c) l) (hl : 0 < L) : ∃ b off, A = some ⟨b, off, none⟩ ∧ ∀ j u, (cellsT l)[j]? = some u → w.cell? ⟨b, off + j, none⟩ = some u := by
  obtain ⟨A', c', e, h1, h2, h3⟩ := h
  injection e with e1 e2 e3
  subst e1; subst e3; subst e2
  obtain ⟨b, off, ha, hlt, hc⟩ := h3 hl
  refine ⟨b, off, ha, fun j u hu => ?_⟩
  have hj : j < l.length * 2 := by have := (List.getElem?_eq_some_iff.1 hu).1; rwa [cellsT_len] at this
  obtain ⟨q1, q2⟩ := cellsT_get l (j / 2) (by omega)
  obtain ⟨r1, r2, _⟩ := hc (j / 2) (by omega)
  rcases Nat.mod_two_eq_zero_or_one j with hm | hm
  · have e : j / 2 * 2 = j := by omega
    rw [e] at q1 r1
    rw [hu] at q1
    injection q1 with q1
    rw [q1]; exact r1
  · have e : j / 2 * 2 + 1 = j := by omega
    have e' : off + j / 2 * 2 + 1 = off + j := by omega
    rw [e] at q2
    rw [e'] at r2
    rw [hu] at q2
    injection q2 with q2
    rw [q2]; exact r2

theorem run_appendT_row (w : World) (base : Nat) (v x : Value) (xs zs : List Set1) (hown : OwnT w base v xs) (hr : Sets w x zs) (hl : xs.length + zs.length ≤ 200000) (hbase : base ≤ w.heap.size) :
    ∃ v' w', (Builtin.append_ #[57, 57] 57 #[v, x]).run Tryz.prog w = .ok v' w' ∧ OwnT w' base v' (xs ++ zs) ∧ w.grownBy w' v.ownBlock := by
  obtain ⟨i0, hi0, hz0, hz1, hz2⟩ := info_parts set_info
  have hr' := hr
  obtain ⟨A, c, rfl, h1, h2, h3⟩ := hr
  by_cases hz : zs.length = 0
  · have hz' : zs = [] := List.eq_nil_of_length_eq_zero hz
    subst hz'
    have hv : ∃ A n cp, v = .slice A n cp ∧ n ≤ cp := by
      rcases hown.2 with ⟨e, _⟩ | ⟨g, cap, cur, e, _, _, hle, _⟩
      · exact ⟨_, _, _, e, Nat.le_refl _⟩
      · exact ⟨_, _, _, e, hle⟩
    obtain ⟨A', n, cp, rfl, hle⟩ := hv
    have hs : Src Tryz.prog i0.size 57 (.slice A ([] : List Set1).length c) 0 [] w := by
      cases A with
      | none => exact Src.ofNil w Tryz.underlying57 c
      | some a => exact Src.ofSlice w Tryz.underlying57 a 0 c [] (by simp) (fun j u hu => by simp at hu) (by simp)
    exact ⟨_, w, run_append_nothing w 57 57 57 94 i0 Tryz.underlying57 hi0 A' n cp hle _ hs, by rw [List.append_nil]; exact hown, grown_refl w _⟩
  · obtain ⟨b, off, rfl, hc⟩ := cells_at hr' (by omega)
    obtain ⟨v', w', hrun, r1, r2, _, r4⟩ := run_append_own_at (P := Tryz.prog) w base 57 57 94 i0 _ 2 32 Tryz.underlying57 hi0 hz0 hz1 hz2 rfl (by omega) v xs.length (cellsT xs) hown ⟨b, off, none⟩ zs.length c (cellsT zs) (cellsT_len zs)
      (fun j u hu => by rw [Addr.add_mid]; exact hc j u hu) (cellsT_one zs) (by unfold maxLen; omega) (by omega) hbase
    refine ⟨v', w', hrun, ?_, r2⟩
    unfold OwnT
    rw [List.length_append, cellsT_app]
    exact r1

theorem wpList_appendT_row {ops : Array Oper} {rest : List Oper} {o : Oper} {a : Act} {Q : Exit → Act → World → Prop} (hgd : o.guard = none) (s y : Operand)
    (ho : o.op = .call { callee := .builtin .append, args := #[s, y], argTypes := #[57, 57] }) (hty : o.type = 57)
    {w : World} {base : Nat} {v x : Value} {xs zs : List Set1} (hs : a.eval s = v) (hx : a.eval y = x) (hown : OwnT w base v xs) (hr : Sets w x zs) (hl : xs.length + zs.length ≤ 200000) (hbase : base ≤ w.heap.size)
    (hK : ∀ A' L' c' w', OwnT w' base (.slice A' L' c') (xs ++ zs) → w.grownBy w' v.ownBlock → wpList Tryz.prog ops Q rest (a.put o.dst (.slice A' L' c')) w') : wpList Tryz.prog ops Q (o :: rest) a w := by
  refine wpList_plain hgd fun K hK' => ?_
  obtain ⟨v', w', hrun, r1, r2⟩ := run_appendT_row w base v x xs zs hown hr hl hbase
  obtain ⟨A', L', c', rfl⟩ : ∃ A n c, v' = .slice A n c := by
    obtain ⟨A, c, e⟩ := r1.slice
    exact ⟨_, _, _, e⟩
  unfold Oper.wp
  simp [execOp, ho, hty, resolve, invoke, builtin, hs, hx, hrun, Result.andThen]
  exact hK' _ _ (hK A' L' c' w' r1 r2)

theorem flat_take {ls : List (List Set1)} {k : Nat} (hk : k < ls.length) : (ls.take (k + 1)).flatten = (ls.take k).flatten ++ nthG ls k := by
  rw [List.take_succ_eq_append_getElem hk, nthG_lt hk, List.flatten_append]; simp only [List.flatten_cons, List.flatten_nil, List.append_nil]
theorem flat_le {ls : List (List Set1)} {k : Nat} : (ls.take k).flatten.length ≤ ls.flatten.length := by
  conv => rhs; rw [← List.take_append_drop k ls]
  simp only [List.flatten_append, List.length_append]; omega

end Go.Proofs.YtaahdhpljlkfjaaGreat.Va
