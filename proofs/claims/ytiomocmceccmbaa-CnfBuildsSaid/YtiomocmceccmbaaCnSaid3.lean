/- said: the operation 3; all of them. -/
import Derived.Test.YtiomocmceccmbaaCnSaid
namespace Go.Proofs.Ytiomocmceccmbaa.Cn
open Go.RowKit

/-- A row of rows and a row of numbers, both of the call's own. -/
structure Two (K : Nat → Prop) (w0 w : World) (v : Value) (us : List Value) (ls : List (List Int)) (t : Value) (ts : List Int) : Prop where
  out : Out K w0 w v us ls
  own : Own w w0.heap.size t ts
  rows : RowsOf w 0 (fun b => t.ownBlock = some b) us ls

theorem Two.below {K : Nat → Prop} {w0 w w' : World} {v t : Value} {us : List Value} {ls : List (List Int)} {ts : List Int} (h : Two K w0 w v us ls t ts) (hb : Below w.heap.size w w') : Two K w0 w' v us ls t ts := ⟨h.out.below hb, h.own.below hb, h.rows.below hb⟩
theorem Own.apartG {w : World} {base base' n : Nat} {t v : Value} {ts : List Int} {us : List Value} (h : Own w base t ts) (k : w.ownsRow base' 22 1 v n us) : ∀ g, t.ownBlock = some g → ¬ v.ownBlock = some g := by
  rcases h.2 with ⟨rfl, _⟩ | ⟨g, cap, cur, rfl, hg, hh, _⟩
  · intro g hg; cases hg
  · intro g' hg'
    simp [Value.ownBlock] at hg'
    subst hg'
    exact own_apart k hh (by decide)
theorem Two.add {K : Nat → Prop} {w0 W w' : World} {n cp L1 c1 n' c' : Nat} {A A1 A' : Option Addr} {t : Value} {us : List Value} {ls : List (List Int)} {z ts : List Int} (h : Two K w0 W (.slice A n cp) us ls t ts) (hr : Row W 0 (.slice A1 L1 c1) z)
    (hne : z ≠ [] → ∀ b, (Value.slice A1 L1 c1).ownBlock = some b → ¬ (Value.slice A n cp).ownBlock = some b) (hnt : z ≠ [] → ∀ b, (Value.slice A1 L1 c1).ownBlock = some b → ¬ t.ownBlock = some b)
    (ho : Out K w0 w' (.slice A' n' c') (us ++ [.slice A1 L1 c1]) (ls ++ [z])) (hg : W.grownBy w' (Value.slice A n cp).ownBlock) : Two K w0 w' (.slice A' n' c') (us ++ [.slice A1 L1 c1]) (ls ++ [z]) t ts := by
  have ht := Touch.of_grown (S := fun b => (Value.slice A n cp).ownBlock = some b) hg (fun _ h => h)
  exact ⟨ho, h.own.touch ht (fun g hg' hs => h.own.apartG h.out.own.own g hg' hs), (h.out.own.rows.snoc hr hne).keep (h.rows.snoc hr hnt) ht (fun _ h => h)⟩
theorem Two.back {K : Nat → Prop} {w0 W w' : World} {v t t' : Value} {us : List Value} {ls : List (List Int)} {ts ts' : List Int} (h : Two K w0 W v us ls t ts) (ho : Own w' w0.heap.size t' ts') (hg : W.grownBy w' t.ownBlock) (hat : t'.ownBlock = t.ownBlock ∨ t'.ownBlock = some W.heap.size) : Two K w0 w' v us ls t' ts' := by
  have ht := Touch.of_grown (S := fun b => t.ownBlock = some b) hg (fun _ h => h)
  exact ⟨⟨⟨own_touch h.out.own.own ht (fun g hg' hs => h.own.apartG h.out.own.own g hs hg'), h.rows.keep h.out.own.rows ht (fun _ h => h)⟩, Touch.belows h.out.bel ht (Nat.le_refl _) (fun b hb => (h.own.least b hb).1), h.out.src⟩, ho, h.rows.moved ht hat⟩

theorem app_oneE {ops : Array Oper} {rest : List Oper} {o : Oper} {a : Act} {Q : Exit → Act → World → Prop} {K0 : Nat → Prop} {w0 W : World} {n blk cp L1 c1 : Nat} {A A1 : Option Addr} {us : List Value} {ls : List (List Int)} {z : List Int} (s y : Operand)
    (hgd : o.guard = none) (ho : o.op = .call { callee := .builtin .append, args := #[s, y], argTypes := #[29, 29] })
    (hs : a.eval s = .slice A n cp) (h : Out K0 w0 W (.slice A n cp) us ls) (hx : a.eval y = .slice (some ⟨blk, 0, none⟩) 1 1) (hn : W.heap[blk]? = some (.cells #[.slice A1 L1 c1] 22 (0, 0)))
    (hr : Row W 0 (.slice A1 L1 c1) z) (hne : z ≠ [] → ∀ b, (Value.slice A1 L1 c1).ownBlock = some b → ¬ (Value.slice A n cp).ownBlock = some b) (hsrc : Src K0 w0.heap.size (.slice A1 L1 c1) z) (hsz : ls.length ≤ 400000)
    (hK : ∀ A' n' c' w', Out K0 w0 w' (.slice A' n' c') (us ++ [.slice A1 L1 c1]) (ls ++ [z]) → W.grownBy w' (Value.slice A n cp).ownBlock → wpList Try.prog ops Q rest (a.put o.dst (.slice A' n' c')) w') : wpList Try.prog ops Q (o :: rest) a W := by
  have hl := h.len
  have hrl := h.own.rows.1
  exact app_slice (W := W) (base := w0.heap.size) (xs := us) s y hgd ho hs (by have := h.own.own; rwa [← hl] at this) hx hn (by omega) h.bel.size (fun g cap w' h1 h2 h3 _ => hK _ _ _ w' (h.app hr hne hsrc h1 h2 h3) h2)

set_option maxRecDepth 100000 in
set_option maxHeartbeats 2000000 in
theorem said3 (w : World) (x : Int) (A : Option Addr) (L c ba : Nat) (zs : List Int) (hr : Row w ba (.slice A L c) zs) (hx1 : -9223372036854775808 ≤ x) (hx2 : x ≤ 9223372036854775807) (hz : zs.length ≤ 12) :
    Calls Try.prog 14 #[.agg #[.int .i64 3, .int .i64 x, .slice A L c]] w (SaidPost w (fun b => zs ≠ [] ∧ (Value.slice A L c).ownBlock = some b) (allP x zs)) := by
  obtain ⟨A', L', c', e, hL, h1, h2, _⟩ := hr.open'
  injection e with e1 e2 e3
  subst e1; subst e2; subst e3
  unfold maxLen at h2
  have hL12 : L ≤ 12 := by omega
  have HL := Lib.hid hL
  have hb1 := (Below.refl w.heap.size w).alloc (Nat.le_refl _) (.cells #[.int .i64 3, .int .i64 x, .slice A L c] 35)
  have HBX : Hid (OpBox (w.alloc (.cells #[.int .i64 3, .int .i64 x, .slice A L c] 35)) w.heap.size 3 x A L c) := Lib.hid (heap_alloc_new w _)
  have HW := Lib.hid (hb1.trans (Below.refl _ _))
  have HR := Lib.hid (hr.below hb1)
  have HXB := Lib.hid (show -9223372036854775808 ≤ x ∧ x ≤ 9223372036854775807 from ⟨hx1, hx2⟩)
  have HO0 := Lib.hid (Out.nil (fun b => zs ≠ [] ∧ (Value.slice A L c).ownBlock = some b) (w.alloc (.cells #[.int .i64 3, .int .i64 x, .slice A L c] 35)))
  obtain ⟨c0, c1, c2⟩ := HBX.out.cells
  clear hr hL h1 hz hb1
  obtain ⟨nx, hnx⟩ : ∃ nx, ng x = nx := ⟨_, rfl⟩
  have HNB := Lib.hid (show -9223372036854775808 ≤ nx ∧ nx ≤ 9223372036854775807 by rw [← hnx]; exact ng_in x)
  have HNX := Lib.hid hnx
  have wx : wrap64 (-x) = nx := hnx
  have hsz : ((w.alloc (.cells #[.int .i64 3, .int .i64 x, .slice A L c] 35))).heap.size = w.heap.size + 1 := by simp
  have hb2 := bel_new (w.alloc (.cells #[.int .i64 3, .int .i64 x, .slice A L c] 35)) (.cells #[.int .i64 x] 3)
  have htw : Two (fun b => zs ≠ [] ∧ (Value.slice A L c).ownBlock = some b) (w.alloc (.cells #[.int .i64 3, .int .i64 x, .slice A L c] 35)) ((w.alloc (.cells #[.int .i64 3, .int .i64 x, .slice A L c] 35)).alloc (.cells #[.int .i64 x] 3)) (.slice none 0 0) [] [] (.slice (some ⟨(w.alloc (.cells #[.int .i64 3, .int .i64 x, .slice A L c] 35)).heap.size, 0, none⟩) 1 1) [x] := ⟨HO0.out.below hb2, Own.one (heap_alloc_new _ _) (Nat.le_refl _), ⟨rfl, fun j u z hu => by simp at hu⟩⟩
  rw [show (Value.slice (some ⟨((w.alloc (.cells #[.int .i64 3, .int .i64 x, .slice A L c] 35))).heap.size, 0, none⟩) 1 1) = .slice (some ⟨w.heap.size + 1, 0, none⟩) 1 1 by rw [hsz]] at htw
  have HTW := Lib.hid htw
  obtain ⟨d0, d1, d2⟩ := (HBX.out.below hb2).cells
  clear hnx hb2 htw hsz
  go_enter Try.func14, Try.ntmps14
  go_wp2
  clear c0 c1 c2 d0 d1 d2
  go_loopw [70, 3, 6] (fun i t g wr => ∃ (k : Nat) (T : Option Addr) (n tc : Nat) (G : Option Addr) (gm gc : Nat) (us : List Value) (ls : List (List Int)), i = .int .i64 (k : Int) ∧ t = .slice T n tc ∧ g = .slice G gm gc ∧ k ≤ L ∧ Two (fun b => zs ≠ [] ∧ (Value.slice A L c).ownBlock = some b) (w.alloc (.cells #[.int .i64 3, .int .i64 x, .slice A L c] 35)) wr (.slice T n tc) us ls (.slice G gm gc) (x :: (zs.take k).map ng) ∧ ls = ((zs.take k).map fun y => [ng x, y])) (fun i _ _ _ => L - (intOf i).toNat)
  case atStart => exact ⟨0, _, _, _, _, _, _, _, _, rfl, rfl, rfl, by omega, HTW.out, rfl⟩
  case round =>
    clear HTW
    obtain ⟨k, T, n, tc, G, gm, gc, us, ls, rfl, rfl, rfl, hk, hO, hls⟩ := hrel
    have HT := Lib.hid hO
    have HLS := Lib.hid hls
    obtain ⟨f0, f1, f2⟩ := (HBX.out.below hO.out.bel).cells
    clear hO hls
    by_cases hkl : k < L
    · have HRR := Lib.hid (HR.out.below HT.out.out.bel)
      obtain ⟨b, off, rfl, hcell⟩ := HRR.out.at (by omega)
      obtain ⟨y, hy⟩ : ∃ y, nthI zs k = y := ⟨_, rfl⟩
      have cy := hcell k hkl
      rw [hy] at cy
      have hyb := HRR.out.bounds y (by rw [← hy]; exact nthI_mem (by rw [← HL.out]; exact hkl))
      obtain ⟨ny, hny⟩ : ∃ ny, ng y = ny := ⟨_, rfl⟩
      have wy : wrap64 (-y) = ny := hny
      have HNY := Lib.hid hny
      have HNYB := Lib.hid (show -9223372036854775808 ≤ ny ∧ ny ≤ 9223372036854775807 by rw [← hny]; exact ng_in y)
      have HTK := Lib.hid (show zs.take (k + 1) = zs.take k ++ [y] by rw [take_snocI (by rw [← HL.out]; exact hkl), hy])
      have HP := Lib.hid (HT.out.out.pair nx y HNB.out hyb)
      have HTP := Lib.hid (HT.out.below (below_two wr (.cells #[.int .i64 nx, .int .i64 y] 3) (.cells #[.slice (some ⟨wr.heap.size, 0, none⟩) 2 2] 22)))
      have HNT := Lib.hid (show ([nx, y] : List Int) ≠ [] → ∀ c, (Value.slice (some ⟨wr.heap.size, 0, none⟩) 2 2).ownBlock = some c → ¬ (Value.slice G gm gc).ownBlock = some c from fun _ c hc hg => by simp [Value.ownBlock] at hc; have := (HT.out.own.least c hg).2; omega)
      have HLN := Lib.hid (show ls.length ≤ 400000 by rw [HLS.out]; simp; omega)
      clear hy hcell hny hyb
      go_wp2_with (first | (at_builtin; refine app_oneE (W := ((wr.alloc (.cells #[.int .i64 nx, .int .i64 y] 3)).alloc (.cells #[.slice (some ⟨wr.heap.size, 0, none⟩) 2 2] 22))) (.tmp 74) (.tmp 80) rfl rfl rfl HP.out.out rfl HP.out.blk HP.out.row HP.out.apart HP.out.src HLN.out ?_; intro T6 n6 c6 w6 hO6 hg6; have HT6 := Lib.hid ((HTP.out.add HP.out.row HP.out.apart HNT.out hO6 hg6).below (bel_new w6 (.cells #[.int .i64 ny] 3))); have HRN := Lib.hid (Row.one (heap_alloc_new w6 (.cells #[.int .i64 ny] 3)) HNYB.out); have HLB := Lib.hid (show (x :: (zs.take k).map ng).length + ([ny] : List Int).length ≤ 200000 by simp; omega); clear hO6 hg6) | (at_builtin; refine wpList_append_row rfl (.tmp 82) (.tmp 85) rfl rfl (v := .slice G gm gc) (x := .slice (some ⟨w6.heap.size, 0, none⟩) 1 1) (xs := x :: (zs.take k).map ng) (zs := [ny]) rfl rfl HT6.out.own HRN.out HLB.out HT6.out.out.bel.size ?_; intro T7 n7 c7 w7 hown7 hgrow7 hat7; have HT7 := Lib.hid (HT6.out.back hown7 hgrow7 hat7); clear hown7 hgrow7 hat7))
      go_roundw
      case rel => exact ⟨k + 1, T6, n6, c6, T7, n7, c7, _, ls ++ [[nx, y]], by first | rfl | go_num, rfl, rfl, by omega, by rw [HTK.out, List.map_append]; simpa [HNY.out] using HT7.out, by rw [HTK.out, List.map_append, HLS.out, HNX.out]; rfl⟩
      case measure => simp [intOf]; omega
    · have hkL : k = L := by omega
      subst hkL
      have htk : zs.take k = zs := by rw [HL.out, List.take_length]
      have hT := HT.out
      have hls := HLS.out
      rw [htk] at hT hls
      have HLS2 := Lib.hid hls
      have HT2 := Lib.hid (hT.below (bel_new wr (.cells #[.slice G gm gc] 22)))
      have HR4 := Lib.hid ((own_row HT2.out.own HXB.out).base (Nat.zero_le _))
      have HNE := Lib.hid (show (x :: zs.map ng) ≠ [] → ∀ b, (Value.slice G gm gc).ownBlock = some b → ¬ (Value.slice T n tc).ownBlock = some b from fun _ b hb => HT2.out.own.apartG HT2.out.out.own.own b hb)
      have HLN := Lib.hid (show ls.length ≤ 400000 by rw [hls]; simp; have := HL.out; omega)
      clear htk hT hls
      go_wp2_with (at_builtin; refine app_oneE (W := wr.alloc (.cells #[.slice G gm gc] 22)) (.tmp 88) (.tmp 90) rfl rfl rfl HT2.out.out rfl (heap_alloc_new wr _) HR4.out HNE.out (fun _ b hb => .inl (HT2.out.own.least b hb).1) HLN.out ?_; intro T6 n6 c6 w6 hO6 hg6; have HO6 := Lib.hid hO6; clear hO6 hg6)
      go_ret
      have hO := HO6.out
      rw [HLS2.out] at hO
      exact ⟨.slice T6 n6 c6, _, _, rfl, HW.out.trans (hO.bel.mono HW.out.size), fun S w2 hS ht => hO.survive (fun b hb => ⟨by have := (hS b hb).1; simp; omega, (hS b hb).2⟩) ht⟩

theorem said_any (w : World) (kd x : Int) (A : Option Addr) (L c ba : Nat) (zs : List Int) (hr : Row w ba (.slice A L c) zs) (hx1 : -9223372036854775808 ≤ x) (hx2 : x ≤ 9223372036854775807) (hz : zs.length ≤ 12) :
    Calls Try.prog 14 #[.agg #[.int .i64 kd, .int .i64 x, .slice A L c]] w (SaidPost w (fun b => zs ≠ [] ∧ (Value.slice A L c).ownBlock = some b) (opP kd x zs)) := by
  unfold opP
  by_cases k0 : kd = 0
  · subst k0; exact said0 w x A L c ba zs hr hx1 hx2 hz
  rw [if_neg k0]
  by_cases k1 : kd = 1
  · subst k1; exact said1 w x A L c ba zs hr hx1 hx2 hz
  rw [if_neg k1]
  by_cases k2 : kd = 2
  · subst k2; exact said2 w x A L c ba zs hr hx1 hx2 hz
  rw [if_neg k2]
  by_cases k3 : kd = 3
  · subst k3; exact said3 w x A L c ba zs hr hx1 hx2 hz
  rw [if_neg k3]
  exact saidE w kd x k0 k1 k2 k3 A L c ba zs hr hx1 hx2 hz

end Go.Proofs.Ytiomocmceccmbaa.Cn

