/- Iterators over spans: what they hand out, one by one; a row's. -/
import Derived.Test.YtdijkekglaimfaaGreatDoorRcOwnK
import Derived.RangeFuncNested
import Derived.RangeFuncBound
import Derived.RangeFuncCalls
import Derived.RangeFuncLeaves
import Derived.RangeFuncFrom
import Derived.RangeFuncWrites
import Derived.Shelf.Abstract
import Derived.Shelf.RegionOpen
import Derived.OwnWalkIn
import Derived.TacticsInMore
import Derived.LoopNIn
import Derived.LoopIn
import Derived.Maps.AppendAt
import Derived.Maps.OwnIn
import Derived.Lib.QuietBelowIn
import Derived.Sort.BigQuietIn
namespace Go.Proofs.YtdijkekglaimfaaGreatDoor.Sq
open Go.RowKit Go.Shelf Rc
attribute [local go_sem] Oper.semAt_some

abbrev W0 : Fence := Fence.wide
/-- A span, as the value that is handed out. -/
abbrev Sz := { s : ByteArray × ByteArray // s.1.size ≤ maxLen ∧ s.2.size ≤ maxLen }
def encZ (s : Sz) : Array Value := #[.agg #[.string s.1.1, .string s.1.2]]
def zv (l : List Sz) : List (ByteArray × ByteArray) := l.map (·.1)
theorem zv_snoc (l : List Sz) (x : Sz) : zv (l ++ [x]) = zv l ++ [x.1] := by simp [zv]
theorem zv_len (l : List Sz) : (zv l).length = l.length := by simp [zv]
/-- An iterator that hands out the spans of l. -/
def Yields (n : Nat) (g : FuncId) (lb : Array Value) (l : List (ByteArray × ByteArray)) (w : World) : Prop :=
  ∀ B, w.heap.size ≤ B → SeqStopsK W0 n Tryz.prog g lb encZ (Below B) (fun ys => zv ys = l) (fun pre => zv pre <+: l) l.length w
theorem Yields.later {n : Nat} {g : FuncId} {lb : Array Value} {l : List (ByteArray × ByteArray)} {w w' : World} (h : Yields n g lb l w) (hb : Below w.heap.size w w') : Yields n g lb l w' :=
  fun B hB l' J Jx W hW hJ hJx hY h0 => h B (Nat.le_trans hb.size hB) l' J Jx W (hb.trans (hW.mono hb.size)) hJ hJx hY h0
theorem spz_at {w : World} {A : Option Addr} {L c : Nat} {l : List (ByteArray × ByteArray)} (h : RowD setK w (.slice A L c) l) {j : Nat} (hj : j < L) :
    ∃ b off, A = some ⟨b, off, none⟩ ∧ b < w.heap.size ∧ (Rc.nth l j).1.size ≤ maxLen ∧ (Rc.nth l j).2.size ≤ maxLen ∧ w.cell? ⟨b, off + j * 2, none⟩ = some (.string (Rc.nth l j).1) ∧ w.cell? ⟨b, off + j * 2 + 1, none⟩ = some (.string (Rc.nth l j).2) := by
  obtain ⟨b, off, cs, ha, hb, ⟨rfl, h1, h2⟩, hc⟩ := h.at hj
  exact ⟨b, off, ha, hb, h1, h2, hc 0 (by decide), hc 1 (by decide)⟩

set_option maxRecDepth 100000 in
set_option maxHeartbeats 2000000 in
theorem values_yields (n : Nat) (hn : 1 ≤ n) (X : Nat) (v : Value) (l : List (ByteArray × ByteArray)) (w : World) (hX : w.cell? ⟨X, 0, none⟩ = some v) (hR : RowD setK w v l) :
    Yields n 62 #[.pointer (some ⟨X, 0, none⟩)] l w := by
  intro B hB l' J Jx W hW hJ hJx hY h0
  obtain ⟨A, L, c, rfl⟩ := hR.sl
  have hXW : W.cell? ⟨X, 0, none⟩ = some (.slice A L c) := (hW.cell (World.block_lt_of_cell? w _ hX)).trans hX
  have H := Lib.hid hR
  have HL := Lib.hid hR.len
  have hc := hR.cap
  have HY := Lib.hid hY
  have HJ := Lib.hid hJ
  have HS := Lib.hid hW.size
  have HW0 := Lib.hid hW
  clear hY hJ hJx hW hR hX
  refine callsIn_of_wp Tryz.func62 rfl trivial ?_ rfl
  simp only [Tryz.ntmps62, List.size_toArray, List.length_cons, List.length_nil, Nat.reduceAdd, Nat.reduceSub, Array.replicate_succ, Array.replicate_zero, List.push_toArray, List.append_toArray, List.nil_append, List.cons_append]
  gi_wp2
  gi_loopw [7] (fun i wr => ∃ (k : Nat) (pre : List Sz), k ≤ L ∧ i = .int .i64 k ∧ Hid (zv pre = l.take k) ∧ Hid (Below w.heap.size w wr) ∧ Hid (W.heap.size ≤ wr.heap.size) ∧ Hid (J pre wr)) (fun i _ => L - (RowKit.intOf i).toNat)
  case atStart => exact ⟨0, [], Nat.zero_le _, rfl, Lib.hid rfl, HW0, Lib.hid (Nat.le_refl _), Lib.hid h0⟩
  case round =>
    obtain ⟨k, pre, hk, rfl, HP, HW, HSZ, HJ1⟩ := hrel
    by_cases hlt : k < L
    · have hkl : k < l.length := by rw [← HL.out]; exact hlt
      obtain ⟨bb, off, rfl, hb', m1, m2, c0, c1⟩ := spz_at (H.out.below HW.out (Nat.le_refl _)) hlt
      obtain ⟨x, hx⟩ : ∃ x : Sz, x.1 = Rc.nth l k := ⟨⟨Rc.nth l k, m1, m2⟩, rfl⟩
      rw [← hx] at c0 c1
      have HPN := Lib.hid (show zv (pre ++ [x]) = l.take (k + 1) by rw [zv_snoc, HP.out, Rc.take_snoc hkl, hx])
      have HPL := Lib.hid (show pre.length < l.length by rw [← zv_len, HP.out, List.length_take]; omega)
      clear hx m1 m2 hkl
      obtain ⟨fn, tmps, assign, body, hy, hR⟩ := HY.out pre x (wr.alloc (.cells #[.string x.1.1, .string x.1.2] 31)) (HJ.out pre wr _ none HJ1.out (World.grownBy_alloc wr _ none) (fun r e => by cases e)) HPL.out
      have HWA := Lib.hid (HW.out.alloc HW.out.size (.cells #[.string x.1.1, .string x.1.2] 31))
      have HSA := Lib.hid (show W.heap.size ≤ (wr.alloc (.cells #[.string x.1.1, .string x.1.2] 31)).heap.size by have := HSZ.out; simp; omega)
      simp only [encZ] at hy hR
      clear HP HPL
      gi_wp2
      refine hR.mono ?_
      rintro e W3 (⟨rfl, hJ3, hk3⟩ | ⟨rfl, hJx3⟩)
      · have HK3 := Lib.hid (HWA.out.trans (hk3.mono hB))
        have HS3 := Lib.hid (Nat.le_trans HSA.out hk3.size)
        have HJ3 := Lib.hid hJ3
        clear hk3 hJ3
        gi_wp2
        go_roundw
        case rel => exact ⟨k + 1, pre ++ [x], by omega, by go_num, HPN, HK3, HS3, HJ3⟩
        case measure => simp [RowKit.intOf]; omega
      · have HX3 := Lib.hid hJx3
        clear hJx3
        gi_wp2
        refine bodyPost_ret (results_none rfl _ _ _) rfl ?_
        exact ⟨⟨_, rfl⟩, .inr ⟨pre ++ [x], by rw [HPN.out]; exact List.take_prefix _ _, HX3.out⟩⟩
    · have hkL : k = L := by omega
      gi_wp2
      go_end0
      exact ⟨⟨_, rfl⟩, .inl ⟨pre, by rw [HP.out, hkL, HL.out, List.take_length], HJ1.out⟩⟩
end Go.Proofs.YtdijkekglaimfaaGreatDoor.Sq

/- Spans that an iterator hands out, collected into a row of the call's own. -/
namespace Go.Proofs.YtdijkekglaimfaaGreatDoor.Sq
open Go.RowKit Go.Shelf Rc
attribute [local go_sem] Oper.semAt_some

theorem elemSpan : Elem setK 23 31 :=
  ⟨Tryz.underlying23, ⟨.agg #[.string ⟨#[]⟩, .string ⟨#[]⟩], 32, by kernel_rfl, by rfl, by decide, by decide⟩, by decide, by
    rintro w cs x ⟨rfl, _⟩ u hu
    simp at hu
    rcases hu with rfl | rfl <;> rfl⟩
theorem wpListIn_app_el {F : Fence} {nF : Nat} {α : Type} [Inhabited α] {K : Kd α} {T e : TypeId} (hT : Elem K T e) {ops : Array Oper} {rest : List Oper} {o : Oper} {a : Act} {Q : Exit → Act → World → Prop} (hgd : o.guard = none) (s y : Operand)
    (ho : o.op = .call { callee := .builtin .append, args := #[s, y], argTypes := #[T, T] }) (hty : o.type = T)
    {w0 w : World} {base X : Nat} {v : Value} {xs : List α} {x : α} {cs : Array Value} (hs : a.eval s = v) (hx : a.eval y = .slice (some ⟨X, 0, none⟩) 1 1) (hown : OwnK K e w0 w base v xs) (hX : w.heap[X]? = some (.cells cs e (0, 0))) (hk : K.is w0 cs.toList x)
    (hl : xs.length ≤ 99999) (hbase : base ≤ w.heap.size)
    (hK : ∀ A' L' c' w', OwnK K e w0 w' base (.slice A' L' c') (xs ++ [x]) → w.grownBy w' v.ownBlock → wpListIn F nF Tryz.prog ops Q rest (a.put o.dst (.slice A' L' c')) w') : wpListIn F nF Tryz.prog ops Q (o :: rest) a w := by
  refine wpListIn_plain hgd fun K hK' => ?_
  obtain ⟨A, n, c, w', hrun, r1, r2⟩ := run_app_css hT base v xs [x] X 0 1 1 [cs.toList] hown (Css.one hk) rfl (fun p u hu => by
    rw [Nat.zero_add]
    exact cells_get hX p (by simpa using hu)) (by simpa using hl) hbase
  unfold Oper.wpIn
  refine ⟨by simp [Oper.about, ho, resolve, Target.leads, Sem.run_pure], ?_⟩
  rw [Oper.semAt_plain F _ _ (by rw [ho]; intro c hc'; cases hc')]
  simp [execOp, ho, hty, resolve, invoke, builtin, hs, hx, hrun, Result.andThen]
  exact hK' _ _ (hK A n c w' r1 r2)
end Go.Proofs.YtdijkekglaimfaaGreatDoor.Sq
namespace Go.Proofs.YtdijkekglaimfaaGreatDoor.Rc
open Go.RowKit
/-- What is no cells may turn. -/
theorem OwnK.keptO {α : Type} [Inhabited α] {K : Kd α} {e : TypeId} {w0 w w' : World} {base : Nat} {v : Value} {l : List α} {row : Option Nat} (h : OwnK K e w0 w base v l) (hg : w.grownBy w' row) (hr : ∀ r, row = some r → ∃ o : Obj, w.heap[r]? = some o ∧ o.isCells = false) : OwnK K e w0 w' base v l := by
  refine h.touch (Touch.of_grown (S := fun i => row = some i) hg (fun i e => e)) (fun g e1 e2 => ?_)
  obtain ⟨css, _, _, h2⟩ := h
  obtain ⟨o, ho, hc⟩ := hr g e2
  rcases h2 with ⟨rfl, _⟩ | ⟨g', cap, cur, rfl, _, hh, _⟩
  · simp [Value.ownBlock] at e1
  · obtain rfl : g' = g := by simpa [Value.ownBlock] using e1
    rw [hh] at ho; cases ho; cases hc
theorem OwnK.at_ne {α : Type} [Inhabited α] {K : Kd α} {e : TypeId} {w0 w : World} {base : Nat} {A : Option Addr} {L c : Nat} {l : List α} (h : OwnK K e w0 w base (.slice A L c) l) (hne : l ≠ []) : ∃ g, A = some ⟨g, 0, none⟩ ∧ base ≤ g ∧ L ≤ c ∧ c ≤ 9223372036854775807 := by
  obtain ⟨css, _, _, h2⟩ := h
  rcases h2 with ⟨_, h0⟩ | ⟨g, cap, cur, e1, hg, _, h1, h3, _⟩
  · exact absurd (List.eq_nil_of_length_eq_zero h0) hne
  · injection e1 with e1 e2 e3
    subst e1; subst e2; subst e3
    unfold maxLen at h3
    exact ⟨g, rfl, hg, h1, by omega⟩
end Go.Proofs.YtdijkekglaimfaaGreatDoor.Rc
namespace Go.Proofs.YtdijkekglaimfaaGreatDoor.Sq
open Go.RowKit Go.Shelf Rc
attribute [local go_sem] Oper.semAt_some
/-- A box of the call's own that holds a row of the call's own. -/
structure Coll (w0 : World) (Bx : Nat) (l : List (ByteArray × ByteArray)) (W : World) : Prop where
  box : ∃ v, Boxed W Bx 23 v ∧ OwnK setK 31 w0 W w0.heap.size v l
  bel : Below w0.heap.size w0 W
theorem Coll.own {w0 : World} {Bx B : Nat} (hB : w0.heap.size ≤ B) : OwnFrom B (fun (pre : List Sz) W => Coll w0 Bx (zv pre) W) := fun s W W' row h hg hr => by
  obtain ⟨⟨v, h1, h2⟩, h3⟩ := h
  refine ⟨⟨v, h1.kept hg (fun e' => ?_), h2.keptO hg (fun r e => (hr r e).2)⟩, h3.grown hg h3.size (fun k hk => Nat.le_trans hB (hr k hk).1)⟩
  obtain ⟨_, o, ho, hc⟩ := hr Bx e'.symm
  rw [show W.heap[Bx]? = _ from h1] at ho; cases ho; cases hc
/-- A block that holds a span. -/
def At (Y : Nat) (s : ByteArray × ByteArray) (W : World) : Prop := W.heap[Y]? = some (.cells #[.string s.1, .string s.2] 31 (0, 0))
theorem At.keptO {Y : Nat} {s : ByteArray × ByteArray} {W W' : World} {row : Option Nat} (h : At Y s W) (hg : W.grownBy W' row) (hr : ∀ r, row = some r → ∃ o : Obj, W.heap[r]? = some o ∧ o.isCells = false) : At Y s W' := by
  refine (hg.block Y (Array.getElem?_eq_some_iff.1 h).1 (fun e => ?_)).trans h
  obtain ⟨o, ho, hc⟩ := hr Y e.symm
  rw [h] at ho; cases ho; cases hc
theorem At.cells {Y : Nat} {s : ByteArray × ByteArray} {W : World} (h : At Y s W) : W.cell? ⟨Y, 0, none⟩ = some (.string s.1) ∧ W.cell? ⟨Y, 1, none⟩ = some (.string s.2) := ⟨cells_get h 0 rfl, cells_get h 1 rfl⟩

def CollD (l : List (ByteArray × ByteArray)) (w : World) (e : Ending) (w' : World) : Prop := ∃ v, e = .returned v ∧ OwnK setK 31 w w' w.heap.size v l ∧ Below w.heap.size w w'
set_option maxRecDepth 100000 in
set_option maxHeartbeats 2000000 in
theorem appendSeq_in (g : FuncId) (lb : Array Value) (l : List (ByteArray × ByteArray)) (w : World) (hy : Yields 6 g lb l w) (eg : ∀ args w, (callFunc g args).run Tryz.prog w = .ok (.enter g args) w) (hl : l.length ≤ 99999) :
    CallsIn W0 7 Tryz.prog 81 #[.slice none 0 0, .func (.func g) #[] lb] w (CollD l w) := by
  have h1 : 1 ≤ 7 := by omega
  refine callsIn_of_wp_marks Tryz.func81 rfl trivial ?_ rfl
  simp only [Tryz.ntmps81, List.size_toArray, List.length_cons, List.length_nil, Nat.reduceAdd, Nat.reduceSub, Array.replicate_succ, Array.replicate_zero, List.push_toArray, List.append_toArray, List.nil_append, List.cons_append]
  gi_wp2_with fail
  have bO := Boxed.new w 23 (.slice none 0 0)
  have hB0 : Below w.heap.size w (w.alloc (.cells #[.slice none 0 0] 23)) := (Below.refl _ w).alloc (Nat.le_refl _) _
  refine wpIn_rangeFunc_ownH rfl h1 (gf := g) (lb := lb) rfl trivial eg (hy w.heap.size (Nat.le_refl _)) belowK_t (belowK_b (by simp)) hB0 (fun _ => rfl)
    (fun pre W => Coll w w.heap.size (zv pre) W) (fun _ _ _ => False) (Coll.own (by simp)) (fun _ _ _ _ _ hs _ _ => hs) ⟨⟨_, bO, OwnK.nil _ _ _ _⟩, hB0⟩
    (fun x a W => ∃ Y, At Y x.1 W ∧ w.heap.size ≤ Y ∧ a = { tmps := #[.slice none 0 0, .func (.func g) #[] lb, .pointer (some ⟨w.heap.size, 0, none⟩), undef, .slice none 0 0, .pointer (some ⟨Y, 0, none⟩), .func (.func g) #[] lb, .agg #[.string x.1.1, .string x.1.2], undef, undef, undef, undef, undef], defers := [] })
    (fun x a' _ W W' row h hg hr => by
      obtain ⟨Y, h1, h2, h3⟩ := h
      exact ⟨Y, h1.keptO hg (fun r e => (hr r e).2), h2, h3⟩) ?assign ?body ?done ?stop
  case assign =>
    intro l pre x W K hI hK
    simp only [encZ]
    gi_wp2
    refine hK _ _ ((KeepsOthers.alloc _ _).from _) ((Below.refl _ _).alloc hI.bel.size _) (Coll.own (Nat.le_refl _) pre W _ none hI (World.grownBy_alloc _ _ none) (fun r e => by cases e)) ⟨W.heap.size, heap_alloc_new _ _, hI.bel.size, rfl⟩
  case body =>
    rintro l pre x a' W - - ⟨⟨v, hv, hrow⟩, hB⟩ ⟨Y, hY, hYs, rfl⟩ hlt
    have hc := hv.cell
    obtain ⟨y0, y1⟩ := hY.cells
    obtain ⟨A1, L1, c1, rfl⟩ := hrow.sl
    obtain ⟨⟨lo, hi⟩, hs1, hs2⟩ := x
    have HR := Lib.hid hrow
    have HBW := Lib.hid hB
    have HLEN := Lib.hid (show (zv pre).length ≤ 99999 by rw [zv_len]; omega)
    have HS := Lib.hid (And.intro hs1 hs2)
    clear hrow hB hY hYs
    gi_wp2_with (gi_at_builtin; refine wpListIn_app_el elemSpan rfl (.tmp 8) (.tmp 10) rfl rfl (w0 := w) (base := w.heap.size) (X := W.heap.size) (v := .slice A1 L1 c1) (xs := zv pre) (x := (lo, hi)) (cs := #[.string lo, .string hi]) rfl rfl (HR.out.alloc _) (heap_alloc_new W _) ⟨rfl, HS.out.1, HS.out.2⟩ HLEN.out (HBW.out.alloc HBW.out.size _).size ?_; intro A5 L5 c5 w5 hown5 hg5; obtain ⟨css5, hcss5, hraw5⟩ := hown5; obtain ⟨css1, _, hraw1⟩ := HR.out; obtain ⟨hv1, hv2, hr2, hk2, hb2⟩ := hv.appended (by decide) hraw1 HBW.out.size (Nat.le_refl _) hraw5 hg5; have hc1 := hv1.cell; have hf1 := hv1.frozen; have HK2 := Lib.hid hk2; have HB2 := Lib.hid hb2; have HV2 := Lib.hid hv2; have HO2 := Lib.hid (show OwnK setK 31 w (w5.setCell ⟨w.heap.size, 0, none⟩ (.slice A5 L5 c5)) w.heap.size (.slice A5 L5 c5) (zv pre ++ [(lo, hi)]) from ⟨css5, hcss5, hr2⟩); clear hk2 hb2 hr2 hraw5 hg5 hraw1 hv2 hcss5)
    exact ⟨HK2.out.from _, HB2.out, ⟨_, HV2.out, by rw [zv_snoc]; exact HO2.out⟩, HBW.out.trans HB2.out⟩
  case done =>
    rintro D ys W hD hS ⟨⟨v, hv, hrow⟩, hB⟩ hK
    have hc := hv.cell
    subst hS
    have HR := Lib.hid hrow
    have HBW := Lib.hid hB
    clear hrow hB
    gi_wp2
    refine ⟨by simp, .inl ⟨_, _, rfl, run_takeDeferred hK, ?_⟩⟩
    exact ⟨_, results_tmp rfl _ _ _, v, rfl, HR.out.keptO (grownBy_putObj' _ D _) (fun r e => by cases e; exact ⟨_, hK, rfl⟩), HBW.out.trans (belowK_b (w := w) (Nat.le_refl _) W D _ _ (by simp at hD; omega) hK rfl rfl)⟩
  case stop =>
    rintro D c pre W _ _ h _
    exact h.elim
end Go.Proofs.YtdijkekglaimfaaGreatDoor.Sq

/- Rows of spans, put together until no two meet: plain mathematics, over any spans that have points. What comes out is one row alone, whichever way it was come by. -/
namespace Go.Proofs.YtdijkekglaimfaaGreatDoor.Ss

/-- Spans with points. `low a b`: the first one's bound below doesn't stand behind the second one's. -/
structure Sp (S P : Type) where
  ok : S → Prop
  mem : S → P → Prop
  meets : S → S → Bool
  join : S → S → S
  low : S → S → Bool
  meets_iff : ∀ {a b}, ok a → ok b → (meets a b = true ↔ ∃ p, mem a p ∧ mem b p)
  ok_join : ∀ {a b}, ok a → ok b → meets a b = true → ok (join a b)
  mem_join : ∀ {a b}, ok a → ok b → meets a b = true → ∀ p, mem (join a b) p ↔ mem a p ∨ mem b p
  ext : ∀ {a b}, ok a → ok b → (∀ p, mem a p ↔ mem b p) → a = b
  some_mem : ∀ {a}, ok a → ∃ p, mem a p
  low_refl : ∀ a, low a a = true
  low_total : ∀ {a b}, ok a → ok b → low a b = false → low b a = true
  low_trans : ∀ {a b c}, ok a → ok b → ok c → low a b = true → low b c = true → low a c = true
  low_same : ∀ {a b}, ok a → ok b → low a b = true → low b a = true → meets a b = true
  low_join : ∀ {a b}, ok a → ok b → meets a b = true → low a b = true → low a (join a b) = true ∧ low (join a b) a = true
  far : ∀ {a b c}, ok a → ok b → ok c → low a b = true → low b c = true → meets a b = false → meets a c = false

section
variable {S P : Type} (K : Sp S P)

def Sp.Closed (F : List S) (X : P → Prop) : Prop := ∀ s ∈ F, ∀ a b, K.mem s a → K.mem s b → X a → X b
def Sp.Cov (F : List S) (p : P) : Prop := ∃ s ∈ F, K.mem s p
/-- Two rows bind the same points together. -/
def Sp.Same (F G : List S) : Prop := (∀ X, K.Closed F X ↔ K.Closed G X) ∧ ∀ p, K.Cov F p ↔ K.Cov G p
def Sp.Apart (a b : S) : Prop := K.meets a b = false
def Sp.Oks (F : List S) : Prop := ∀ s ∈ F, K.ok s
/-- A row in its form. -/
structure Sp.Row (F : List S) : Prop where
  oks : K.Oks F
  apart : F.Pairwise K.Apart
  rising : F.Pairwise fun a b => K.low a b = true
/-- The form of a row. -/
structure Sp.Canon (F m : List S) : Prop where
  row : K.Row m
  same : K.Same F m

variable {K}
theorem Sp.Same.refl (F : List S) : K.Same F F := ⟨fun _ => Iff.rfl, fun _ => Iff.rfl⟩
theorem Sp.Same.symm {F G : List S} (h : K.Same F G) : K.Same G F := ⟨fun X => (h.1 X).symm, fun p => (h.2 p).symm⟩
theorem Sp.Same.trans {F G H : List S} (h : K.Same F G) (h' : K.Same G H) : K.Same F H := ⟨fun X => (h.1 X).trans (h'.1 X), fun p => (h.2 p).trans (h'.2 p)⟩
theorem Sp.Same.of_mem {F G : List S} (h : ∀ s, s ∈ F ↔ s ∈ G) : K.Same F G :=
  ⟨fun _ => ⟨fun hc s hs => hc s ((h s).2 hs), fun hc s hs => hc s ((h s).1 hs)⟩, fun _ => ⟨fun ⟨s, hs, hp⟩ => ⟨s, (h s).1 hs, hp⟩, fun ⟨s, hs, hp⟩ => ⟨s, (h s).2 hs, hp⟩⟩⟩
theorem Sp.Same.nil {F : List S} (ho : K.Oks F) (h : K.Same F []) : F = [] := by
  cases F with
  | nil => rfl
  | cons s F =>
    obtain ⟨p, hp⟩ := K.some_mem (ho s (by simp))
    obtain ⟨_, h0, _⟩ := (h.2 p).1 ⟨s, by simp, hp⟩
    cases h0
/-- Two that meet are put together. -/
theorem Sp.Same.merge {s t : S} {r : List S} (hs : K.ok s) (ht : K.ok t) (hm : K.meets s t = true) : K.Same (s :: t :: r) (K.join s t :: r) := by
  obtain ⟨m, m1, m2⟩ := (K.meets_iff hs ht).1 hm
  have hj := K.mem_join hs ht hm
  refine ⟨fun X => ⟨fun hc u hu a b ha hb hX => ?_, fun hc u hu a b ha hb hX => ?_⟩, fun p => ⟨fun ⟨u, hu, hp⟩ => ?_, fun ⟨u, hu, hp⟩ => ?_⟩⟩
  · rcases List.mem_cons.1 hu with rfl | hu
    · have c1 := hc s (by simp)
      have c2 := hc t (by simp)
      have hXm : X m := by
        rcases (hj a).1 ha with ha | ha
        · exact c1 a m ha m1 hX
        · exact c2 a m ha m2 hX
      rcases (hj b).1 hb with hb | hb
      · exact c1 m b m1 hb hXm
      · exact c2 m b m2 hb hXm
    · exact hc u (by simp [hu]) a b ha hb hX
  · have c := hc (K.join s t) (by simp)
    rcases List.mem_cons.1 hu with rfl | hu
    · exact c a b ((hj a).2 (.inl ha)) ((hj b).2 (.inl hb)) hX
    · rcases List.mem_cons.1 hu with rfl | hu
      · exact c a b ((hj a).2 (.inr ha)) ((hj b).2 (.inr hb)) hX
      · exact hc u (by simp [hu]) a b ha hb hX
  · rcases List.mem_cons.1 hu with rfl | hu
    · exact ⟨_, by simp, (hj p).2 (.inl hp)⟩
    · rcases List.mem_cons.1 hu with rfl | hu
      · exact ⟨_, by simp, (hj p).2 (.inr hp)⟩
      · exact ⟨u, by simp [hu], hp⟩
  · rcases List.mem_cons.1 hu with rfl | hu
    · rcases (hj p).1 hp with hp | hp
      · exact ⟨s, by simp, hp⟩
      · exact ⟨t, by simp, hp⟩
    · exact ⟨u, by simp [hu], hp⟩
theorem Sp.meets_symm {a b : S} (ha : K.ok a) (hb : K.ok b) : K.meets a b = K.meets b a := by
  rw [Bool.eq_iff_iff, K.meets_iff ha hb, K.meets_iff hb ha]
  exact ⟨fun ⟨p, h1, h2⟩ => ⟨p, h2, h1⟩, fun ⟨p, h1, h2⟩ => ⟨p, h2, h1⟩⟩
theorem Sp.apart_of {F : List S} (ho : K.Oks F) (h : F.Pairwise K.Apart) : ∀ {s t : S}, s ∈ F → t ∈ F → s ≠ t → K.meets s t = false := by
  induction F with
  | nil => intro s t hs; cases hs
  | cons x F ih =>
    intro s t hs ht hne
    rw [List.pairwise_cons] at h
    have ho' : K.Oks F := fun u hu => ho u (by simp [hu])
    rcases List.mem_cons.1 hs with hs1 | hs1
    · rcases List.mem_cons.1 ht with ht1 | ht1
      · exact absurd (hs1.trans ht1.symm) hne
      · rw [hs1]; exact h.1 t ht1
    · rcases List.mem_cons.1 ht with ht1 | ht1
      · rw [Sp.meets_symm (ho s hs) (ho t ht), ht1]; exact h.1 s hs1
      · exact ih ho' h.2 hs1 ht1 hne
/-- Of a row whose spans don't meet each one's points are closed. -/
theorem Sp.closed_one {F : List S} (ho : K.Oks F) (h : F.Pairwise K.Apart) {s : S} (hs : s ∈ F) : K.Closed F (K.mem s) := fun t ht a b ha hb hX => by
  by_cases e : s = t
  · subst e; exact hb
  · have := Sp.apart_of ho h hs ht e
    have h2 := (K.meets_iff (ho s hs) (ho t ht)).2 ⟨a, hX, ha⟩
    rw [this] at h2; cases h2
theorem Sp.sub {F G : List S} (hf : K.Oks F) (hg : K.Oks G) (f : F.Pairwise K.Apart) (g : G.Pairwise K.Apart) (h : K.Same F G) : ∀ s ∈ F, s ∈ G := fun s hs => by
  obtain ⟨p, hp⟩ := K.some_mem (hf s hs)
  obtain ⟨t, ht, htp⟩ := (h.2 p).1 ⟨s, hs, hp⟩
  have c1 : K.Closed G (K.mem s) := (h.1 _).1 (Sp.closed_one hf f hs)
  have c2 : K.Closed F (K.mem t) := (h.1 _).2 (Sp.closed_one hg g ht)
  have e : s = t := K.ext (hf s hs) (hg t ht) fun q => ⟨fun hq => c2 s hs p q hp hq htp, fun hq => c1 t ht p q htp hq hp⟩
  rw [e]; exact ht
/-- Rows that rise are the same if they have the same in them. -/
theorem Sp.row_ext : ∀ {F G : List S}, K.Row F → K.Row G → (∀ s, s ∈ F ↔ s ∈ G) → F = G
  | [], [], _, _, _ => rfl
  | [], t :: G, _, _, h => absurd ((h t).2 (by simp)) (by simp)
  | s :: F, [], _, _, h => absurd ((h s).1 (by simp)) (by simp)
  | s :: F, t :: G, hF, hG, h => by
    have f1 := List.pairwise_cons.1 hF.apart
    have f2 := List.pairwise_cons.1 hF.rising
    have g1 := List.pairwise_cons.1 hG.apart
    have g2 := List.pairwise_cons.1 hG.rising
    have okS : ∀ {u}, u ∈ s :: F → K.ok u := fun hu => hF.oks _ hu
    have okT : ∀ {u}, u ∈ t :: G → K.ok u := fun hu => hG.oks _ hu
    have e : s = t := by
      have h1 := (h s).1 (by simp)
      have h2 := (h t).2 (by simp)
      rcases List.mem_cons.1 h1 with e | h1
      · exact e
      · rcases List.mem_cons.1 h2 with e | h2
        · exact e.symm
        · exfalso
          have a1 := f2.1 t h2
          have a2 := g2.1 s h1
          have a3 := K.low_same (okS (by simp)) (okT (by simp)) a1 a2
          have a4 : K.meets s t = false := f1.1 t h2
          rw [a4] at a3; cases a3
    subst e
    have nin : ∀ {L : List S}, K.Oks (s :: L) → (∀ u ∈ L, K.Apart s u) → s ∉ L := fun ho hL hs => by
      have h1 : K.meets s s = false := hL s hs
      have h2 := K.low_same (ho s (by simp)) (ho s (by simp)) (K.low_refl s) (K.low_refl s)
      rw [h1] at h2; cases h2
    rw [Sp.row_ext (F := F) (G := G) ⟨fun u hu => hF.oks u (by simp [hu]), f1.2, f2.2⟩ ⟨fun u hu => hG.oks u (by simp [hu]), g1.2, g2.2⟩ (fun u => ?_)]
    have hu := h u
    have n1 := nin hF.oks f1.1
    have n2 := nin hG.oks g1.1
    constructor
    · intro hm
      rcases List.mem_cons.1 (hu.1 (by simp [hm])) with e | h'
      · subst e; exact absurd hm n1
      · exact h'
    · intro hm
      rcases List.mem_cons.1 (hu.2 (by simp [hm])) with e | h'
      · subst e; exact absurd hm n2
      · exact h'
/-- There is one form alone. -/
theorem Sp.Canon.unique {F G m n : List S} (hm : K.Canon F m) (hn : K.Canon G n) (h : K.Same F G) : m = n := by
  have hs : K.Same m n := (hm.same.symm.trans h).trans hn.same
  exact Sp.row_ext hm.row hn.row fun s => ⟨Sp.sub hm.row.oks hn.row.oks hm.row.apart hn.row.apart hs s, Sp.sub hn.row.oks hm.row.oks hn.row.apart hm.row.apart hs.symm s⟩
theorem Sp.Row.canon {m : List S} (h : K.Row m) : K.Canon m m := ⟨h, .refl m⟩
theorem Sp.Canon.same_of {F G m : List S} (h : K.Canon F m) (hs : K.Same G F) : K.Canon G m := ⟨h.row, hs.trans h.same⟩

/-! Neighbours of a row that rises are put together. -/
def Sp.put (K : Sp S P) (out : List S) (x : S) : List S := match out.getLast? with
  | none => [x]
  | some y => if K.meets y x = true then out.dropLast ++ [K.join y x] else out ++ [x]
theorem Sp.put_nil (x : S) : K.put [] x = [x] := rfl
theorem Sp.put_join {o : List S} {y x : S} (h : K.meets y x = true) : K.put (o ++ [y]) x = o ++ [K.join y x] := by simp [Sp.put, h]
theorem Sp.put_new {o : List S} {y x : S} (h : K.meets y x = false) : K.put (o ++ [y]) x = o ++ [y] ++ [x] := by simp [Sp.put, h]
structure Sp.Half (K : Sp S P) (F out l : List S) : Prop where
  row : K.Row out
  oks : K.Oks l
  rising : l.Pairwise fun a b => K.low a b = true
  low : ∀ a ∈ out, ∀ b ∈ l, K.low a b = true
  same : K.Same F (out ++ l)
theorem Sp.Half.start {l : List S} (ho : K.Oks l) (h : l.Pairwise fun a b => K.low a b = true) : K.Half l [] l :=
  ⟨⟨fun s hs => (by cases hs), .nil, .nil⟩, ho, h, fun a ha => (by cases ha), .refl _⟩
theorem Sp.Half.step {F out l : List S} {x : S} (h : K.Half F out (x :: l)) : K.Half F (K.put out x) l := by
  have hx : K.ok x := h.oks x (by simp)
  have hp := List.pairwise_cons.1 h.rising
  have ho : K.Oks l := fun s hs => h.oks s (by simp [hs])
  rcases List.eq_nil_or_concat out with rfl | ⟨o, y, rfl⟩
  · rw [Sp.put_nil]
    exact ⟨⟨fun s hs => by rw [List.mem_singleton.1 hs]; exact hx, by simp, by simp⟩, ho, hp.2, fun a ha b hb => by rw [List.mem_singleton.1 ha]; exact hp.1 b hb, h.same⟩
  rw [List.concat_eq_append] at h ⊢
  have r1 := List.pairwise_append.1 h.row.apart
  have r2 := List.pairwise_append.1 h.row.rising
  have hy : K.ok y := h.row.oks y (by simp)
  have hyx : K.low y x = true := h.low y (by simp) x (by simp)
  have hoo : K.Oks o := fun s hs => h.row.oks s (by simp [hs])
  cases hm : K.meets y x with
  | true =>
    rw [Sp.put_join hm]
    have hj := K.ok_join hy hx hm
    obtain ⟨j1, j2⟩ := K.low_join hy hx hm hyx
    refine ⟨⟨fun s hs => ?_, ?_, ?_⟩, ho, hp.2, fun a ha b hb => ?_, ?_⟩
    · rcases List.mem_append.1 hs with hs | hs
      · exact hoo s hs
      · rw [List.mem_singleton.1 hs]; exact hj
    · refine List.pairwise_append.2 ⟨r1.1, by simp, fun a ha b hb => ?_⟩
      rw [List.mem_singleton.1 hb]
      exact K.far (hoo a ha) hy hj (r2.2.2 a ha y (by simp)) j1 (r1.2.2 a ha y (by simp))
    · refine List.pairwise_append.2 ⟨r2.1, by simp, fun a ha b hb => ?_⟩
      rw [List.mem_singleton.1 hb]
      exact K.low_trans (hoo a ha) hy hj (r2.2.2 a ha y (by simp)) j1
    · rcases List.mem_append.1 ha with ha | ha
      · exact h.low a (by simp [ha]) b (by simp [hb])
      · rw [List.mem_singleton.1 ha]
        exact K.low_trans hj hy (ho b hb) j2 (h.low y (by simp) b (by simp [hb]))
    · refine h.same.trans (Sp.Same.trans (.of_mem (G := y :: x :: (o ++ l)) fun s => ?_) ((Sp.Same.merge hy hx hm).trans (.of_mem fun s => ?_)))
      · simp only [List.mem_append, List.mem_cons, List.not_mem_nil, or_false]
        constructor <;> intro hh
        · rcases hh with (hh | hh) | hh | hh <;> simp [hh]
        · rcases hh with hh | hh | hh | hh <;> simp [hh]
      · simp only [List.mem_append, List.mem_cons, List.not_mem_nil, or_false]
        constructor <;> intro hh
        · rcases hh with hh | hh | hh <;> simp [hh]
        · rcases hh with (hh | hh) | hh <;> simp [hh]
  | false =>
    rw [Sp.put_new hm]
    refine ⟨⟨fun s hs => ?_, ?_, ?_⟩, ho, hp.2, fun a ha b hb => ?_, by simpa using h.same⟩
    · rcases List.mem_append.1 hs with hs | hs
      · exact h.row.oks s hs
      · rw [List.mem_singleton.1 hs]; exact hx
    · refine List.pairwise_append.2 ⟨h.row.apart, by simp, fun a ha b hb => ?_⟩
      rw [List.mem_singleton.1 hb]
      rcases List.mem_append.1 ha with ha | ha
      · exact K.far (hoo a ha) hy hx (r2.2.2 a ha y (by simp)) hyx (r1.2.2 a ha y (by simp))
      · rw [List.mem_singleton.1 ha]; exact hm
    · refine List.pairwise_append.2 ⟨h.row.rising, by simp, fun a ha b hb => ?_⟩
      rw [List.mem_singleton.1 hb]
      exact h.low a ha x (by simp)
    · rcases List.mem_append.1 ha with ha | ha
      · exact h.low a ha b (by simp [hb])
      · rw [List.mem_singleton.1 ha]; exact hp.1 b hb
/-- Sorted, and put together, a row is in its form. -/
theorem Sp.Half.done {F out : List S} (h : K.Half F out []) : K.Canon F out := ⟨h.row, by simpa using h.same⟩
theorem Sp.Half.fold {F : List S} : ∀ {l out : List S}, K.Half F out l → K.Canon F (l.foldl K.put out)
  | [], _, h => h.done
  | x :: l, out, h => by
    rw [List.foldl_cons]
    exact Sp.Half.fold (l := l) (out := K.put out x) h.step

/-! One that is laid in where it stands. -/
theorem Sp.Row.lay {o r : List S} {x : S} (h : K.Row (o ++ r)) (hx : K.ok x) (ha : ∀ s ∈ o ++ r, K.meets s x = false) (h1 : ∀ s ∈ o, K.low s x = true) (h2 : ∀ s ∈ r, K.low x s = true) : K.Row (o ++ x :: r) := by
  have a1 := List.pairwise_append.1 h.apart
  have a2 := List.pairwise_append.1 h.rising
  have ok1 : K.Oks (o ++ r) := h.oks
  refine ⟨fun s hs => ?_, List.pairwise_append.2 ⟨a1.1, List.pairwise_cons.2 ⟨fun s hs => ?_, a1.2.1⟩, fun s hs t ht => ?_⟩, List.pairwise_append.2 ⟨a2.1, List.pairwise_cons.2 ⟨h2, a2.2.1⟩, fun s hs t ht => ?_⟩⟩
  · rcases List.mem_append.1 hs with hs | hs
    · exact ok1 s (by simp [hs])
    · rcases List.mem_cons.1 hs with rfl | hs
      · exact hx
      · exact ok1 s (by simp [hs])
  · unfold Sp.Apart
    rw [Sp.meets_symm hx (ok1 s (by simp [hs]))]
    exact ha s (by simp [hs])
  · rcases List.mem_cons.1 ht with rfl | ht
    · exact ha s (by simp [hs])
    · exact a1.2.2 s hs t ht
  · rcases List.mem_cons.1 ht with rfl | ht
    · exact h1 s hs
    · exact a2.2.2 s hs t ht
end
end Go.Proofs.YtdijkekglaimfaaGreatDoor.Ss

/- Neighbours that meet are put together: the loop over an iterator. -/
namespace Go.Proofs.YtdijkekglaimfaaGreatDoor.Sq
open Go.RowKit Go.Shelf Rc
attribute [local go_sem] Oper.semAt_some

abbrev S2 := ByteArray × ByteArray
def flat2 (l : List S2) : List Value := l.flatMap fun s => [.string s.1, .string s.2]
theorem flat2_snoc (l : List S2) (x : S2) : flat2 (l ++ [x]) = flat2 l ++ [.string x.1, .string x.2] := by simp [flat2]
theorem flat2_len (l : List S2) : (flat2 l).length = l.length * 2 := by
  induction l with
  | nil => rfl
  | cons x l ih =>
    show ([Value.string x.1, .string x.2] ++ flat2 l).length = _
    rw [List.length_append, ih, List.length_cons, List.length_cons, List.length_cons, List.length_nil]; omega
def Szs (l : List S2) : Prop := ∀ s ∈ l, s.1.size ≤ maxLen ∧ s.2.size ≤ maxLen
theorem css_flat2 {w : World} : ∀ {l : List S2} {css : List (List Value)}, Css setK w css l → css.flatten = flat2 l ∧ Szs l
  | [], css, h => by
    have : css = [] := List.eq_nil_of_length_eq_zero h.1
    rw [this]
    exact ⟨rfl, fun s hs => (by cases hs)⟩
  | x :: l, css, h => by
    cases css with
    | nil => have := h.1; simp at this
    | cons c css =>
      obtain ⟨e0, h1, h2⟩ := h.2 0 (by simp)
      have e0 : c = [.string x.1, .string x.2] := e0
      have h' : Css setK w css l := ⟨by have := h.1; simpa using this, fun j hj => by
        have := h.2 (j + 1) (by simpa using hj)
        exact this⟩
      obtain ⟨e1, e2⟩ := css_flat2 h'
      refine ⟨by rw [List.flatten_cons, e1, e0]; rfl, fun s hs => ?_⟩
      rcases List.mem_cons.1 hs with rfl | hs
      · exact ⟨h1, h2⟩
      · exact e2 s hs
theorem css_of {w : World} : ∀ {l : List S2}, Szs l → Css setK w (l.map fun s => [.string s.1, .string s.2]) l := fun {l} h => ⟨by simp, fun j hj => by
  have e : nth (l.map fun s : S2 => [Value.string s.1, .string s.2]) j = [.string (nth l j).1, .string (nth l j).2] := by
    unfold nth
    simp [hj]
  rw [e]
  exact ⟨rfl, h _ (nth_mem hj)⟩⟩
theorem ownK_raw {e : TypeId} {w0 w : World} {base : Nat} {v : Value} {l : List S2} (h : OwnK setK e w0 w base v l) : w.ownsRow base e 2 v l.length (flat2 l) ∧ Szs l := by
  obtain ⟨css, h1, h2⟩ := h
  obtain ⟨e1, e2⟩ := css_flat2 h1
  rw [e1] at h2
  exact ⟨h2, e2⟩
theorem ownK_of {e : TypeId} {w0 w : World} {base : Nat} {v : Value} {l : List S2} (h : w.ownsRow base e 2 v l.length (flat2 l)) (hs : Szs l) : OwnK setK e w0 w base v l :=
  ⟨_, css_of hs, by
    have : (l.map fun s : S2 => [Value.string s.1, .string s.2]).flatten = flat2 l := by unfold flat2; rw [List.flatMap_def]
    rw [this]; exact h⟩
/-- The last one of a row is written over. -/
theorem ownK_last {e : TypeId} {w0 w : World} {base g n c : Nat} {o : List S2} {y z : S2} (h : OwnK setK e w0 w base (.slice (some ⟨g, 0, none⟩) n c) (o ++ [y])) (hz : z.1.size ≤ maxLen ∧ z.2.size ≤ maxLen) :
    OwnK setK e w0 ((w.setCell ⟨g, o.length * 2, none⟩ (.string z.1)).setCell ⟨g, o.length * 2 + 1, none⟩ (.string z.2)) base (.slice (some ⟨g, 0, none⟩) n c) (o ++ [z]) := by
  obtain ⟨⟨h1, h2⟩, hs⟩ := ownK_raw h
  refine ownK_of ⟨by rw [flat2_len], ?_⟩ (fun s hm => ?_)
  · rcases h2 with ⟨e1, _⟩ | ⟨g', cap, cur, e1, hg, hh, hn, hcap, hsz, ht⟩
    · cases e1
    · injection e1 with e1 e2 e3
      injection e1 with e1
      injection e1 with e1
      subst e1; subst e3
      refine .inr ⟨g, c, _, ?_, hg, cells_set (cells_set hh _ _) _ _, ?_, hcap, by simp [hsz], ?_⟩
      · rw [e2]; simp
      · simpa using hn
      · rw [Array.toList_setIfInBounds, Array.toList_setIfInBounds, List.take_set, List.take_set]
        have e4 : (o ++ [z]).length * 2 = (o ++ [y]).length * 2 := by simp
        rw [e4, ht, flat2_snoc, flat2_snoc]
        have e5 : o.length * 2 = (flat2 o).length := (flat2_len o).symm
        rw [e5, List.set_append_right _ _ (Nat.le_refl _), List.set_append_right _ _ (by omega)]
        simp
  · rcases List.mem_append.1 hm with hm | hm
    · exact hs s (by simp [hm])
    · rw [List.mem_singleton.1 hm]; exact hz
def putG (mt : S2 → S2 → Bool) (jn : S2 → S2 → S2) (out : List S2) (x : S2) : List S2 := match out.getLast? with
  | none => [x]
  | some y => if mt y x = true then out.dropLast ++ [jn y x] else out ++ [x]
theorem putG_nil (mt : S2 → S2 → Bool) (jn : S2 → S2 → S2) (x : S2) : putG mt jn [] x = [x] := rfl
theorem putG_join {mt : S2 → S2 → Bool} {jn : S2 → S2 → S2} {o : List S2} {y x : S2} (h : mt y x = true) : putG mt jn (o ++ [y]) x = o ++ [jn y x] := by simp [putG, h]
theorem putG_new {mt : S2 → S2 → Bool} {jn : S2 → S2 → S2} {o : List S2} {y x : S2} (h : mt y x = false) : putG mt jn (o ++ [y]) x = o ++ [y] ++ [x] := by simp [putG, h]
theorem putG_len (mt : S2 → S2 → Bool) (jn : S2 → S2 → S2) (o : List S2) (x : S2) : (putG mt jn o x).length ≤ o.length + 1 := by
  rcases List.eq_nil_or_concat o with rfl | ⟨o, y, rfl⟩
  · simp [putG_nil]
  · rw [List.concat_eq_append]
    cases h : mt y x with
    | true => rw [putG_join h]; simp
    | false => rw [putG_new h]; simp
theorem foldG_len (mt : S2 → S2 → Bool) (jn : S2 → S2 → S2) : ∀ (l o : List S2), (l.foldl (putG mt jn) o).length ≤ o.length + l.length
  | [], o => by simp
  | x :: l, o => by
    rw [List.foldl_cons]
    have h1 := foldG_len mt jn l (putG mt jn o x)
    have h2 := putG_len mt jn o x
    rw [List.length_cons]; omega
/-- What the loop's body needs of the two that are handed in. -/
structure MJ (mt : S2 → S2 → Bool) (jn : S2 → S2 → S2) : Prop where
  joins : ∀ (a b : S2) (r : Bool), mt a b = r → ∀ w, Calls Tryz.prog 22 #[.agg #[.string a.1, .string a.2], .agg #[.string b.1, .string b.2]] w fun e w' => e = .returned (.bool r) ∧ Below w.heap.size w w'
  join : ∀ (a b c : S2), jn a b = c → ∀ w, Calls Tryz.prog 23 #[.agg #[.string a.1, .string a.2], .agg #[.string b.1, .string b.2]] w fun e w' => e = .returned (.agg #[.string c.1, .string c.2]) ∧ Below w.heap.size w w'
  size : ∀ (a b : S2), (a.1.size ≤ maxLen ∧ a.2.size ≤ maxLen) → (b.1.size ≤ maxLen ∧ b.2.size ≤ maxLen) → (jn a b).1.size ≤ maxLen ∧ (jn a b).2.size ≤ maxLen
abbrev fJ : Value := .func (.func 22) #[] #[]
abbrev fM : Value := .func (.func 23) #[] #[]
/-- Between two rounds: the two that were handed in, in their block; and the row. -/
structure RowI (w0 : World) (l : List S2) (W : World) : Prop where
  coll : Coll w0 (w0.heap.size + 1) l W
  mbox : W.heap[w0.heap.size]? = some (.cells #[fJ, fM] 44 (0, 0))
theorem RowI.own {w0 : World} {B : Nat} (f : List Sz → List S2) (hB : w0.heap.size + 1 ≤ B) : OwnFrom B (fun (pre : List Sz) W => RowI w0 (f pre) W) := fun s W W' row h hg hr => by
  obtain ⟨⟨⟨v, h1, h2⟩, h3⟩, h4⟩ := h
  refine ⟨⟨⟨v, h1.kept hg (fun e' => ?_), h2.keptO hg (fun r e => (hr r e).2)⟩, h3.grown hg h3.size (fun k hk => by have := (hr k hk).1; omega)⟩, (hg.block _ (Array.getElem?_eq_some_iff.1 h4).1 (fun e => ?_)).trans h4⟩
  · obtain ⟨_, o, ho, hc⟩ := hr _ e'.symm
    rw [show W.heap[w0.heap.size + 1]? = _ from h1] at ho; cases ho; cases hc
  · have := (hr _ e.symm).1
    omega
theorem keepsO_below {W W' : World} (h : Below W.heap.size W W') : KeepsOthers W W' := ⟨h.size, fun _ _ hk _ => heap_below hk h⟩
theorem RowI.step {w0 W W' : World} {l : List S2} (h : RowI w0 l W) (hb : Below W.heap.size W W') : RowI w0 l W' := by
  obtain ⟨⟨⟨v, h1, h2⟩, h3⟩, h4⟩ := h
  exact ⟨⟨⟨v, heap_below h1 hb, h2.below hb⟩, h3.trans (hb.mono h3.size)⟩, heap_below h4 hb⟩
theorem RowI.append {w0 W w5 : World} {o : List S2} {x : S2} {v v5 : Value} {tmp : Obj} (hv : Boxed W (w0.heap.size + 1) 23 v) (hrow : OwnK setK 31 w0 W w0.heap.size v o) (hB : Below w0.heap.size w0 W)
    (hm : W.heap[w0.heap.size]? = some (.cells #[fJ, fM] 44 (0, 0))) (hown5 : OwnK setK 31 w0 w5 w0.heap.size v5 (o ++ [x])) (hg5 : (W.alloc tmp).grownBy w5 v.ownBlock) :
    Boxed w5 (w0.heap.size + 1) 23 v ∧ KeepsOthers W (w5.setCell ⟨w0.heap.size + 1, 0, none⟩ v5) ∧ Below w0.heap.size W (w5.setCell ⟨w0.heap.size + 1, 0, none⟩ v5) ∧ RowI w0 (o ++ [x]) (w5.setCell ⟨w0.heap.size + 1, 0, none⟩ v5) := by
  obtain ⟨r1, _⟩ := ownK_raw hrow
  obtain ⟨r5, s5⟩ := ownK_raw hown5
  obtain ⟨h1, h2, h3, h4, h5⟩ := hv.appended (by decide) r1 hB.size (Nat.le_succ _) r5 hg5
  refine ⟨h1, h4, h5, ⟨⟨⟨_, h2, ownK_of h3 s5⟩, hB.trans h5⟩, ?_⟩⟩
  have hlt := (Array.getElem?_eq_some_iff.1 hm).1
  have m1 : (W.alloc tmp).heap[w0.heap.size]? = some (.cells #[fJ, fM] 44 (0, 0)) := (Below.heap_alloc W tmp _ hlt).trans hm
  have m2 : w5.heap[w0.heap.size]? = some (.cells #[fJ, fM] 44 (0, 0)) := (hg5.block _ (by simp; omega) (fun e => own_apart r1 hm (by decide) e.symm)).trans m1
  exact heap_set_far m2 (by simp)
theorem RowI.last {w0 W : World} {o : List S2} {y z : S2} {g n c : Nat} (hv : Boxed W (w0.heap.size + 1) 23 (.slice (some ⟨g, 0, none⟩) n c)) (hrow : OwnK setK 31 w0 W w0.heap.size (.slice (some ⟨g, 0, none⟩) n c) (o ++ [y])) (hB : Below w0.heap.size w0 W)
    (hm : W.heap[w0.heap.size]? = some (.cells #[fJ, fM] 44 (0, 0))) (hz : z.1.size ≤ maxLen ∧ z.2.size ≤ maxLen) :
    KeepsOthers W ((W.setCell ⟨g, o.length * 2, none⟩ (.string z.1)).setCell ⟨g, o.length * 2 + 1, none⟩ (.string z.2)) ∧ Below w0.heap.size W ((W.setCell ⟨g, o.length * 2, none⟩ (.string z.1)).setCell ⟨g, o.length * 2 + 1, none⟩ (.string z.2)) ∧
      RowI w0 (o ++ [z]) ((W.setCell ⟨g, o.length * 2, none⟩ (.string z.1)).setCell ⟨g, o.length * 2 + 1, none⟩ (.string z.2)) := by
  obtain ⟨r1, _⟩ := ownK_raw hrow
  obtain ⟨hg1, _⟩ := hrow.lt g rfl
  have ne1 : w0.heap.size + 1 ≠ g := fun e => by
    have := own_apart r1 (show W.heap[w0.heap.size + 1]? = _ from hv) (by decide)
    rw [e] at this
    exact this rfl
  have ne2 : w0.heap.size ≠ g := fun e => by
    have := own_apart r1 hm (by decide)
    rw [e] at this
    exact this rfl
  have hb : Below w0.heap.size W ((W.setCell ⟨g, o.length * 2, none⟩ (.string z.1)).setCell ⟨g, o.length * 2 + 1, none⟩ (.string z.2)) := ((Below.refl _ W).setCell (p := ⟨g, o.length * 2, none⟩) hg1 _).setCell (p := ⟨g, o.length * 2 + 1, none⟩) hg1 _
  exact ⟨(KeepsOthers.setCell _ _ _).trans (KeepsOthers.setCell _ _ _), hb, ⟨⟨_, heap_set_far (heap_set_far (show W.heap[w0.heap.size + 1]? = _ from hv) ne1) ne1, ownK_last hrow hz⟩, hB.trans hb⟩, heap_set_far (heap_set_far hm ne2) ne2⟩
theorem ownK_free {e : TypeId} {w0 w : World} {base g n c : Nat} {l : List S2} (h : OwnK setK e w0 w base (.slice (some ⟨g, 0, none⟩) n c) l) (j : Nat) : w.frozen? ⟨g, j, none⟩ = false := by
  obtain ⟨css, _, _, h2⟩ := h
  rcases h2 with ⟨e1, _⟩ | ⟨g', cap, cur, e1, _, hh, _⟩
  · cases e1
  · injection e1 with e1
    injection e1 with e1
    injection e1 with e1
    subst e1
    exact cells_free hh j
theorem RowI.done {w0 W W' : World} {l : List S2} {v : Value} {row : Option Nat} (hrow : OwnK setK 31 w0 W w0.heap.size v l) (hg : W.grownBy W' row) (hr : ∀ r, row = some r → ∃ o : Obj, W.heap[r]? = some o ∧ o.isCells = false) : OwnK setK 31 w0 W' w0.heap.size v l := hrow.keptO hg hr
end Go.Proofs.YtdijkekglaimfaaGreatDoor.Sq

/- A region that draws its order, within a round of a loop over an iterator: one walk serves every order. -/
namespace Go.Proofs.YtdijkekglaimfaaGreatDoor.Sq
open Go.RowKit Go.Shelf Rc Go.Sort

section
variable {F : Fence} {n : Nat} {P : Program} {ops : Array Oper} {md : Region.Mode} {C : World → Prop}
theorem wp_of_quiet_r {o : Oper} {a : Act} {K : Act → Prop} {K' : Act → World → Prop} {Q' : Exit → Act → World → Prop} {w : World} (ho : ∀ c, o.op ≠ .defer c) (hw : C w) (h : ∀ a w', C w' → K a → K' a w')
    (ha : o.askedIn F P a C) (hh : o.quietIn F n P a C K) : o.wpIn F n P a w K' Q' := by
  obtain ⟨v, h1, h2⟩ := hh
  have h3 := h1 w hw
  unfold Oper.quietAtIn at h3
  refine ⟨ha w hw, ?_⟩
  rw [Oper.semAt_plain F _ _ ho]
  generalize (execOp a.eval o).run P w = r at h3 ⊢
  match r, h3 with
  | .ok (.value u) w', ⟨e1, e2⟩ => rw [e1, e2]; exact h _ _ hw h2
  | .ok .skip w', ⟨e1, e2⟩ => rw [e1]; subst e2; exact h _ _ hw h2
  | .ok (.enter f args) w', ⟨e1, hd, hc⟩ =>
    rw [e1]
    exact ⟨hd, hc.mono fun e w'' ⟨he, hw''⟩ => by subst he; exact h _ _ hw'' h2⟩
theorem wpOp_of_quiet_r {i : Nat} {a : Act} {K : Act → Prop} {K' : Act → World → Prop} {Q' : Exit → Act → World → Prop} {w : World} (ho : ∀ (i : Nat) (o : Oper), ops[i]? = some o → ∀ c, o.op ≠ Op.defer c) (hC : C w) (h : ∀ a w', C w' → K a → K' a w')
    (hh : qOpIn F n P ops C i K a) : wpOpIn F n P ops Q' i K' a w := by
  unfold qOpIn at hh
  unfold wpOpIn
  cases hi : ops[i]? with
  | none => simp only [hi] at hh ⊢; exact h _ _ hC hh
  | some o =>
    simp only [hi] at hh ⊢
    obtain ⟨ha, hh⟩ := hh
    by_cases hw : Region.wanted o (yielded ops a.tmps) = true
    · rw [if_pos hw] at hh ⊢
      exact wp_of_quiet_r (ho i o hi) hC h ha hh
    · rw [if_neg hw] at hh ⊢
      exact ⟨ha w hC, h _ _ hC hh⟩
theorem wpAny_of_quiet_r {Q : Act → Prop} {Q' : Exit → Act → World → Prop} (ho : ∀ (i : Nat) (o : Oper), ops[i]? = some o → ∀ c, o.op ≠ Op.defer c) (hQ : ∀ a w, C w → Q a → Q' .normal a w) : ∀ (fuel : Nat) (listed : Array Bool) (a : Act) (w : World), C w →
    wpAnyQIn F n P md ops C Q fuel listed a → wpAnyIn F n P md ops Q' fuel listed a w
  | 0, _, _, _, hw, h => ⟨h.1, hQ _ _ hw h.2⟩
  | fuel + 1, _, _, _, hw, h => ⟨fun h0 => hQ _ _ hw (h.1 h0), fun i hi => wpOp_of_quiet_r ho hw (fun a' w' hw' => wpAny_of_quiet_r ho hQ fuel _ a' w' hw') (h.2 i hi)⟩
/-- No operation defers a call. -/
def noDefer (l : List Oper) : Bool := l.all fun o => match o.op with
  | .defer _ => false
  | _ => true
theorem noDefer_spec {l : List Oper} (h : noDefer l = true) (i : Nat) (o : Oper) (hi : l.toArray[i]? = some o) (c : Call) : o.op ≠ .defer c := fun e => by
  have hm : o ∈ l := List.mem_of_getElem? (by simpa using hi)
  have := List.all_eq_true.1 h o hm
  simp [e] at this
theorem quiet_round {id : Nat} {Q : Exit → Act → World → Prop} {a : Act} {w : World} {l : List Oper} (ho : noDefer l = true) (hm : P.follows .mixedOrders = true) (hB : Region.lexB .any l.toArray = true)
    (h : wpQuietIn F n P l.toArray (fun w' => ∃ p : Regrown, w' = grow (redrawn w p.d) p.os) (fun a' => ∀ w', (∃ p : Regrown, w' = grow (redrawn w p.d) p.os) → Q .normal a' w') l a) : (Code.region id l.toArray true).wpIn F n P Q a w := by
  simp only [Region.lexB, Bool.and_eq_true] at hB
  refine wpIn_region_any hm (wpAny_of_quiet_r (C := fun w' => ∃ p : Regrown, w' = grow (redrawn w p.d) p.os) (Q := fun a' => ∀ w', (∃ p : Regrown, w' = grow (redrawn w p.d) p.os) → Q .normal a' w') (noDefer_spec ho) (fun _ w' hw' h => h w' hw') _ _ _ _ ⟨⟨w.drawn + 1, #[]⟩, by rw [grow_empty]; rfl⟩ ?_)
  have := wpAnyQIn_lex (F := F) (n := n) (P := P) (C := fun w' => ∃ p : Regrown, w' = grow (redrawn w p.d) p.os) (md := .any) hB.1 l 0 (Array.replicate l.toArray.size false) a (by simp) (by simpa using hB.2) h
  simpa using this
end
end Go.Proofs.YtdijkekglaimfaaGreatDoor.Sq

/- A region that draws its order, all of whose operations but the last one are quiet, within a round of a loop over an iterator. -/
namespace Go.Proofs.YtdijkekglaimfaaGreatDoor.Sq
open Go.RowKit Go.Shelf Rc Go.Sort

section
variable {F : Fence} {n : Nat} {P : Program} {md : Region.Mode} {C : World → Prop}
/-- Every operation waits for earlier ones alone. -/
def upward (md : Region.Mode) (ops : Array Oper) : Prop := ∀ (i : Nat) (o : Oper), ops[i]? = some o → ∀ e ∈ o.after, Region.binds md e = true → e.on < i
theorem all_listed {ops : Array Oper} {listed : Array Bool} (hT : upward md ops) (hs : listed.size = ops.size) (h0 : Region.ready md ops listed = []) : ∀ j, j < ops.size → listed.getD j true = true := by
  intro j
  induction j using Nat.strongRecOn with
  | ind j ih =>
    intro hj
    cases hg : listed.getD j true with
    | true => rfl
    | false =>
      exfalso
      have hr : j ∈ Region.ready md ops listed := mem_ready.2 ⟨hg, ops[j], Array.getElem?_eq_getElem hj, fun e he hb => by
        have hlt := hT j _ (Array.getElem?_eq_getElem hj) e he hb
        have := ih e.on hlt (by omega)
        have hl : e.on < listed.size := by omega
        simp [hl] at this ⊢
        exact this⟩
      rw [h0] at hr; cases hr
theorem ready_eq {ops ops' : Array Oper} (hsz : ops.size = ops'.size) (ha : ∀ i : Nat, (ops[i]?).map (fun o : Oper => o.after) = (ops'[i]?).map (fun o : Oper => o.after)) (listed : Array Bool) : Region.ready md ops listed = Region.ready md ops' listed := by
  unfold Region.ready
  rw [hsz]
  refine List.filter_congr fun i _ => ?_
  have h := ha i
  cases h1 : ops[i]? <;> cases h2 : ops'[i]? <;> rw [h1, h2] at h <;> simp at h ⊢
  rw [h]
theorem bridge {ops ops' : Array Oper} {s s' : Oper} {k : Nat} {Q : Act → Prop} {Q' : Exit → Act → World → Prop} (hsz : ops.size = ops'.size) (hkz : k < ops.size)
    (ha : ∀ i : Nat, (ops[i]?).map (fun o : Oper => o.after) = (ops'[i]?).map (fun o : Oper => o.after)) (hy : ∀ t, yielded ops t = yielded ops' t) (hk : ∀ i : Nat, i ≠ k → ops[i]? = ops'[i]?) (hS : ops[k]? = some s) (hS' : ops'[k]? = some s') (hg : s.guard = none) (hg' : s'.guard = none) (hd : s'.dst = none)
    (hT : upward md ops) (hlast : ∀ j, j < ops.size → j ≠ k → ∃ e ∈ s.after, Region.binds md e = true ∧ e.on = j) (ho : ∀ (i : Nat) (o : Oper), ops[i]? = some o → ∀ c, o.op ≠ Op.defer c)
    (hstore : ∀ a w, C w → Q a → s.wpIn F n P a w (fun a' w' => Q' .normal a' w') Q') :
    ∀ (fuel : Nat) (listed : Array Bool) (a : Act) (w : World), C w → listed.size = ops.size → listed.getD k true = false → wpAnyQIn F n P md ops' C Q fuel listed a → wpAnyIn F n P md ops Q' fuel listed a w
  | 0, listed, a, w, hw, hls, hk0, h => by
    have h0 := h.1
    rw [← ready_eq hsz ha] at h0
    have := all_listed hT hls h0 k hkz
    rw [hk0] at this; cases this
  | fuel + 1, listed, a, w, hw, hls, hk0, h => by
    refine ⟨fun h0 => ?_, fun i hi => ?_⟩
    · have := all_listed hT hls h0 k hkz
      rw [hk0] at this; cases this
    · have hq := h.2 i (by rw [← ready_eq hsz ha]; exact hi)
      by_cases e : i = k
      · subst e
        have hr : Region.ready md ops (listed.setIfInBounds i true) = [] := by
          refine List.eq_nil_iff_forall_not_mem.2 fun j hj => ?_
          obtain ⟨h1, o, h2, h3⟩ := mem_ready.1 hj
          have hjl : j < ops.size := (Array.getElem?_eq_some_iff.1 h2).1
          by_cases e : j = i
          · subst e
            have : j < listed.size := by omega
            simp [this] at h1
          · obtain ⟨ed, hed, hb, hon⟩ := hlast j hjl e
            obtain ⟨_, o2, h5, h6⟩ := mem_ready.1 hi
            rw [hS] at h5; cases h5
            have h7 := h6 ed hed hb
            rw [hon] at h7
            have hl : j < listed.size := by omega
            rw [getD_set_ne true (Ne.symm e)] at h1
            simp [hl] at h1 h7
            rw [h1] at h7; cases h7
        have hQ : Q a := by
          unfold qOpIn at hq
          simp only [hS'] at hq
          rw [if_pos (by simp [Region.wanted, hg'])] at hq
          obtain ⟨_, v, _, h4⟩ := hq
          rw [hd] at h4
          have h4 : wpAnyQIn F n P md ops' C Q fuel (listed.setIfInBounds i true) a := h4
          rw [ready_eq hsz ha] at hr
          cases fuel with
          | zero => exact h4.2
          | succ f => exact h4.1 hr
        unfold wpOpIn
        simp only [hS]
        rw [if_pos (by simp [Region.wanted, hg])]
        refine Oper.wpIn_mono (fun a' w' hq' => ?_) (hstore a w hw hQ)
        cases fuel with
        | zero => exact ⟨hr, hq'⟩
        | succ f => exact ⟨fun _ => hq', fun j hj => by rw [hr] at hj; cases hj⟩
      · have hq2 : qOpIn F n P ops C i (wpAnyQIn F n P md ops' C Q fuel (listed.setIfInBounds i true)) a := by
          unfold qOpIn at hq ⊢
          rw [hk i e]
          simp only [hy]
          exact hq
        refine wpOp_of_quiet_r ho hw (fun a' w' hw' h' => ?_) hq2
        refine bridge hsz hkz ha hy hk hS hS' hg hg' hd hT hlast ho hstore fuel _ a' w' hw' (by rw [Array.size_setIfInBounds]; exact hls) ?_ h'
        rw [getD_set_ne true e]; exact hk0
/-- Decided: what the law asks of a region whose last operation comes behind all others. -/
def lastB (l : List Oper) (s : Oper) : Bool :=
  noDefer (l ++ [s]) && s.guard.isNone && s.dst.isNone && ((List.range (l.length + 1)).all fun i => match (l ++ [s])[i]? with | some o => o.after.all (fun e => !Region.binds .any e || decide (e.on < i)) | none => true) &&
  ((List.range l.length).all fun j => s.after.any fun e => Region.binds .any e && e.on == j)
theorem quiet_then {id : Nat} {Q : Exit → Act → World → Prop} {a : Act} {w : World} {l : List Oper} {s : Oper} (hL : lastB l s = true) (hm : P.follows .mixedOrders = true)
    (hB : Region.lexB .any (l ++ [{ s with op := Op.move (.const (.bool true)) }]).toArray = true)
    (h : wpQuietIn F n P (l ++ [{ s with op := Op.move (.const (.bool true)) }]).toArray (fun w' => ∃ p : Regrown, w' = grow (redrawn w p.d) p.os) (fun a' => ∀ w', (∃ p : Regrown, w' = grow (redrawn w p.d) p.os) → s.wpIn F n P a' w' (fun a2 w2 => Q .normal a2 w2) Q) (l ++ [{ s with op := Op.move (.const (.bool true)) }]) a) :
    (Code.region id (l ++ [s]).toArray true).wpIn F n P Q a w := by
  simp only [Region.lexB, Bool.and_eq_true] at hB
  unfold lastB at hL
  simp only [Bool.and_eq_true] at hL
  obtain ⟨⟨⟨⟨l1, l2⟩, l3⟩, l4⟩, l5⟩ := hL
  have hg : s.guard = none := by simpa using l2
  have hd : s.dst = none := by simpa using l3
  refine wpIn_region_any hm ?_
  have hwalk := wpAnyQIn_lex (F := F) (n := n) (P := P) (C := fun w' => ∃ p : Regrown, w' = grow (redrawn w p.d) p.os) (md := .any) hB.1 (l ++ [{ s with op := Op.move (.const (.bool true)) }]) 0 (Array.replicate (l ++ [{ s with op := Op.move (.const (.bool true)) }]).toArray.size false) a (by simp) (by simpa using hB.2) h
  have hlen : ∀ x : Oper, (l ++ [x]).toArray.size = l.length + 1 := fun x => by simp
  have hget : ∀ (x : Oper) (i : Nat), (l ++ [x]).toArray[i]? = if i < l.length then l[i]? else if i = l.length then some x else none := fun x i => by
    rw [List.getElem?_toArray, List.getElem?_append]
    split
    · rfl
    · split
      · rename_i e; subst e; simp
      · rw [List.getElem?_eq_none]; simp; omega
  have hbr := bridge (F := F) (n := n) (P := P) (md := .any) (C := fun w' => ∃ p : Regrown, w' = grow (redrawn w p.d) p.os) (ops := (l ++ [s]).toArray) (ops' := (l ++ [{ s with op := Op.move (.const (.bool true)) }]).toArray) (s := s) (s' := { s with op := Op.move (.const (.bool true)) }) (k := l.length)
    (Q := fun a' => ∀ w', (∃ p : Regrown, w' = grow (redrawn w p.d) p.os) → s.wpIn F n P a' w' (fun a2 w2 => Q .normal a2 w2) Q) (Q' := Q)
    (by rw [hlen, hlen]) (by rw [hlen]; omega) (fun i => by rw [hget, hget]; split; · rfl
                                                            · split <;> rfl)
    (fun t => by
      funext j
      unfold yielded
      have e : ((l ++ [s]).toArray[j]?).bind (fun o : Oper => o.dst) = ((l ++ [{ s with op := Op.move (.const (.bool true)) }]).toArray[j]?).bind (fun o : Oper => o.dst) := by
        rw [hget, hget]
        by_cases h1 : j < l.length
        · rw [if_pos h1, if_pos h1]
        · rw [if_neg h1, if_neg h1]
          by_cases h2 : j = l.length
          · rw [if_pos h2, if_pos h2]; rfl
          · rw [if_neg h2, if_neg h2]
      rw [e])
    (fun i hi => by rw [hget, hget]; simp [hi])
    (by rw [hget]; simp) (by rw [hget]; simp) hg hg hd
    (fun i o hi e he hb => by
      have hlt : i < l.length + 1 := by
        have := (Array.getElem?_eq_some_iff.1 hi).1
        rwa [hlen] at this
      have := List.all_eq_true.1 l4 i (List.mem_range.2 hlt)
      rw [List.getElem?_toArray] at hi
      simp only [hi] at this
      have := Array.all_eq_true_iff_forall_mem.1 this e he
      simp [hb] at this
      exact this)
    (fun j hj hne => by
      rw [hlen] at hj
      have := List.all_eq_true.1 l5 j (List.mem_range.2 (by omega))
      obtain ⟨i, hi, hx⟩ := Array.any_eq_true.1 this
      simp at hx
      exact ⟨_, Array.getElem_mem hi, hx.1, hx.2⟩)
    (noDefer_spec l1) (fun a' w' hw' hq => hq w' hw')
  have := hbr _ (Array.replicate (l ++ [s]).toArray.size false) a (World.drew w) ⟨⟨w.drawn + 1, #[]⟩, by rw [grow_empty]; rfl⟩ (by simp) (by simp [hlen]) (by simpa [hlen] using hwalk)
  simpa [hlen] using this
theorem quiet_then2 {id : Nat} {Q : Exit → Act → World → Prop} {a : Act} {w : World} {L L' l : List Oper} {s : Oper} (e1 : L.dropLast = l) (e2 : L.getLast? = some s) (e3 : l ++ [{ s with op := Op.move (.const (.bool true)) }] = L') (hL : lastB l s = true) (hm : P.follows .mixedOrders = true)
    (hB : Region.lexB .any L'.toArray = true)
    (h : wpQuietIn F n P L'.toArray (fun w' => ∃ p : Regrown, w' = grow (redrawn w p.d) p.os) (fun a' => ∀ w', (∃ p : Regrown, w' = grow (redrawn w p.d) p.os) → s.wpIn F n P a' w' (fun a2 w2 => Q .normal a2 w2) Q) L' a) :
    (Code.region id L.toArray true).wpIn F n P Q a w := by
  obtain ⟨ys, rfl⟩ := List.getLast?_eq_some_iff.1 e2
  rw [List.dropLast_concat] at e1
  subst e1
  subst e3
  exact quiet_then hL hm hB h
end
end Go.Proofs.YtdijkekglaimfaaGreatDoor.Sq

/- Neighbours that meet are put together: the walk. -/
namespace Go.Proofs.YtdijkekglaimfaaGreatDoor.Sq
open Go.RowKit Go.Shelf Rc Go.Sort
attribute [local go_sem] Oper.semAt_some
theorem w0_fn (f : FuncId) : W0.fn f = True := rfl
attribute [local simp] w0_fn

set_option maxRecDepth 100000 in
set_option maxHeartbeats 4000000 in
theorem row_in {mt : S2 → S2 → Bool} {jn : S2 → S2 → S2} (M : MJ mt jn) (g : FuncId) (lb : Array Value) (l : List S2) (w : World) (hy : Yields 8 g lb l w) (eg : ∀ args w, (callFunc g args).run Tryz.prog w = .ok (.enter g args) w) (hl : l.length ≤ 99999) :
    CallsIn W0 9 Tryz.prog 24 #[.agg #[fJ, fM], .func (.func g) #[] lb] w (CollD (l.foldl (putG mt jn) []) w) := by
  have h1 : 1 ≤ 9 := by omega
  have mixed : Tryz.prog.follows .mixedOrders = true := by kernel_rfl
  refine callsIn_of_wp_marks Tryz.func24 rfl trivial ?_ rfl
  simp only [Tryz.ntmps24, List.size_toArray, List.length_cons, List.length_nil, Nat.reduceAdd, Nat.reduceSub, Array.replicate_succ, Array.replicate_zero, List.push_toArray, List.append_toArray, List.nil_append, List.cons_append]
  gi_wp2_with fail
  have bO := Boxed.new (w.alloc (.cells #[fJ, fM] 44)) 23 (.slice none 0 0)
  rw [World.size_alloc] at bO
  have hB0 : Below w.heap.size w ((w.alloc (.cells #[fJ, fM] 44)).alloc (.cells #[.slice none 0 0] 23)) := ((Below.refl _ w).alloc (Nat.le_refl _) _).alloc (by simp) _
  have hm0 : ((w.alloc (.cells #[fJ, fM] 44)).alloc (.cells #[.slice none 0 0] 23)).heap[w.heap.size]? = some (.cells #[fJ, fM] 44 (0, 0)) := (Below.heap_alloc _ _ _ (by simp)).trans (heap_alloc_new w _)
  refine wpIn_rangeFunc_ownH rfl h1 (gf := g) (lb := lb) rfl trivial eg (hy w.heap.size (Nat.le_refl _)) belowK_t (belowK_b (by simp; omega)) hB0 (fun _ => rfl)
    (fun pre W => RowI w ((zv pre).foldl (putG mt jn) []) W) (fun _ _ _ => False) (RowI.own (fun pre => (zv pre).foldl (putG mt jn) []) (by simp)) (fun _ _ _ _ _ hs _ _ => hs) ⟨⟨⟨_, bO, OwnK.nil _ _ _ _⟩, hB0⟩, hm0⟩
    (fun x a W => ∃ Y, At Y x.1 W ∧ w.heap.size ≤ Y ∧ a = { tmps := #[.agg #[fJ, fM], .func (.func g) #[] lb, .pointer (some ⟨w.heap.size, 0, none⟩), undef, .slice none 0 0, .pointer (some ⟨w.heap.size + 1, 0, none⟩), .pointer (some ⟨Y, 0, none⟩), undef, .func (.func g) #[] lb, .agg #[.string x.1.1, .string x.1.2], undef, undef, undef, undef, undef, undef, undef, undef, undef, undef, undef, undef, undef, undef, undef, undef, undef, undef, undef, undef, undef, undef, undef, undef, undef, undef, undef, undef, undef, undef, undef], defers := [] })
    (fun x a' _ W W' row h hg hr => by
      obtain ⟨Y, h1, h2, h3⟩ := h
      exact ⟨Y, h1.keptO hg (fun r e => (hr r e).2), h2, h3⟩) ?assign ?body ?done ?stop
  case assign =>
    intro l' pre x W K hI hK
    simp only [encZ]
    gi_wp2
    exact hK _ _ ((KeepsOthers.alloc _ _).from _) ((Below.refl _ _).alloc hI.coll.bel.size _) (hI.step ((Below.refl _ _).alloc (Nat.le_refl _) _)) ⟨W.heap.size, heap_alloc_new _ _, hI.coll.bel.size, rfl⟩
  case body =>
    rintro l' pre x a' W - - hI ⟨Y, hY, hYs, rfl⟩ hlt
    have HIL := Lib.hid (fun (o : List S2) (e : (zv pre).foldl (putG mt jn) [] = o) => (show (zv (pre ++ [x])).foldl (putG mt jn) [] = putG mt jn o x.1 by rw [zv_snoc, List.foldl_append, e]; rfl))
    have HLN := Lib.hid (fun (o : List S2) (e : (zv pre).foldl (putG mt jn) [] = o) => (show o.length ≤ 99999 by rw [← e]; have := foldG_len mt jn (zv pre) []; rw [zv_len] at this; simp at this; omega))
    obtain ⟨o, ho⟩ : ∃ o, (zv pre).foldl (putG mt jn) [] = o := ⟨_, rfl⟩
    have HIL := Lib.hid (HIL.out o ho)
    have HLN := Lib.hid (HLN.out o ho)
    simp only [ho] at hI
    obtain ⟨⟨⟨v, hv, hrow⟩, hB⟩, hm⟩ := hI
    clear ho
    obtain ⟨y0, y1⟩ := hY.cells
    have hc := hv.cell
    have m0 := cells_get hm 0 (v := fJ) rfl
    have m1 := cells_get hm 1 (v := fM) rfl
    obtain ⟨A1, L1, c1, rfl⟩ := hrow.sl
    have hL1 := hrow.len
    have HYP := Lib.hid hY
    obtain ⟨⟨lo, hi⟩, hs⟩ := x
    have HS := Lib.hid hs
    have HR := Lib.hid hrow
    have HBW := Lib.hid hB
    have HV := Lib.hid hv
    have HM := Lib.hid hm
    clear hY hrow hB hv hm hYs
    rcases List.eq_nil_or_concat o with rfl | ⟨o, y, rfl⟩
    · obtain rfl : L1 = 0 := hL1
      gi_wp2_with fail
      refine quiet_round (by kernel_rfl) mixed (by kernel_rfl) ?_
      repeat (gi_big_quiet_step ((fail)))
      refine wpQuietIn_nil ?_
      intro W1 hw'
      obtain ⟨⟨dq, osq⟩, hW1⟩ := hw'
      have hb1 : Below W.heap.size W W1 := by rw [hW1]; exact below_regrown W dq osq
      clear hW1
      have HK1 := Lib.hid (keepsO_below hb1)
      have HB1 := Lib.hid (hb1.mono HBW.out.size)
      have HBW1 := Lib.hid (HBW.out.trans HB1.out)
      have HV1 := Lib.hid (show Boxed W1 (w.heap.size + 1) 23 (.slice A1 0 c1) from heap_below HV.out hb1)
      have HM1 := Lib.hid (heap_below HM.out hb1)
      have HR1 := Lib.hid (HR.out.below hb1)
      have hY1 := At.cells (s := (lo, hi)) (heap_below HYP.out hb1)
      obtain ⟨z0, z1⟩ := hY1
      have zc := HV1.out.cell
      clear hb1 y0 y1 hc m0 m1
      gi_wp2_with (gi_at_builtin; refine wpListIn_app_el elemSpan rfl (.tmp 36) (.tmp 38) rfl rfl (w0 := w) (base := w.heap.size) (X := W1.heap.size) (v := .slice A1 0 c1) (xs := []) (x := (lo, hi)) (cs := #[.string lo, .string hi]) rfl rfl (HR1.out.alloc _) (heap_alloc_new W1 _) ⟨rfl, HS.out.1, HS.out.2⟩ HLN.out (HBW1.out.alloc HBW1.out.size _).size ?_; intro A5 L5 c5 w5 hown5 hg5; obtain ⟨hv5, hk5, hb5, hi5⟩ := RowI.append HV1.out HR1.out HBW1.out HM1.out hown5 hg5; have hc1 := hv5.cell; have hf1 := hv5.frozen; have HK5 := Lib.hid hk5; have HB5 := Lib.hid hb5; have HI5 := Lib.hid hi5; clear hown5 hg5 hk5 hb5 hi5)
      exact ⟨(HK1.out.trans HK5.out).from _, HB1.out.trans HB5.out, by
        show RowI w (List.foldl (putG mt jn) [] (zv (pre ++ [⟨(lo, hi), hs⟩]))) _
        rw [HIL.out]; exact HI5.out⟩
    · rw [List.concat_eq_append] at HIL HLN hL1 HR
      obtain ⟨g1, rfl, hg1, hlc, hcc⟩ := HR.out.at_ne (by simp)
      obtain ⟨m, hm⟩ : ∃ m, o.length = m := ⟨_, rfl⟩
      obtain rfl : L1 = m + 1 := by rw [hL1]; simp [hm]
      have HOM := Lib.hid hm
      have hm2 : m ≤ 99999 := by have := HLN.out; simp at this; omega
      have HRD := Lib.hid (HR.out.row HBW.out)
      obtain ⟨b2, off2, e2, hbb2, hsy1, hsy2, q0, q1⟩ := spz_at HRD.out (show m < m + 1 by omega)
      cases e2
      have hny : Rc.nth (o ++ [y]) m = y := by unfold Rc.nth; rw [List.getElem?_append_right (by omega), hm]; simp
      rw [hny] at hsy1 hsy2 q0 q1
      rw [Nat.zero_add] at q0 q1
      clear hny
      obtain ⟨ylo, yhi⟩ := y
      obtain ⟨b, hb⟩ : ∃ b, mt (ylo, yhi) (lo, hi) = b := ⟨_, rfl⟩
      have HB := Lib.hid hb
      have HSY := Lib.hid (And.intro hsy1 hsy2)
      clear hb hsy1 hsy2 hL1 hm
      have CJ := Lib.hid (show ∀ d os, CallsIn (W0.inRound l') (9 - 1 - 1 - 1) Tryz.prog 22 #[.agg #[.string ylo, .string yhi], .agg #[.string lo, .string hi]] (grow (redrawn W d) os) fun e w'' => e = .returned (.bool b) ∧ ∃ p : Regrown, w'' = grow (redrawn W p.d) p.os from
        fun d os => CallsIn.regrown_of (CallsIn.inRound l' (callsIn_wide.2 (M.joins (ylo, yhi) (lo, hi) b HB.out _))))
      have w1 : IntKind.i64.wrap ((m : Int) + 1 - 1) = (m : Int) := by rw [Int.add_sub_cancel]; exact IntWalk.i64_in _ (by omega)
      have i0 : (0 : Int) ≤ (m : Int) := by omega
      have i1 : (m : Int) < (m : Int) + 1 := by omega
      have p0 := cell_regrown hc
      have p1 := cell_regrown q0
      have p2 := cell_regrown q1
      have p3 := cell_regrown y0
      have p4 := cell_regrown y1
      have p5 := cell_regrown m0
      have p6 := cell_regrown m1
      have p7 := i0
      cases b with
      | false =>
        gi_wp2_with fail
        clear hc q0 q1 y0 y1 m0 m1
        refine quiet_round (by kernel_rfl) mixed (by kernel_rfl) ?_
        repeat (gi_big_quiet_step ((gi_at_call 22; exact CJ.out _ _)))
        refine wpQuietIn_nil ?_
        intro W1 hw'
        obtain ⟨⟨dq, osq⟩, hW1⟩ := hw'
        have hb1 : Below W.heap.size W W1 := by rw [hW1]; exact below_regrown W dq osq
        clear hW1 p0 p1 p2 p3 p4 p5 p6 p7 CJ
        have HK1 := Lib.hid (keepsO_below hb1)
        have HB1 := Lib.hid (hb1.mono HBW.out.size)
        have HBW1 := Lib.hid (HBW.out.trans HB1.out)
        have HV1 := Lib.hid (show Boxed W1 (w.heap.size + 1) 23 (.slice (some ⟨g1, 0, none⟩) (m + 1) c1) from heap_below HV.out hb1)
        have HM1 := Lib.hid (heap_below HM.out hb1)
        have HR1 := Lib.hid (HR.out.below hb1)
        have HYP1 := Lib.hid (show At Y (lo, hi) W1 from heap_below HYP.out hb1)
        obtain ⟨z0, z1⟩ := HYP1.out.cells
        have zc := HV1.out.cell
        have m0 := cells_get HM1.out 0 (v := fJ) rfl
        have m1 := cells_get HM1.out 1 (v := fM) rfl
        clear hb1
        gi_wp2_with (gi_at_builtin; refine wpListIn_app_el elemSpan rfl (.tmp 36) (.tmp 38) rfl rfl (w0 := w) (base := w.heap.size) (X := W1.heap.size) (v := .slice (some ⟨g1, 0, none⟩) (m + 1) c1) (xs := o ++ [(ylo, yhi)]) (x := (lo, hi)) (cs := #[.string lo, .string hi]) rfl rfl (HR1.out.alloc _) (heap_alloc_new W1 _) ⟨rfl, HS.out.1, HS.out.2⟩ HLN.out (HBW1.out.alloc HBW1.out.size _).size ?_; intro A5 L5 c5 w5 hown5 hg5; obtain ⟨hv5, hk5, hb5, hi5⟩ := RowI.append HV1.out HR1.out HBW1.out HM1.out hown5 hg5; have hc1 := hv5.cell; have hf1 := hv5.frozen; have HK5 := Lib.hid hk5; have HB5 := Lib.hid hb5; have HI5 := Lib.hid hi5; clear hown5 hg5 hk5 hb5 hi5)
        exact ⟨(HK1.out.trans HK5.out).from _, HB1.out.trans HB5.out, by
          show RowI w (List.foldl (putG mt jn) [] (zv (pre ++ [⟨(lo, hi), hs⟩]))) _
          rw [HIL.out, putG_new HB.out]; exact HI5.out⟩
      | true =>
        gi_wp2_with fail
        clear hc q0 q1 y0 y1 m0 m1
        refine quiet_round (by kernel_rfl) mixed (by kernel_rfl) ?_
        repeat (gi_big_quiet_step ((gi_at_call 22; exact CJ.out _ _)))
        refine wpQuietIn_nil ?_
        intro W1 hw'
        obtain ⟨⟨dq, osq⟩, hW1⟩ := hw'
        have hb1 : Below W.heap.size W W1 := by rw [hW1]; exact below_regrown W dq osq
        clear hW1 p0 p1 p2 p3 p4 p5 p6 p7 CJ
        have HK1 := Lib.hid (keepsO_below hb1)
        have HB1 := Lib.hid (hb1.mono HBW.out.size)
        have HBW1 := Lib.hid (HBW.out.trans HB1.out)
        have HV1 := Lib.hid (show Boxed W1 (w.heap.size + 1) 23 (.slice (some ⟨g1, 0, none⟩) (m + 1) c1) from heap_below HV.out hb1)
        have HM1 := Lib.hid (heap_below HM.out hb1)
        have HR1 := Lib.hid (HR.out.below hb1)
        have HYP1 := Lib.hid (show At Y (lo, hi) W1 from heap_below HYP.out hb1)
        obtain ⟨z0, z1⟩ := HYP1.out.cells
        have zc := HV1.out.cell
        have m0 := cells_get HM1.out 0 (v := fJ) rfl
        have m1 := cells_get HM1.out 1 (v := fM) rfl
        clear hb1
        obtain ⟨b2, off2, e2, _, _, _, n0, n1⟩ := spz_at (HR1.out.row HBW1.out) (show m < m + 1 by omega)
        cases e2
        have hny : Rc.nth (o ++ [(ylo, yhi)]) m = (ylo, yhi) := by unfold Rc.nth; rw [List.getElem?_append_right (by have := HOM.out; omega), HOM.out]; simp
        rw [hny] at n0 n1
        rw [Nat.zero_add] at n0 n1
        clear hny
        obtain ⟨jlo, jhi, hj⟩ : ∃ jlo jhi, jn (ylo, yhi) (lo, hi) = (jlo, jhi) := ⟨_, _, rfl⟩
        have HJN := Lib.hid hj
        have HJS := Lib.hid (show jlo.size ≤ maxLen ∧ jhi.size ≤ maxLen by have := M.size (ylo, yhi) (lo, hi) HSY.out HS.out; rw [hj] at this; exact this)
        clear hj
        gi_wp2_with fail
        have CM := Lib.hid (show ∀ d os, CallsIn (W0.inRound l') (9 - 1 - 1 - 1) Tryz.prog 23 #[.agg #[.string ylo, .string yhi], .agg #[.string lo, .string hi]] (grow (redrawn W1 d) os) fun e w'' => e = .returned (.agg #[.string jlo, .string jhi]) ∧ ∃ p : Regrown, w'' = grow (redrawn W1 p.d) p.os from
          fun d os => CallsIn.regrown_of (CallsIn.inRound l' (callsIn_wide.2 (M.join (ylo, yhi) (lo, hi) (jlo, jhi) HJN.out _))))
        have p0 := cell_regrown zc
        have p1 := cell_regrown n0
        have p2 := cell_regrown n1
        have p3 := cell_regrown z0
        have p4 := cell_regrown z1
        have p5 := cell_regrown m0
        have p6 := cell_regrown m1
        clear zc n0 n1 z0 z1 m0 m1
        refine quiet_then2 rfl rfl rfl (by kernel_rfl) mixed (by kernel_rfl) ?_
        dsimp only [List.dropLast, List.cons_append, List.nil_append, List.getLast]
        repeat (gi_big_quiet_step ((gi_at_call 23; exact CM.out _ _)))
        refine wpQuietIn_nil ?_
        intro w2 hw'
        obtain ⟨⟨dq2, osq2⟩, hW2⟩ := hw'
        have hb2 : Below W1.heap.size W1 w2 := by rw [hW2]; exact below_regrown W1 dq2 osq2
        clear hW2 p0 p1 p2 p3 p4 p5 p6 CM
        have HB2 := Lib.hid hb2
        have HR2 := Lib.hid (HR1.out.below hb2)
        have HV2 := Lib.hid (show Boxed w2 (w.heap.size + 1) 23 (.slice (some ⟨g1, 0, none⟩) (m + 1) c1) from heap_below HV1.out hb2)
        have l0 := ownK_free HR2.out (m * 2)
        have l1 := ownK_free HR2.out (m * 2 + 1)
        obtain ⟨b3, off3, e3, _, _, _, k0, k1⟩ := spz_at (HR2.out.row (HBW1.out.trans (hb2.mono HBW1.out.size))) (show m < m + 1 by omega)
        cases e3
        rw [Nat.zero_add] at k0 k1
        have hlast := RowI.last (z := (jlo, jhi)) HV2.out HR2.out (HBW1.out.trans (HB2.out.mono HBW1.out.size)) (heap_below HM1.out HB2.out) HJS.out
        rw [HOM.out] at hlast
        have HLS := Lib.hid hlast
        clear hlast hb2
        go_simp
        exact ⟨((HK1.out.trans (keepsO_below HB2.out)).trans HLS.out.1).from _, (HB1.out.trans (HB2.out.mono HBW1.out.size)).trans HLS.out.2.1, by
            show RowI w (List.foldl (putG mt jn) [] (zv (pre ++ [⟨(lo, hi), hs⟩]))) _
            rw [HIL.out, putG_join HB.out, HJN.out]; exact HLS.out.2.2⟩
  case done =>
    rintro D ys W hD hS ⟨⟨⟨v, hv, hrow⟩, hB⟩, hm⟩ hK
    have hc := hv.cell
    subst hS
    have HR := Lib.hid hrow
    have HBW := Lib.hid hB
    clear hrow hB
    gi_wp2
    refine ⟨by simp, .inl ⟨_, _, rfl, run_takeDeferred hK, ?_⟩⟩
    exact ⟨_, results_tmp rfl _ _ _, v, rfl, HR.out.keptO (grownBy_putObj' _ D _) (fun r e => by cases e; exact ⟨_, hK, rfl⟩), HBW.out.trans (belowK_b (w := w) (Nat.le_refl _) W D _ _ (by simp at hD; omega) hK rfl rfl)⟩
  case stop =>
    rintro D c pre W _ _ h _
    exact h.elim
end Go.Proofs.YtdijkekglaimfaaGreatDoor.Sq
