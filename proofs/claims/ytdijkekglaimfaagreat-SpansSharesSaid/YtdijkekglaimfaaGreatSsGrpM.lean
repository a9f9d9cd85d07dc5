/- Iterators that keep a variable of their own over a round: spans that they hand out, collected. -/
import Derived.Test.YtdijkekglaimfaaGreatSsGrpA
import Derived.Test.YtdijkekglaimfaaGreatSsGrpD
import Derived.Test.YtdijkekglaimfaaGreatSsGrpC
import Derived.Test.YtdijkekglaimfaaGreatSpan11
import Derived.Test.YtdijkekglaimfaaGreatSsGrpU
import Derived.Test.YtdijkekglaimfaaGreatSsRefFormG
namespace Go.Proofs.YtdijkekglaimfaaGreat.Sq
open Go.RowKit Go.Shelf Rc
attribute [local go_sem] Oper.semAt_some

/-- Variables that hold a span stay as they are. -/
def Fix (W W' : World) : Prop := ∀ (k : Nat) (cs : Array Value), W.heap[k]? = some (.cells cs 39 (0, 0)) → cs.size = 2 → W'.heap[k]? = some (.cells cs 39 (0, 0))
theorem Fix.refl (W : World) : Fix W W := fun _ _ h _ => h
theorem Fix.trans {A B C : World} (h : Fix A B) (h' : Fix B C) : Fix A C := fun k cs hk hs => h' k cs (h k cs hk hs) hs
theorem Fix.of_below {W W' : World} (h : RowKit.Below W.heap.size W W') : Fix W W' := fun _ _ hk _ => heap_below hk h
theorem Fix.alloc (W : World) (o : Obj) : Fix W (W.alloc o) := Fix.of_below ((RowKit.Below.refl _ _).alloc (Nat.le_refl _) o)
theorem Fix.other {W : World} {b : Nat} {cs0 : Array Value} {T : TypeId} {fz : Nat × Nat} (hb : W.heap[b]? = some (.cells cs0 T fz)) (hT : T ≠ 39) (v : Value) : Fix W (W.setCell ⟨b, 0, none⟩ v) := fun k cs hk _ => by
  refine heap_set_far hk fun e => ?_
  have e : k = b := e
  subst e
  rw [hb] at hk; cases hk; exact hT rfl
theorem Fix.putObj {W : World} {l : Nat} {o : Obj} (o' : Obj) (h : W.heap[l]? = some o) (hc : o.isCells = false) : Fix W (W.putObj l o') := fun k cs hk _ => by
  have : k ≠ l := fun e => by
    subst e
    rw [h] at hk; cases hk; cases hc
  exact (World.putObj_heap_other this).trans hk
theorem app_fix {w0 w w' : World} {base X : Nat} {v v' : Value} {xs : List S2} {x : S2} (hown : OwnK setK 39 w0 w base v xs) (h0 : xs = [] → v = .slice none 0 0) (hX : w.heap[X]? = some (.cells #[.string x.1, .string x.2] 39 (0, 0))) (hl : xs.length ≤ 99999)
    (hrun : (Builtin.append_ #[22, 22] 22 #[v, .slice (some ⟨X, 0, none⟩) 1 1]).run Tryz.prog w = .ok v' w') : Fix w w' := by
  obtain ⟨hraw, _⟩ := ownK_raw hown
  obtain ⟨z, m, hi, hzc, hm0, hm⟩ := elemSpan.info
  obtain ⟨i0, hi0, hz0, hz1, hz2⟩ := info_parts hi
  have h2 : i0.size = 2 := hz1
  have hnews : ∀ (j : Nat) u, [Value.string x.1, .string x.2][j]? = some u → w.cell? ((⟨X, 0, none⟩ : Addr).add j) = some u := fun j u hu => by
    rw [Addr.add_mid]
    exact cells_get hX (0 + j) (by rw [Nat.zero_add]; simpa using hu)
  rcases hraw.2 with ⟨rfl, hn⟩ | ⟨g, cap, cur, rfl, hg, hh, hle, hcap, hsz, htk⟩
  · rw [run_append_nil w _ _ _ i0 z elemSpan.slice hi0 hz0 ⟨X, 0, none⟩ 1 1 [.string x.1, .string x.2] (by rw [h2]; rfl) hnews (by omega) (by omega) (by rw [hz2]; omega)] at hrun
    injection hrun with _ e
    rw [← e]
    exact Fix.of_below ((RowKit.Below.refl _ _).drew.alloc (Nat.le_refl _) _)
  · have hn : 0 < xs.length := by
      cases xs with
      | nil => have := h0 rfl; cases this
      | cons => simp
    by_cases hroom : xs.length + 1 ≤ cap
    · rw [run_append_room w _ _ _ i0 elemSpan.slice hi0 g xs.length cap cur hh ⟨X, 0, none⟩ 1 1 [.string x.1, .string x.2] (by rw [h2]; rfl) hnews (by simp [Value.oneCell']) hroom (by rw [h2, hsz]; simp; omega)] at hrun
      injection hrun with _ e
      rw [← e]
      intro k cs hk hs
      rw [setRow_other _ _ _ _ (fun e => by
        subst e
        rw [hh] at hk; cases hk
        omega)]
      exact hk
    · rw [run_append_grow w _ _ _ i0 z elemSpan.slice hi0 hz0 ⟨g, 0, none⟩ xs.length cap (flat2 xs) (by rw [h2, flat2_len]) (hraw.cells rfl) ⟨X, 0, none⟩ 1 1 [.string x.1, .string x.2] (by rw [h2]; rfl) hnews (by omega) (by omega) (by
        have := nextslicecap_le (need := xs.length + 1) (old := cap) (by omega)
        rw [hz2]
        have := Nat.mul_le_mul (Nat.le_trans this (show 2 * (xs.length + 1) ≤ 200000 by omega)) hm
        omega)] at hrun
      injection hrun with _ e
      rw [← e]
      exact Fix.of_below ((RowKit.Below.refl _ _).drew.alloc (Nat.le_refl _) _)
theorem wpListIn_app_fix {F : Fence} {nF : Nat} {ops : Array Oper} {rest : List Oper} {o : Oper} {a : Act} {Q : Exit → Act → World → Prop} (hgd : o.guard = none) (s y : Operand)
    (ho : o.op = .call { callee := .builtin .append, args := #[s, y], argTypes := #[22, 22] }) (hty : o.type = 22)
    {w0 w : World} {base X : Nat} {v : Value} {xs : List S2} {x : S2} (hs : a.eval s = v) (hx : a.eval y = .slice (some ⟨X, 0, none⟩) 1 1) (hown : OwnK setK 39 w0 w base v xs) (h0 : xs = [] → v = .slice none 0 0) (hX : w.heap[X]? = some (.cells #[.string x.1, .string x.2] 39 (0, 0))) (hk : x.1.size ≤ maxLen ∧ x.2.size ≤ maxLen)
    (hl : xs.length ≤ 99999) (hbase : base ≤ w.heap.size)
    (hK : ∀ A' L' c' w', OwnK setK 39 w0 w' base (.slice A' L' c') (xs ++ [x]) → w.grownBy w' v.ownBlock → Fix w w' → wpListIn F nF Tryz.prog ops Q rest (a.put o.dst (.slice A' L' c')) w') : wpListIn F nF Tryz.prog ops Q (o :: rest) a w := by
  refine wpListIn_plain hgd fun K hK' => ?_
  obtain ⟨A, n, c, w', hrun, r1, r2⟩ := run_app_css elemSpan base v xs [x] X 0 1 1 [[.string x.1, .string x.2]] hown (Css.one ⟨rfl, hk⟩) rfl (fun p u hu => by
    rw [Nat.zero_add]
    exact cells_get hX p (by simpa using hu)) (by simpa using hl) hbase
  have hfix := app_fix hown h0 hX hl hrun
  unfold Oper.wpIn
  refine ⟨by simp [Oper.about, ho, resolve, Target.leads, Sem.run_pure], ?_⟩
  rw [Oper.semAt_plain F _ _ (by rw [ho]; intro c hc'; cases hc')]
  simp [execOp, ho, hty, resolve, invoke, builtin, hs, hx, hrun, Result.andThen]
  exact hK' _ _ (hK A n c w' r1 r2 hfix)
def Kp2 (B : Nat) (W W' : World) : Prop := RowKit.Below B W W' ∧ Fix W W'
theorem kp2_t {B : Nat} {X Y Z : World} (h : Kp2 B X Y) (k : Kp2 B Y Z) : Kp2 B X Z := ⟨h.1.trans k.1, h.2.trans k.2⟩
/-- An iterator that hands out the spans of l, and keeps variables that hold a span. -/
def Yields2 (n : Nat) (g : FuncId) (lb : Array Value) (l : List S2) (w : World) : Prop :=
  ∀ B, w.heap.size ≤ B → SeqStopsK W0 n Tryz.prog g lb encZ (Kp2 B) (fun ys => zv ys = l) (fun pre => zv pre <+: l) l.length w
structure Coll2 (w0 : World) (Bx : Nat) (l : List S2) (W : World) : Prop where
  box : ∃ v, Boxed W Bx 22 v ∧ OwnK setK 39 w0 W w0.heap.size v l ∧ (l = [] → v = .slice none 0 0)
  bel : RowKit.Below w0.heap.size w0 W
theorem Coll2.own {w0 : World} {Bx B : Nat} (hB : w0.heap.size ≤ B) : OwnFrom B (fun (pre : List Sz) W => Coll2 w0 Bx (zv pre) W) := fun s W W' row h hg hr => by
  obtain ⟨⟨v, h1, h2, h0⟩, h3⟩ := h
  refine ⟨⟨v, h1.kept hg (fun e' => ?_), h2.keptO hg (fun r e => (hr r e).2), h0⟩, h3.grown hg h3.size (fun k hk => Nat.le_trans hB (hr k hk).1)⟩
  obtain ⟨_, o, ho, hc⟩ := hr Bx e'.symm
  rw [show W.heap[Bx]? = _ from h1] at ho; cases ho; cases hc
set_option maxRecDepth 100000 in
set_option maxHeartbeats 2000000 in
theorem appendSeq2_in (g : FuncId) (lb : Array Value) (l : List S2) (w : World) (hy : Yields2 6 g lb l w) (eg : ∀ args w, (callFunc g args).run Tryz.prog w = .ok (.enter g args) w) (hl : l.length ≤ 99999) :
    CallsIn W0 7 Tryz.prog 63 #[.slice none 0 0, .func (.func g) #[] lb] w (CollD l w) := by
  have h1 : 1 ≤ 7 := by omega
  refine callsIn_of_wp_marks Tryz.func63 rfl trivial ?_ rfl
  simp only [Tryz.ntmps63, List.size_toArray, List.length_cons, List.length_nil, Nat.reduceAdd, Nat.reduceSub, Array.replicate_succ, Array.replicate_zero, List.push_toArray, List.append_toArray, List.nil_append, List.cons_append]
  gi_wp2_with fail
  have bO := Boxed.new w 22 (.slice none 0 0)
  have hB0 : RowKit.Below w.heap.size w (w.alloc (.cells #[.slice none 0 0] 22)) := (RowKit.Below.refl _ w).alloc (Nat.le_refl _) _
  refine wpIn_rangeFunc_ownH rfl h1 (gf := g) (lb := lb) rfl trivial eg (hy w.heap.size (Nat.le_refl _)) kp2_t (fun W l o o' hl h hc hw => ⟨belowK_b (by simp) W l o o' hl h hc hw, Fix.putObj o' h hc⟩) hB0 (fun _ => rfl)
    (fun pre W => Coll2 w w.heap.size (zv pre) W) (fun _ _ _ => False) (Coll2.own (by simp)) (fun _ _ _ _ _ hs _ _ => hs) ⟨⟨_, bO, OwnK.nil _ _ _ _, fun _ => rfl⟩, hB0⟩
    (fun x a W => ∃ Y, At Y x.1 W ∧ w.heap.size ≤ Y ∧ a = { tmps := #[.slice none 0 0, .func (.func g) #[] lb, .pointer (some ⟨w.heap.size, 0, none⟩), undef, .slice none 0 0, .pointer (some ⟨Y, 0, none⟩), .func (.func g) #[] lb, .agg #[.string x.1.1, .string x.1.2], undef, undef, undef, undef, undef], defers := [] })
    (fun x a' _ W W' row h hg hr => by
      obtain ⟨Y, h1, h2, h3⟩ := h
      exact ⟨Y, h1.keptO hg (fun r e => (hr r e).2), h2, h3⟩) ?assign ?body ?done ?stop
  case assign =>
    intro l pre x W K hI hK
    simp only [encZ]
    gi_wp2
    refine hK _ _ ((KeepsOthers.alloc _ _).from _) ⟨(RowKit.Below.refl _ _).alloc hI.bel.size _, Fix.alloc _ _⟩ (Coll2.own (Nat.le_refl _) pre W _ none hI (World.grownBy_alloc _ _ none) (fun r e => by cases e)) ⟨W.heap.size, heap_alloc_new _ _, hI.bel.size, rfl⟩
  case body =>
    rintro l pre x a' W - - ⟨⟨v, hv, hrow, h0⟩, hB⟩ ⟨Y, hY, hYs, rfl⟩ hlt
    have hc := hv.cell
    obtain ⟨y0, y1⟩ := hY.cells
    obtain ⟨A1, L1, c1, rfl⟩ := hrow.sl
    obtain ⟨⟨lo, hi⟩, hs1, hs2⟩ := x
    have HR := Lib.hid hrow
    have HBW := Lib.hid hB
    have H0 := Lib.hid h0
    have HV := Lib.hid hv
    have HLEN := Lib.hid (show (zv pre).length ≤ 99999 by rw [zv_len]; omega)
    have HS := Lib.hid (And.intro hs1 hs2)
    clear hrow hB hY hYs h0
    gi_wp2_with (gi_at_builtin; refine wpListIn_app_fix rfl (.tmp 8) (.tmp 10) rfl rfl (w0 := w) (base := w.heap.size) (X := W.heap.size) (v := .slice A1 L1 c1) (xs := zv pre) (x := (lo, hi)) rfl rfl (HR.out.alloc _) H0.out (heap_alloc_new W _) HS.out HLEN.out (HBW.out.alloc HBW.out.size _).size ?_; intro A5 L5 c5 w5 hown5 hg5 hfx5; obtain ⟨css5, hcss5, hraw5⟩ := hown5; obtain ⟨css1, _, hraw1⟩ := HR.out; obtain ⟨hv1, hv2, hr2, hk2, hb2⟩ := hv.appended (by decide) hraw1 HBW.out.size (Nat.le_refl _) hraw5 hg5; have hc1 := hv1.cell; have hf1 := hv1.frozen; have HK2 := Lib.hid hk2; have HB2 := Lib.hid hb2; have HV2 := Lib.hid hv2; have HF2 := Lib.hid (((Fix.alloc W _).trans hfx5).trans (Fix.other (W := w5) hv1 (by decide) (.slice A5 L5 c5))); have HO2 := Lib.hid (show OwnK setK 39 w (w5.setCell ⟨w.heap.size, 0, none⟩ (.slice A5 L5 c5)) w.heap.size (.slice A5 L5 c5) (zv pre ++ [(lo, hi)]) from ⟨css5, hcss5, hr2⟩); clear hk2 hb2 hr2 hraw5 hg5 hraw1 hv2 hcss5 hfx5)
    exact ⟨HK2.out.from _, ⟨HB2.out, HF2.out⟩, ⟨_, HV2.out, by rw [zv_snoc]; exact HO2.out, fun e => by rw [zv_snoc] at e; simp at e⟩, HBW.out.trans HB2.out⟩
  case done =>
    rintro D ys W hD hS ⟨⟨v, hv, hrow, _⟩, hB⟩ hK
    have hc := hv.cell
    subst hS
    have HR := Lib.hid hrow
    have HBW := Lib.hid hB
    clear hrow hB
    gi_wp2
    refine ⟨by simp, .inl ⟨_, _, rfl, run_takeDeferred hK, ?_⟩⟩
    exact ⟨_, results_tmp rfl _ _ _, v, rfl, HR.out.keptO (grownBy_putObj' _ D _) (fun r e => by cases e; exact ⟨_, hK, rfl⟩), HBW.out.trans (belowK_b (w := w) (Nat.le_refl _) W D _ _ (by simp at hD; omega) hK rfl rfl)⟩
  case stop =>
    rintro D c pre W _ _ h _
    exact h.elim
end Go.Proofs.YtdijkekglaimfaaGreat.Sq

/- What two sets have in common, handed out one by one. -/
namespace Go.Proofs.YtdijkekglaimfaaGreat.Sq
open Go.RowKit Go.Shelf Rc Ver
attribute [local go_sem] Oper.semAt_some

theorem meet_both (a b : Spn) (ha : a.1.size ≤ maxLen ∧ a.2.size ≤ maxLen) (hb : b.1.size ≤ maxLen ∧ b.2.size ≤ maxLen) : (a.both b).1.size ≤ maxLen ∧ (a.both b).2.size ≤ maxLen := by
  unfold Spn.both smeet
  split
  · unfold mlo mhi
    constructor <;> dsimp only <;> split
    · exact hb.1
    · exact ha.1
    · exact hb.2
    · exact ha.2
  · exact ⟨Nat.zero_le _, Nat.zero_le _⟩
theorem meets_at (a b : Spn) (r : Bool) (h : a.meets b = r) (w : World) :
    Calls Tryz.prog 49 #[.agg #[.string a.1, .string a.2], .agg #[.string b.1, .string b.2]] w fun e w' => e = .returned (.tuple #[.agg #[.string (a.both b).1, .string (a.both b).2], .bool r]) ∧ RowKit.Below w.heap.size w w' := by
  refine meet_is a.1 a.2 b.1 b.2 _ _ r ?_ w
  rw [← h]; rfl

theorem meetRow_prefix (x : Spn) (b : List Spn) (q : Nat) : meetRow x (b.take q) <+: meetRow x b := (List.take_prefix q b).filterMap _
theorem meetL_prefix (a b : List Spn) (k : Nat) : meetL (a.take k) b <+: meetL a b := by
  unfold meetL
  refine ⟨(a.drop k).flatMap fun x => meetRow x b, ?_⟩
  rw [← List.flatMap_append, List.take_append_drop]
theorem meet_prefix {a : List Spn} (b : List Spn) {k : Nat} (h : k < a.length) (q : Nat) : meetL (a.take k) b ++ meetRow (Rc.nth a k) (b.take q) <+: meetL a b := by
  refine List.IsPrefix.trans ?_ (meetL_prefix a b (k + 1))
  rw [meetL_snoc b h]
  exact (List.prefix_append_right_inj _).2 (meetRow_prefix _ _ _)

set_option maxRecDepth 100000 in
set_option maxHeartbeats 4000000 in
theorem meets_yields (n : Nat) (hn : 1 ≤ n) (X Y : Nat) (u v : Value) (a b : List Spn) (w : World) (hX : w.cell? ⟨X, 0, none⟩ = some u) (hY : w.cell? ⟨Y, 0, none⟩ = some v) (hA : RowD setK w u a) (hB : RowD setK w v b) :
    Yields2 n 64 #[.pointer (some ⟨X, 0, none⟩), .pointer (some ⟨Y, 0, none⟩)] (meetL a b) w := by
  intro B hBs l' J Jx W hW hJ hJx hYd h0
  obtain ⟨A1, L1, c1, rfl⟩ := hA.sl
  obtain ⟨A2, L2, c2, rfl⟩ := hB.sl
  have hXW : W.cell? ⟨X, 0, none⟩ = some (.slice A1 L1 c1) := (hW.cell (World.block_lt_of_cell? w _ hX)).trans hX
  have HYW := Lib.hid (fun (W' : World) (h : RowKit.Below w.heap.size w W') => (show W'.cell? ⟨Y, 0, none⟩ = some (.slice A2 L2 c2) from (h.cell (World.block_lt_of_cell? w _ hY)).trans hY))
  have H1 := Lib.hid hA
  have H2 := Lib.hid hB
  have HL1 := Lib.hid hA.len
  have HL2 := Lib.hid hB.len
  have hc1 := hA.cap
  have hc2 := hB.cap
  have HYY := Lib.hid hYd
  have HJ := Lib.hid hJ
  have HW0 := Lib.hid hW
  have HBS := Lib.hid hBs
  have mixed : Tryz.prog.follows .mixedOrders = true := by kernel_rfl
  clear hYd hJ hJx hW hA hB hX hY hBs
  refine callsIn_of_wp Tryz.func64 rfl trivial ?_ rfl
  simp only [Tryz.ntmps64, List.size_toArray, List.length_cons, List.length_nil, Nat.reduceAdd, Nat.reduceSub, Array.replicate_succ, Array.replicate_zero, List.push_toArray, List.append_toArray, List.nil_append, List.cons_append]
  gi_wp2
  gi_loopw [12] (fun i wr => ∃ (k : Nat) (pre : List Sz), k ≤ L1 ∧ i = .int .i64 k ∧ Hid (zv pre = meetL (a.take k) b) ∧ Hid (RowKit.Below w.heap.size w wr) ∧ Hid (J pre wr) ∧ Hid (W.heap.size ≤ wr.heap.size)) (fun i _ => L1 - (RowKit.intOf i).toNat)
  case atStart => exact ⟨0, [], Nat.zero_le _, rfl, Lib.hid rfl, HW0, Lib.hid h0, Lib.hid (Nat.le_refl _)⟩
  case round =>
    obtain ⟨k, pre0, hk, rfl, HP0, HW, HJ0, HSZ0⟩ := hrel
    by_cases hlt : k < L1
    · have hkl : k < a.length := by rw [← HL1.out]; exact hlt
      obtain ⟨b1, off1, rfl, hb1, m1, m2, x0, x1⟩ := spz_at (H1.out.below HW.out (Nat.le_refl _)) hlt
      have HSN := Lib.hid (meetL_snoc b hkl)
      have HPX := Lib.hid (meet_prefix b hkl)
      obtain ⟨x, hx⟩ : ∃ x, Rc.nth a k = x := ⟨_, rfl⟩
      rw [hx] at x0 x1 m1 m2 HSN HPX
      obtain ⟨xlo, xhi⟩ := x
      have HXS := Lib.hid (And.intro m1 m2)
      clear hx m1 m2 hkl
      have HWA := Lib.hid (HW.out.alloc HW.out.size (.cells #[.string xlo, .string xhi] 39))
      have HJA := Lib.hid (HJ.out pre0 wr _ none HJ0.out (World.grownBy_alloc wr (.cells #[.string xlo, .string xhi] 39) none) (fun r e => by cases e))
      have HSA := Lib.hid (show W.heap.size ≤ (wr.alloc (.cells #[.string xlo, .string xhi] 39)).heap.size by have := HSZ0.out; simp; omega)
      have yc := HYW.out _ HWA.out
      have HAT : Hid (At wr.heap.size (xlo, xhi) (wr.alloc (.cells #[.string xlo, .string xhi] 39))) := Lib.hid (heap_alloc_new _ _)
      obtain ⟨bx, hbx⟩ : ∃ bx, wr.heap.size = bx := ⟨_, rfl⟩
      gi_wp2
      simp only [hbx] at *
      obtain ⟨wo, hwo⟩ : ∃ wo : World, wo = wr.alloc (.cells #[.string xlo, .string xhi] 39) := ⟨_, rfl⟩
      simp only [← hwo] at *
      clear hwo
      gi_loopw [18] (fun i w3 => ∃ (q : Nat) (pre : List Sz), q ≤ L2 ∧ i = .int .i64 q ∧ Hid (zv pre = meetL (a.take k) b ++ meetRow (xlo, xhi) (b.take q)) ∧ Hid (RowKit.Below w.heap.size w w3) ∧ Hid (J pre w3) ∧ Hid (W.heap.size ≤ w3.heap.size) ∧ Hid (At bx (xlo, xhi) w3)) (fun i _ => L2 - (RowKit.intOf i).toNat)
      case atStart => exact ⟨0, pre0, Nat.zero_le _, rfl, Lib.hid (by rw [HP0.out]; simp [meetRow]), HWA, HJA, HSA, HAT⟩
      case round =>
        obtain ⟨q, pre, hq, rfl, HP, HW3, HJ3, HS3, HX3⟩ := hrel
        by_cases hlt2 : q < L2
        · have hql : q < b.length := by rw [← HL2.out]; exact hlt2
          obtain ⟨b2, off2, rfl, hb2, n1, n2, y0, y1⟩ := spz_at (H2.out.below HW3.out (Nat.le_refl _)) hlt2
          have HM := Lib.hid (meetRow_snoc (xlo, xhi) hql)
          have HP1 := Lib.hid (HPX.out (q + 1))
          obtain ⟨y, hy⟩ : ∃ y, Rc.nth b q = y := ⟨_, rfl⟩
          rw [hy] at y0 y1 n1 n2 HM
          obtain ⟨ylo, yhi⟩ := y
          clear hy hql
          obtain ⟨r, hr⟩ : ∃ r, Spn.meets (xlo, xhi) (ylo, yhi) = r := ⟨_, rfl⟩
          obtain ⟨z, hz⟩ : ∃ z : Sz, z.1 = Spn.both (xlo, xhi) (ylo, yhi) := ⟨⟨_, meet_both _ _ HXS.out ⟨n1, n2⟩⟩, rfl⟩
          have HC : Hid (∀ w', Calls Tryz.prog 49 #[.agg #[.string xlo, .string xhi], .agg #[.string ylo, .string yhi]] w' fun e w'' => e = .returned (.tuple #[.agg #[.string z.1.1, .string z.1.2], .bool r]) ∧ RowKit.Below w'.heap.size w' w'') := Lib.hid (fun w' => by rw [hz]; exact meets_at (xlo, xhi) (ylo, yhi) r hr w')
          rw [hr, ← hz] at HM
          clear hr hz n1 n2
          obtain ⟨wa, hwa⟩ : ∃ wa : World, wa = wr.alloc (.cells #[.string ylo, .string yhi] 39) := ⟨_, rfl⟩
          have hba : RowKit.Below wr.heap.size wr wa := by rw [hwa]; exact (RowKit.Below.refl _ _).alloc (Nat.le_refl _) _
          have HBA := Lib.hid (HW3.out.trans (hba.mono HW3.out.size))
          have HJ4 := Lib.hid (HJ.out pre wr wa none HJ3.out (grown_none hba) (fun r e => by cases e))
          have HX4 := Lib.hid (HX3.out.keptO (row := none) (grown_none hba) (fun r e => by cases e))
          have HS4 := Lib.hid (Nat.le_trans HS3.out hba.size)
          obtain ⟨q0, q1⟩ := HX4.out.cells
          rw [hwa] at q0 q1
          clear hba
          gi_wp2
          refine ⟨trivial, (callsIn_wide.2 (HC.out _)).mono ?_⟩
          rintro e w2 ⟨rfl, hb2⟩
          rw [← hwa] at hb2
          have HB5 := Lib.hid (HBA.out.trans (hb2.mono HBA.out.size))
          have HJ5 := Lib.hid (HJ.out pre wa w2 none HJ4.out (grown_none hb2) (fun r e => by cases e))
          have HX5 := Lib.hid (HX4.out.keptO (row := none) (grown_none hb2) (fun r e => by cases e))
          have HS5 := Lib.hid (Nat.le_trans HS4.out hb2.size)
          clear hb2 hwa q0 q1
          have hba : RowKit.Below w2.heap.size w2 (w2.alloc (.cells #[.string z.1.1, .string z.1.2] 39)) := (RowKit.Below.refl _ _).alloc (Nat.le_refl _) _
          have HB6 := Lib.hid (HB5.out.trans (hba.mono HB5.out.size))
          have HJ6 := Lib.hid (HJ.out pre w2 _ none HJ5.out (grown_none hba) (fun r e => by cases e))
          have HX6 := Lib.hid (HX5.out.keptO (row := none) (grown_none hba) (fun r e => by cases e))
          have HS6 := Lib.hid (Nat.le_trans HS5.out hba.size)
          clear hba
          cases r with
          | false =>
            have HPN := Lib.hid (show zv pre = meetL (a.take k) b ++ meetRow (xlo, xhi) (b.take (q + 1)) by rw [HP.out, HM.out]; simp)
            gi_wp2
            refine ⟨fun _ h => (by cases h), ?_⟩
            gi_wp2
            exact ⟨⟨q + 1, pre, by omega, by go_num, HPN, HB6, HJ6, HS6, HX6⟩, by simp [RowKit.intOf]; omega⟩
          | true =>
            have HPN := Lib.hid (show zv (pre ++ [z]) = meetL (a.take k) b ++ meetRow (xlo, xhi) (b.take (q + 1)) by rw [zv_snoc, HP.out, HM.out]; simp)
            have HPF := Lib.hid (show zv (pre ++ [z]) <+: meetL a b by rw [HPN.out]; exact HP1.out)
            have HPL := Lib.hid (show pre.length < (meetL a b).length by have := HPF.out.length_le; rw [zv_len, List.length_append, List.length_singleton] at this; exact this)
            obtain ⟨fn, tmps, assign, body, hy, hR⟩ := HYY.out pre z (w2.alloc (.cells #[.string z.1.1, .string z.1.2] 39)) HJ6.out HPL.out
            simp only [encZ] at hy hR
            gi_wp2
            refine hR.mono ?_
            rintro e W3 (⟨rfl, hJ7, hk7⟩ | ⟨rfl, hJx7⟩)
            · have HB7 := Lib.hid (HB6.out.trans (hk7.1.mono HBS.out))
              have HS7 := Lib.hid (Nat.le_trans HS6.out hk7.1.size)
              have HX7 : Hid (At bx (xlo, xhi) W3) := Lib.hid (hk7.2 _ _ HX6.out rfl)
              have HJ7 := Lib.hid hJ7
              clear hk7 hJ7
              gi_wp2
              exact ⟨⟨q + 1, pre ++ [z], by omega, by go_num, HPN, HB7, HJ7, HS7, HX7⟩, by simp [RowKit.intOf]; omega⟩
            · have HX7 := Lib.hid hJx7
              clear hJx7
              gi_wp2
              refine bodyPost_ret (results_none rfl _ _ _) rfl ?_
              exact ⟨⟨_, rfl⟩, .inr ⟨pre ++ [z], HPF.out, HX7.out⟩⟩
        · have hqL : q = L2 := by omega
          gi_wp2
          exact ⟨⟨k + 1, pre, by omega, by go_num, Lib.hid (by rw [HP.out, HSN.out, hqL, HL2.out, List.take_length]), HW3, HJ3, HS3⟩, by simp [RowKit.intOf]; omega⟩
    · have hkL : k = L1 := by omega
      gi_wp2
      go_end0
      exact ⟨⟨_, rfl⟩, .inl ⟨pre0, by rw [HP0.out, hkL, HL1.out, List.take_length], HJ0.out⟩⟩
end Go.Proofs.YtdijkekglaimfaaGreat.Sq

/- spans.Meet. -/
namespace Go.Proofs.YtdijkekglaimfaaGreat.Sq
open Go.RowKit Rc Ver Ss Go.Shelf

theorem collect2_any (g : FuncId) (lb : Array Value) (l : List S2) (w : World) (hy : Yields2 6 g lb l w) (eg : ∀ args w, (callFunc g args).run Tryz.prog w = .ok (.enter g args) w) (hl : l.length ≤ 99999) :
    Calls Tryz.prog 43 #[.func (.func g) #[] lb] w (CollD l w) := by
  have H := Lib.hid (callsIn_wide.1 (appendSeq2_in g lb l w hy eg hl))
  clear hy eg
  go_enter Tryz.func43, Tryz.ntmps43
  go_wp2_with fail
  refine H.out.mono ?_
  rintro e w1 ⟨v, rfl, hv, hb⟩
  have HV := Lib.hid hv
  clear hv
  go_wp2
  go_ret
  exact ⟨v, rfl, HV.out, hb⟩
abbrev meetsV (X Y : Nat) : Value := .func (.func 64) #[] #[.pointer (some ⟨X, 0, none⟩), .pointer (some ⟨Y, 0, none⟩)]
theorem alloc_size (w : World) (o : Obj) : (w.alloc o).heap.size = w.heap.size + 1 := by simp
theorem meets_any (A : Option Addr) (L c : Nat) (A2 : Option Addr) (L2 c2 : Nat) (w : World) :
    Calls Tryz.prog 44 #[.slice A L c, .slice A2 L2 c2] w fun e w' => e = .returned (meetsV w.heap.size (w.heap.size + 1)) ∧ w' = (w.alloc (.cells #[.slice A L c] 22)).alloc (.cells #[.slice A2 L2 c2] 22) := by
  go_enter Tryz.func44, Tryz.ntmps44
  go_wp2
  go_ret
  exact ⟨rfl, rfl⟩
theorem meets_enters : ∀ args w, (callFunc 64 args).run Tryz.prog w = .ok (.enter 64 args) w := enters_of Tryz.func64 (by kernel_rfl) rfl
theorem meets_seq {w w' : World} {A : Option Addr} {L c : Nat} {A2 : Option Addr} {L2 c2 : Nat} {a b : List S2} (h : RowD setK w (.slice A L c) a) (h2 : RowD setK w (.slice A2 L2 c2) b)
    (hw : w' = (w.alloc (.cells #[.slice A L c] 22)).alloc (.cells #[.slice A2 L2 c2] 22)) :
    Yields2 6 64 #[.pointer (some ⟨w.heap.size, 0, none⟩), .pointer (some ⟨w.heap.size + 1, 0, none⟩)] (meetL a b) w' ∧ RowKit.Below w.heap.size w w' := by
  have hb1 : RowKit.Below w.heap.size w (w.alloc (.cells #[.slice A L c] 22)) := (RowKit.Below.refl _ _).alloc (Nat.le_refl _) _
  have hn := heap_alloc_new w (.cells #[.slice A L c] 22)
  have hs := alloc_size w (.cells #[.slice A L c] 22)
  generalize w.alloc (.cells #[.slice A L c] 22) = w1 at *
  have hb2 : RowKit.Below w1.heap.size w1 w' := by rw [hw]; exact (RowKit.Below.refl _ _).alloc (Nat.le_refl _) _
  have hn2 : w'.heap[w1.heap.size]? = some (.cells #[.slice A2 L2 c2] 22) := by rw [hw]; exact heap_alloc_new _ _
  rw [hs] at hn2
  have hb := hb1.trans (hb2.mono hb1.size)
  exact ⟨meets_yields 6 (by omega) _ _ _ _ a b _ (cells_get (heap_below hn hb2) 0 rfl) (cells_get hn2 0 rfl) (h.below hb (Nat.le_refl _)) (h2.below hb (Nat.le_refl _)), hb⟩
/-- What two sets have in common. -/
noncomputable def meetF (a b : List Spn) : List Spn := if ((form a).2 && (form b).2) = true then (form (meetL (form a).1 (form b).1)).1 else []
set_option maxHeartbeats 1600000 in
theorem meetF_is (w : World) (u v : Value) (a b : List Spn) (ha : RowD setK w u a) (hb : RowD setK w v b) (hla : a.length ≤ 99999) (hlb : b.length ≤ 99999) (z : List Spn) (hz : meetF a b = z) :
    Calls Tryz.prog 19 #[u, v] w (RowsD z w) := by
  obtain ⟨A1, L1, c1, rfl⟩ := ha.sl
  obtain ⟨A2, L2, c2, rfl⟩ := hb.sl
  obtain ⟨x, p, hxp⟩ : ∃ x p, form a = (x, p) := ⟨_, _, rfl⟩
  obtain ⟨y, q, hyq⟩ : ∃ y q, form b = (y, q) := ⟨_, _, rfl⟩
  have hlx := form_le a
  have hly := form_le b
  rw [hxp] at hlx
  rw [hyq] at hly
  have HXL := Lib.hid (show (meetL x y).length ≤ 256 by have h1 : x.length ≤ 16 := hlx; have h2 : y.length ≤ 16 := hly; have := meetL_len x y; have := Nat.mul_le_mul h1 h2; omega)
  have HF := Lib.hid (forms_is w _ _ a b ha hb hla hlb _ _ hxp hyq)
  have HZ := Lib.hid (show z = if (p && q) = true then (form (meetL x y)).1 else [] by rw [← hz]; unfold meetF; rw [hxp, hyq])
  clear ha hb hxp hyq hlx hly hz
  go_enter Tryz.func19, Tryz.ntmps19
  go_wp2_with fail
  refine HF.out.mono ?_
  rintro e w1 ⟨v1, v2, rfl, hv1, hv2, hb1⟩
  obtain ⟨A3, L3, c3, rfl⟩ := hv1.sl
  obtain ⟨A4, L4, c4, rfl⟩ := hv2.sl
  have HV1 := Lib.hid hv1
  have HV2 := Lib.hid hv2
  have HB1 := Lib.hid hb1
  clear hv1 hv2 hb1
  obtain ⟨s, hs⟩ : ∃ s, (p && q) = s := ⟨_, rfl⟩
  have HS := Lib.hid hs
  simp only [hs]
  clear hs
  cases s with
  | false =>
    have HV := Lib.hid (show z = [] by rw [HZ.out, if_neg (by rw [HS.out]; decide)])
    go_wp2
    go_ret
    exact ⟨_, rfl, by rw [HV.out]; exact RowD.nil _, HB1.out⟩
  | true =>
    have HV := Lib.hid (show z = (form (meetL x y)).1 by rw [HZ.out, if_pos HS.out])
    obtain ⟨t, r, htr⟩ : ∃ t r, form (meetL x y) = (t, r) := ⟨_, _, rfl⟩
    have HT := Lib.hid htr
    clear htr
    go_wp2_with fail
    refine (meets_any A3 L3 c3 A4 L4 c4 w1).mono ?_
    rintro e wb ⟨rfl, hwb⟩
    obtain ⟨hsq, hba⟩ := meets_seq HV1.out HV2.out hwb
    have HSQ := Lib.hid hsq
    have HBA := Lib.hid (HB1.out.trans (hba.mono HB1.out.size))
    have HML := Lib.hid (show (meetL x y).length ≤ 99999 by have := HXL.out; omega)
    clear hba hsq hwb
    go_wp2_with fail
    refine (collect2_any _ _ (meetL x y) wb HSQ.out meets_enters HML.out).mono ?_
    rintro e w2 ⟨v5, rfl, hv5, hb2⟩
    obtain ⟨A5, L5, c5, rfl⟩ := hv5.sl
    have HV5 := Lib.hid (hv5.row hb2)
    have HB2 := Lib.hid (HBA.out.trans (hb2.mono HBA.out.size))
    clear hv5 hb2
    go_wp2_with fail
    refine (form_any _ _ (meetL x y) HV5.out (by have := HXL.out; omega) (t, r) HT.out).mono ?_
    rintro e w3 ⟨v6, rfl, hv6, hb3⟩
    have HV6 := Lib.hid hv6
    have HB3 := Lib.hid (HB2.out.trans (hb3.mono HB2.out.size))
    clear hv6 hb3
    go_wp2
    go_ret
    exact ⟨_, rfl, by rw [HV.out, HT.out]; exact HV6.out, HB3.out⟩
end Go.Proofs.YtdijkekglaimfaaGreat.Sq

/- The document's Meet of two sets. -/
namespace Go.Proofs.YtdijkekglaimfaaGreat.Sq
open Go.RowKit Rc Ver Ss

theorem at_written {w : World} {X : Nat} {a b : Value} (h : w.heap[X]? = some (.cells #[a, b] 39 (0, 0))) (lo hi : ByteArray) : At X (lo, hi) ((w.setCell ⟨X, 0, none⟩ (.string lo)).setCell ⟨X, 1, none⟩ (.string hi)) := by
  have h1 : (w.setCell ⟨X, 0, none⟩ (.string lo)).heap[X]? = some (.cells #[.string lo, b] 39 (0, 0)) := by
    simp [World.setCell, Array.getElem?_modify, h]
  show ((w.setCell ⟨X, 0, none⟩ (.string lo)).setCell ⟨X, 1, none⟩ (.string hi)).heap[X]? = _
  generalize w.setCell ⟨X, 0, none⟩ (.string lo) = w1 at *
  simp [World.setCell, Array.getElem?_modify, h1]
set_option maxRecDepth 100000 in
set_option maxHeartbeats 4000000 in
theorem refMeetL_is (w : World) (u v : Value) (a b : List Spn) (ha : RowD setK w u a) (hb : RowD setK w v b) (hl : a.length * b.length ≤ 1000) (z : List Spn × Bool) (hz : form (meetL a b) = z) :
    Calls Tryz.prog 20 #[u, v] w (FormD z w) := by
  obtain ⟨A1, L1, c1, rfl⟩ := ha.sl
  obtain ⟨A2, L2, c2, rfl⟩ := hb.sl
  have H1 := Lib.hid ha
  have H2 := Lib.hid hb
  have HL1 := Lib.hid ha.len
  have HL2 := Lib.hid hb.len
  have hc1 := ha.cap
  have hc2 := hb.cap
  have HZ := Lib.hid hz
  have HLL := Lib.hid (show (meetL a b).length ≤ 1000 by have := meetL_len a b; omega)
  have HB0 := Lib.hid ((RowKit.Below.refl w.heap.size w).alloc (Nat.le_refl _) (.cells #[] 39))
  clear ha hb hl hz
  go_enter Tryz.func20, Tryz.ntmps20
  go_wp2
  go_loopw [6, 14] (fun v i wr => ∃ k : Nat, k ≤ L1 ∧ i = .int .i64 k ∧ Hid (OwnK setK 39 w wr w.heap.size v (meetL (a.take k) b)) ∧ Hid (RowKit.Below w.heap.size w wr)) (fun _ i _ => L1 - (RowKit.intOf i).toNat)
  case atStart => exact ⟨0, Nat.zero_le _, rfl, Lib.hid (OwnK.empty w (heap_alloc_new _ _) (Nat.le_refl _)), HB0⟩
  case round =>
    obtain ⟨k, hk, rfl, HO, HW⟩ := hrel
    by_cases hlt : k < L1
    · have hkl : k < a.length := by rw [← HL1.out]; exact hlt
      have HSN := Lib.hid (meetL_snoc b hkl)
      have HPX := Lib.hid (meet_prefix b hkl)
      have HLT := Lib.hid hlt
      obtain ⟨x, hx⟩ : ∃ x, Rc.nth a k = x := ⟨_, rfl⟩
      rw [hx] at HSN HPX
      obtain ⟨xlo, xhi⟩ := x
      have HXX := Lib.hid hx
      clear hx hkl
      obtain ⟨wo, hwo⟩ : ∃ wo : World, wo = wr := ⟨_, rfl⟩
      subst hwo
      go_wp2
      go_loopw [6, 19] (fun v i wr => ∃ q : Nat, q ≤ L2 ∧ i = .int .i64 q ∧ Hid (OwnK setK 39 w wr w.heap.size v (meetL (a.take k) b ++ meetRow (xlo, xhi) (b.take q))) ∧ Hid (RowKit.Below w.heap.size w wr)) (fun _ i _ => L2 - (RowKit.intOf i).toNat)
      case atStart => exact ⟨0, Nat.zero_le _, rfl, Lib.hid (by have := HO.out; simpa [meetRow] using this), HW⟩
      case round =>
        clear HW HO
        obtain ⟨q, hq, rfl, HO, HW⟩ := hrel
        obtain ⟨Av, Lv, cv, rfl⟩ := HO.out.sl
        by_cases hlq : q < L2
        · have hql : q < b.length := by rw [← HL2.out]; exact hlq
          obtain ⟨b1, off1, rfl, hb1, m1, m2, x0, x1⟩ := spn_at (H1.out.below HW.out (Nat.le_refl _)) hlt
          obtain ⟨b2, off2, rfl, hb2, n1, n2, y0, y1⟩ := spn_at (H2.out.below HW.out (Nat.le_refl _)) hlq
          have HM := Lib.hid (meetRow_snoc (xlo, xhi) hql)
          have HP1 := Lib.hid (HPX.out (q + 1))
          obtain ⟨y, hy⟩ : ∃ y, Rc.nth b q = y := ⟨_, rfl⟩
          rw [hy] at y0 y1 n1 n2 HM
          rw [HXX.out] at x0 x1 m1 m2
          obtain ⟨ylo, yhi⟩ := y
          clear hy hql
          have hsz := meet_both (xlo, xhi) (ylo, yhi) ⟨m1, m2⟩ ⟨n1, n2⟩
          obtain ⟨lo, hi, r, hr⟩ : ∃ lo hi r, smeet xlo xhi ylo yhi = (lo, hi, r) := ⟨_, _, _, rfl⟩
          have HR := Lib.hid hr
          have hbo : Spn.both (xlo, xhi) (ylo, yhi) = (lo, hi) := by unfold Spn.both; rw [hr]
          have hme : Spn.meets (xlo, xhi) (ylo, yhi) = r := by unfold Spn.meets; rw [hr]
          rw [hbo] at hsz
          rw [hbo, hme] at HM
          have HSZ := Lib.hid hsz
          clear hr hbo hme hsz m1 m2 n1 n2
          have g0 : (0 : Int) ≤ (k : Int) := by omega
          have g1 : (k : Int) < (L1 : Int) := by omega
          have g2 : (0 : Int) ≤ (q : Int) := by omega
          have g3 : (q : Int) < (L2 : Int) := by omega
          have HRR := Lib.hid (RowKit.Below.refl wr.heap.size wr)
          go_upto_region 8 with fail
          have HA := Lib.hid ((HRR.out.alloc (Nat.le_refl _) (.cells #[.string ⟨#[]⟩, .string ⟨#[]⟩] 39)).drew)
          have HN := Lib.hid (show (wr.alloc (.cells #[.string ⟨#[]⟩, .string ⟨#[]⟩] 39)).drew.heap[wr.heap.size]? = some (.cells #[.string ⟨#[]⟩, .string ⟨#[]⟩] 39 (0, 0)) from heap_alloc_new wr _)
          go_cut [9, 10, 19] from 19 to 39 (fun p o i wx => ∃ X, p = .pointer (some ⟨X, 0, none⟩) ∧ o = .bool r ∧ i = .int .i64 (q : Int) ∧ Hid (At X (lo, hi) wx) ∧ Hid (RowKit.Below wr.heap.size wr wx))
          case first =>
            go_region_with (refine (refMeet_is xlo xhi ylo yhi lo hi r HR.out _).mono ?_; rintro e w1 ⟨rfl, h1⟩; first | (have HW1 := Lib.hid (RowKit.Below.trans HA.out (h1.mono HA.out.size)); have HZ1 := Lib.hid (heap_below HN.out h1); have z0 := cells_get HZ1.out 0 (v := .string ⟨#[]⟩) rfl; have z1 := cells_get HZ1.out 1 (v := .string ⟨#[]⟩) rfl; have e0 := cells_free HZ1.out 0; have e1 := cells_free HZ1.out 1; clear h1) | (have HW1 := Lib.hid (RowKit.Below.trans HRR.out.drew (h1.mono HRR.out.size)); clear h1))
            all_goals
              go_wp2_with fail
              go_meet
              first
                | exact ⟨_, rfl, rfl, rfl, Lib.hid (at_written HZ1.out lo hi), Lib.hid ((HW1.out.setCell (p := ⟨wr.heap.size, 0, none⟩) (Nat.le_refl _) (.string lo)).setCell (p := ⟨wr.heap.size, 1, none⟩) (Nat.le_refl _) (.string hi))⟩
                | exact ⟨_, rfl, rfl, rfl, Lib.hid (heap_alloc_new _ _), Lib.hid (HW1.out.alloc HW1.out.size _)⟩
          case rest =>
            obtain ⟨X, rfl, rfl, rfl, HX, HB⟩ := hcut
            have HW2 := Lib.hid (HW.out.trans (HB.out.mono HW.out.size))
            have HO2 := Lib.hid (HO.out.keptO (row := none) (grown_none HB.out) (fun r e => by cases e))
            obtain ⟨t0, t1⟩ := HX.out.cells
            clear x0 x1 y0 y1 HA HN HRR HB
            cases r with
            | false =>
              have HON := Lib.hid (show OwnK setK 39 w wc w.heap.size (.slice Av Lv cv) (meetL (a.take k) b ++ meetRow (xlo, xhi) (b.take (q + 1))) by rw [HM.out, if_neg (by decide), List.append_nil]; exact HO2.out)
              go_wp2
              go_roundw
              case rel => exact ⟨q + 1, by omega, by go_num, HON, HW2⟩
              case measure => simp [RowKit.intOf]; omega
            | true =>
              have HLEN := Lib.hid (show (meetL (a.take k) b ++ meetRow (xlo, xhi) (b.take q)).length ≤ 99999 by have h1 := (HPX.out q).length_le; have := HLL.out; omega)
              go_wp2_with (at_builtin; refine wpList_app_el elemSpan rfl (.tmp 35) (.tmp 37) rfl rfl (w0 := w) (base := w.heap.size) (X := wc.heap.size) (v := .slice Av Lv cv) (xs := meetL (a.take k) b ++ meetRow (xlo, xhi) (b.take q)) (x := (lo, hi)) (cs := #[.string lo, .string hi]) rfl rfl (HO2.out.alloc _) (heap_alloc_new wc _) ⟨rfl, HSZ.out.1, HSZ.out.2⟩ HLEN.out (HW2.out.alloc HW2.out.size _).size ?_; intro A5 L5 c5 w5 hown5 hg5; have HOW5 := Lib.hid hown5; have HW5 := Lib.hid ((HW2.out.alloc HW2.out.size (.cells #[.string lo, .string hi] 39)).grown hg5 (HW2.out.alloc HW2.out.size (.cells #[.string lo, .string hi] 39)).size (fun g hgg => (HO2.out.lt g hgg).1)); clear hown5 hg5)
              have HON := Lib.hid (show OwnK setK 39 w w5 w.heap.size (.slice A5 L5 c5) (meetL (a.take k) b ++ meetRow (xlo, xhi) (b.take (q + 1))) by have e := HM.out; simp only [if_true] at e; rw [e, ← List.append_assoc]; exact HOW5.out)
              go_roundw
              case rel => exact ⟨q + 1, by omega, by go_num, HON, HW5⟩
              case measure => simp [RowKit.intOf]; omega
        · have hqL : q = L2 := by omega
          have HON := Lib.hid (show OwnK setK 39 w wr w.heap.size (.slice Av Lv cv) (meetL (a.take (k + 1)) b) by have := HO.out; rw [hqL, HL2.out, List.take_length] at this; rw [HSN.out]; exact this)
          go_wp2
          go_roundw
          case rel => exact ⟨k + 1, by omega, by go_num, HON, HW⟩
          case measure => simp [RowKit.intOf]; omega
    · have hkL : k = L1 := by omega
      obtain ⟨Av, Lv, cv, rfl⟩ := HO.out.sl
      have HOR := Lib.hid (show RowD setK wr (.slice Av Lv cv) (meetL a b) by have := HO.out.row HW.out; rwa [hkL, HL1.out, List.take_length] at this)
      obtain ⟨m, r⟩ := z
      go_wp2_with fail
      refine (refForm_is _ _ (meetL a b) HOR.out HLL.out (m, r) HZ.out).mono ?_
      rintro e w2 ⟨v2, rfl, hv2, hb2⟩
      obtain ⟨A3, L3, c3, rfl⟩ := hv2.sl
      have HV2 := Lib.hid hv2
      have HB2 := Lib.hid (HW.out.trans (hb2.mono HW.out.size))
      clear hv2 hb2
      go_wp2
      exact bodyPost_ret (v := .tuple #[.slice A3 L3 c3, .bool r]) (by simp [results, Tryz.results20, go_sem]) rfl ⟨_, rfl, HV2.out, HB2.out⟩
end Go.Proofs.YtdijkekglaimfaaGreat.Sq
