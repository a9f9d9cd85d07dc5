/- version.Compare answers as the document says, at every two texts. -/
import Derived.Test.YtdijkekglaimfaaGreatDoorVerPart
namespace Go.Proofs.YtdijkekglaimfaaGreatDoor.Ver
open Go.RowKit Go.Shelf
attribute [local go_sem] Oper.semAt_some

theorem mayI_range (l : Bs) : 0 ≤ mayI l ∧ mayI l ≤ 1 := by unfold mayI; split <;> omega
theorem compare_none {a b : Bs} (h : (may a && may b) = false) : compare a b = mayI a - mayI b := by unfold compare; rw [h]; rfl
theorem compare_both {a b : Bs} (h : may a = true) (h2 : may b = true) : compare a b = cmpParts (cut 46 a) (cut 46 b) := by unfold compare; rw [h, h2]; rfl

theorem may_is (s : ByteArray) (b : Bool) (h : may s.data.toList = b) (w : World) :
    Calls Tryz.prog 37 #[.string s] w fun e w' => e = .returned (.bool b) ∧ Below w.heap.size w w' := by
  subst h; exact may_any s w

set_option maxHeartbeats 800000 in
theorem compare_out1 (a b : ByteArray) (w : World) (h : may a.data.toList = false) :
    Calls Tryz.prog 38 #[.string a, .string b] w fun e w' => e = .returned (.int .i64 (compare a.data.toList b.data.toList)) ∧ Below w.heap.size w w' := by
  rw [compare_none (by rw [h]; rfl)]
  obtain ⟨x, hx⟩ : ∃ x, mayI a.data.toList = x := ⟨_, rfl⟩
  obtain ⟨y, hy⟩ : ∃ y, mayI b.data.toList = y := ⟨_, rfl⟩
  have x1 := mayI_range a.data.toList
  have y1 := mayI_range b.data.toList
  rw [hx] at x1 ⊢
  rw [hy] at y1 ⊢
  obtain ⟨x1, x2⟩ := x1
  obtain ⟨y1, y2⟩ := y1
  have Hx := Lib.hid hx
  have Hy := Lib.hid hy
  have Hm := Lib.hid h
  clear hx hy h
  go_enter Tryz.func38, Tryz.ntmps38
  go_wp2_with fail
  refine (may_is a false Hm.out _).mono ?_
  rintro e w1 ⟨rfl, hb1⟩
  have cK : w1.cell? ⟨w.heap.size, 0, none⟩ = some (.int .i64 0) := (hb1.cell (by simp)).trans (cell_new_l w _ _).1
  have fK : w1.frozen? ⟨w.heap.size, 0, none⟩ = false := (hb1.frozen (by simp)).trans (cell_new_l w _ _).2
  go_wp2_with fail
  refine (rankOfText_any a _).mono ?_
  rintro e w2 ⟨rfl, hb2⟩
  rw [Hx.out]
  go_wp2_with fail
  refine (rankOfText_any b _).mono ?_
  rintro e w3 ⟨rfl, hb3⟩
  rw [Hy.out]
  have hs1 := hb1.size
  have hs2 := hb2.size
  have hs3 := hb3.size
  simp only [World.size_alloc] at hs1
  have hb12 := hb2.trans (hb3.mono hb2.size)
  have c3 : w3.cell? ⟨w.heap.size, 0, none⟩ = some (.int .i64 0) := (hb12.cell (by simp; omega)).trans cK
  have f3 : w3.frozen? ⟨w.heap.size, 0, none⟩ = false := (hb12.frozen (by simp; omega)).trans fK
  go_wp2
  refine bodyPost_ret (v := .int .i64 (x - y)) (by simp [results, Tryz.results38, go_sem, c3, World.cell?_setCell_same']) rfl ⟨rfl, ?_⟩
  exact ((((Below.refl _ w).alloc (Nat.le_refl _) _).trans (hb1.mono (by simp))).trans (hb12.mono (by omega))).setCell (p := ⟨w.heap.size, 0, none⟩) (Nat.le_refl _) _

set_option maxHeartbeats 800000 in
theorem compare_out2 (a b : ByteArray) (w : World) (h : may a.data.toList = true) (h2 : may b.data.toList = false) :
    Calls Tryz.prog 38 #[.string a, .string b] w fun e w' => e = .returned (.int .i64 (compare a.data.toList b.data.toList)) ∧ Below w.heap.size w w' := by
  rw [compare_none (by rw [h2, Bool.and_false])]
  obtain ⟨x, hx⟩ : ∃ x, mayI a.data.toList = x := ⟨_, rfl⟩
  obtain ⟨y, hy⟩ : ∃ y, mayI b.data.toList = y := ⟨_, rfl⟩
  have x1 := mayI_range a.data.toList
  have y1 := mayI_range b.data.toList
  rw [hx] at x1 ⊢
  rw [hy] at y1 ⊢
  obtain ⟨x1, x2⟩ := x1
  obtain ⟨y1, y2⟩ := y1
  have Hx := Lib.hid hx
  have Hy := Lib.hid hy
  have Hm := Lib.hid h
  have Hm2 := Lib.hid h2
  clear hx hy h h2
  go_enter Tryz.func38, Tryz.ntmps38
  go_wp2_with fail
  refine (may_is a true Hm.out _).mono ?_
  rintro e w0 ⟨rfl, hb0⟩
  go_wp2_with fail
  refine (may_is b false Hm2.out _).mono ?_
  rintro e w1 ⟨rfl, hb01⟩
  have hb1 := hb0.trans (hb01.mono hb0.size)
  have cK : w1.cell? ⟨w.heap.size, 0, none⟩ = some (.int .i64 0) := (hb1.cell (by simp)).trans (cell_new_l w _ _).1
  have fK : w1.frozen? ⟨w.heap.size, 0, none⟩ = false := (hb1.frozen (by simp)).trans (cell_new_l w _ _).2
  go_wp2_with fail
  refine (rankOfText_any a _).mono ?_
  rintro e w2 ⟨rfl, hb2⟩
  rw [Hx.out]
  go_wp2_with fail
  refine (rankOfText_any b _).mono ?_
  rintro e w3 ⟨rfl, hb3⟩
  rw [Hy.out]
  have hs1 := hb1.size
  have hs2 := hb2.size
  have hs3 := hb3.size
  simp only [World.size_alloc] at hs1
  have hb12 := hb2.trans (hb3.mono hb2.size)
  have c3 : w3.cell? ⟨w.heap.size, 0, none⟩ = some (.int .i64 0) := (hb12.cell (by simp; omega)).trans cK
  have f3 : w3.frozen? ⟨w.heap.size, 0, none⟩ = false := (hb12.frozen (by simp; omega)).trans fK
  go_wp2
  refine bodyPost_ret (v := .int .i64 (x - y)) (by simp [results, Tryz.results38, go_sem, c3, World.cell?_setCell_same']) rfl ⟨rfl, ?_⟩
  exact ((((Below.refl _ w).alloc (Nat.le_refl _) _).trans (hb1.mono (by simp))).trans (hb12.mono (by omega))).setCell (p := ⟨w.heap.size, 0, none⟩) (Nat.le_refl _) _

theorem cut_part_le (c : UInt8) : ∀ (l : Bs), ∀ p ∈ cut c l, p.length ≤ l.length
  | [], p, hp => by simp [cut] at hp; simp [hp]
  | d :: r, p, hp => by
    have ih := cut_part_le c r
    rw [cut] at hp
    split at hp
    · rcases List.mem_cons.1 hp with rfl | h
      · simp
      · have := ih p h; simp; omega
    · split at hp
      · simp at hp; subst hp; simp
      · rename_i q qs hq
        rcases List.mem_cons.1 hp with rfl | h
        · have := ih q (by rw [hq]; simp); simp; omega
        · have := ih p (by rw [hq]; simp [h]); simp; omega

theorem comparePart_is (p q : Bs) (n : Int) (hp : p.length ≤ 1000000) (hq : q.length ≤ 1000000) (h : cmpPart p q = n) (w : World) :
    Calls Tryz.prog 61 #[.string ⟨p.toArray⟩, .string ⟨q.toArray⟩] w fun e w' => e = .returned (.int .i64 n) ∧ w = w' := by
  have := comparePart_any ⟨p.toArray⟩ ⟨q.toArray⟩ w (by unfold maxLen; show p.toArray.size ≤ _; simp; omega) (by unfold maxLen; show q.toArray.size ≤ _; simp; omega)
  simpa [h] using this

/-- The parts of p are those of y, as far as p goes. -/
def prefEq (p y : List Bs) : Prop := ∀ rest, cmpParts (p ++ rest) y = cmpParts rest (y.drop p.length)
theorem prefEq_nil (y : List Bs) : prefEq [] y := fun _ => rfl
theorem hd_drop (y : List Bs) (n : Nat) : hd (y.drop n) = y.getD n [] := by
  induction y generalizing n with
  | nil => simp [hd]
  | cons q r ih => cases n with
    | zero => simp [hd]
    | succ n => simpa using ih n
theorem prefEq_snoc {p y : List Bs} {x : Bs} (h : prefEq p y) (hx : cmpPart x (y.getD p.length []) = 0) : prefEq (p ++ [x]) y := by
  intro rest
  rw [List.append_assoc, h, List.singleton_append, cps_zero (by rw [hd_drop]; exact hx), List.tail_drop]; simp
theorem prefEq_stop {p y : List Bs} {x : Bs} (h : prefEq p y) (hx : cmpPart x (hd (y.drop p.length)) ≠ 0) (rest : List Bs) : cmpParts (p ++ [x] ++ rest) y = cmpPart x (hd (y.drop p.length)) := by
  rw [List.append_assoc, h, List.singleton_append, cps_part hx]
theorem texts_get (l : List Bs) (i : Nat) (h : i < l.length) : (texts l)[i]? = some (.string ⟨(l.getD i []).toArray⟩) := by
  simp [texts, List.getElem?_eq_getElem h]

/-- What holds between two rounds. -/
def Inv (w w1 w2 : World) (g k cap : Nat) (y : List Bs) (pre : List Pt) (W : World) : Prop :=
  prefEq (bss pre) y ∧ (∃ o c, Boxed W w2.heap.size 32 (.slice (some ⟨g, o, none⟩) (k + 1 - pre.length) c) ∧ k + 1 - pre.length ≤ c ∧ (0 < k + 1 - pre.length → o = pre.length)) ∧
    W.cell? ⟨w.heap.size, 0, none⟩ = some (.int .i64 0) ∧ W.frozen? ⟨w.heap.size, 0, none⟩ = false ∧ W.ownsRow w1.heap.size 9 1 (.slice (some ⟨g, 0, none⟩) (k + 1) cap) (k + 1) (texts y)
theorem inv_own (w w1 w2 : World) (g k cap : Nat) (y : List Bs) : Own (Inv w w1 w2 g k cap y) := by
  rintro s X Y row ⟨h1, ⟨o, c, hv, h2, h3⟩, hcr, hfr, hr⟩ hg hrow
  refine ⟨h1, ⟨o, c, boxed_own w2.heap.size 32 (fun _ : Unit => .slice (some ⟨g, o, none⟩) (k + 1 - s.length) c) () X Y row hv hg hrow, h2, h3⟩, cell_kept hcr hg hrow, (frozen_kept hcr hg hrow).trans hfr, hr.kept hg (.inr fun e' => ?_)⟩
  obtain ⟨o', ho, hc⟩ := hrow g (by simpa [Value.ownBlock] using e'.symm)
  rcases hr.2 with ⟨h', _⟩ | ⟨g', cap', cur, h', _, hgb, _⟩
  · simp at h'
  · simp only [Value.slice.injEq, Option.some.injEq, Addr.mk.injEq, and_true, true_and] at h'
    obtain ⟨rfl, _⟩ := h'
    rw [hgb] at ho; cases ho; cases hc

set_option maxRecDepth 100000 in
set_option maxHeartbeats 4000000 in
theorem compare_in (a b : ByteArray) (w : World) (h : may a.data.toList = true) (h2 : may b.data.toList = true) :
    CallsIn W0 8 Tryz.prog 38 #[.string a, .string b] w fun e w' => e = .returned (.int .i64 (cmpParts (cut 46 a.data.toList) (cut 46 b.data.toList))) ∧ Below w.heap.size w w' := by
  have hsa := (may_cut h).1
  rw [size_toList] at hsa
  have hla := (may_cut h).2.1
  have hlb := (may_cut h2).2.1
  have hpb : partsOf b.data.toList = cut 46 b.data.toList := by unfold partsOf; rw [h2]; rfl
  obtain ⟨y, hy⟩ : ∃ y, cut 46 b.data.toList = y := ⟨_, rfl⟩
  obtain ⟨z, hz⟩ : ∃ z, cut 46 a.data.toList = z := ⟨_, rfl⟩
  have hyp : ∀ p ∈ y, p.length ≤ 1000000 := by
    intro p hp; rw [← hy] at hp
    have := cut_part_le 46 b.data.toList p hp
    have h3 := (may_cut h2).1
    omega
  obtain ⟨k, hk⟩ : ∃ k, y.length = k + 1 := ⟨y.length - 1, by have := cut_ne 46 b.data.toList; rw [hy] at this; cases y with | nil => exact absurd rfl this | cons _ _ => simp⟩
  rw [hy, hk] at hlb
  rw [hy] at hpb ⊢
  rw [hz] at hla ⊢
  have Hm := Lib.hid h
  have Hm2 := Lib.hid h2
  have Hpb := Lib.hid hpb
  have Hk := Lib.hid hk
  have Hz := Lib.hid hz
  clear h h2 hpb hy hk hz
  refine callsIn_of_wp_marks Tryz.func38 rfl trivial ?_ rfl
  simp only [Tryz.ntmps38, List.size_toArray, List.length_cons, List.length_nil, Nat.reduceAdd, Nat.reduceSub, Array.replicate_succ, Array.replicate_zero, List.push_toArray, List.append_toArray, List.nil_append, List.cons_append]
  gi_wp2_with fail
  refine ⟨trivial, ?_⟩
  refine (callsIn_wide.2 (may_is a true Hm.out _)).mono ?_
  rintro e w0 ⟨rfl, hb0⟩
  gi_wp2_with fail
  refine ⟨trivial, ?_⟩
  refine (callsIn_wide.2 (may_is b true Hm2.out _)).mono ?_
  rintro e w1 ⟨rfl, hb01⟩
  have hb1 := hb0.trans (hb01.mono hb0.size)
  have cK : w1.cell? ⟨w.heap.size, 0, none⟩ = some (.int .i64 0) := (hb1.cell (by simp)).trans (cell_new_l w _ _).1
  have fK : w1.frozen? ⟨w.heap.size, 0, none⟩ = false := (hb1.frozen (by simp)).trans (cell_new_l w _ _).2
  gi_wp2_with fail
  refine ⟨trivial, ?_⟩
  refine (callsIn_wide.2 (parts_own b _)).mono ?_
  rintro e w2 ⟨v, rfl, hr, hb2⟩
  rw [Hpb.out, Hk.out] at hr
  obtain ⟨g, cap, rfl⟩ := ownsRow_succ hr
  have Hr := Lib.hid hr
  clear hr Hm2 Hpb
  gi_wp2_with fail
  refine ⟨trivial, ?_⟩
  refine (callsIn_wide.2 (parts_any a _)).mono ?_
  rintro e w3 ⟨rfl, rfl⟩
  gi_wp2_with fail
  have hs1 := hb1.size
  have hs2 := hb2.size
  simp only [World.size_alloc] at hs1
  have hgw : w1.heap.size ≤ g ∧ g < w2.heap.size := Hr.out.lt g rfl
  have bO := Boxed.new w2 32 (.slice (some ⟨g, 0, none⟩) (k + 1) cap)
  have cP := cell_new_l (w2.alloc (.cells #[.slice (some ⟨g, 0, none⟩) (k + 1) cap] 32)) (.string a) 9
  rw [World.size_alloc] at cP
  have hB0 : Below w.heap.size w ((w2.alloc (.cells #[.slice (some ⟨g, 0, none⟩) (k + 1) cap] 32)).alloc (.cells #[.string a] 9)) :=
    (((((Below.refl _ w).alloc (Nat.le_refl _) _).trans (hb1.mono (by simp))).trans (hb2.mono (by omega))).alloc (by omega) _).alloc (by simp; omega) _
  have cR2 : w2.cell? ⟨w.heap.size, 0, none⟩ = some (.int .i64 0) := (hb2.cell (by simp; omega)).trans cK
  have fR2 : w2.frozen? ⟨w.heap.size, 0, none⟩ = false := (hb2.frozen (by simp; omega)).trans fK
  have hcap : k + 1 ≤ cap ∧ cap ≤ maxLen := by
    rcases Hr.out.2 with ⟨h', _⟩ | ⟨g', cap', cur, h', _, _, h5, h6, _⟩
    · simp at h'
    · simp only [Value.slice.injEq] at h'; obtain ⟨_, _, rfl⟩ := h'; exact ⟨h5, h6⟩
  refine wpIn_rangeFunc_ownF rfl (by omega : 1 ≤ 8) (gf := 76) (lb := #[.pointer (some ⟨w2.heap.size + 1, 0, none⟩)]) rfl trivial (enters_of Tryz.func76 (by kernel_rfl) rfl)
    (parts_stops 7 (by omega) (w2.heap.size + 1) a _ (Below w.heap.size) cP.1 (by omega)) belowK_t (belowK_b (by simp; omega)) (Below.refl _ _) (fun _ => rfl)
    (fun pre W => Inv w w1 w2 g k cap y pre W ∧ Below w.heap.size w W)
    (fun c pre W => ((c = .ret ∧ ∃ (p : List Bs) (x : Bs) (n : Int), bss pre = p ++ [x] ∧ prefEq p y ∧ cmpPart x (hd (y.drop p.length)) = n ∧ n ≠ 0 ∧ W.cell? ⟨w.heap.size, 0, none⟩ = some (.int .i64 n)) ∧ Below w.heap.size w W))
    (OwnFrom.and (Own.from (inv_own w w1 w2 g k cap y) _) (ownFrom_below (Nat.le_refl _) (by simp; omega)))
    (fun c => OwnFrom.and (Own.from (fun s A B row hs hg hr => ⟨hs.1, by obtain ⟨p, x, n, e1, e2, e3, e4, e5⟩ := hs.2; exact ⟨p, x, n, e1, e2, e3, e4, cell_kept e5 hg hr⟩⟩) _) (ownFrom_below (Nat.le_refl _) (by simp; omega)))
    ⟨⟨prefEq_nil y, ⟨0, cap, bO.alloc _, by simp; exact hcap.1, by simp⟩, cell_alloc_l _ (cell_alloc_l _ cR2), frozen_alloc_l _ (cell_alloc_l _ cR2) (frozen_alloc_l _ cR2 fR2), (Hr.out.alloc _).alloc _⟩, hB0⟩
    (fun x => { tmps := #[.string a, .string b, undef, undef, .pointer (some ⟨w.heap.size, 0, none⟩), .pointer (some ⟨w2.heap.size, 0, none⟩), .string ⟨x.1.toArray⟩, undef, undef, .string a, .bool true, .bool false, .bool false, .string b, .bool true, .bool false, .bool false, undef, undef, undef, undef, undef, .string b, .slice (some ⟨g, 0, none⟩) (k + 1) cap, .string a, .func (.func 76) #[] #[.pointer (some ⟨w2.heap.size + 1, 0, none⟩)], .string ⟨x.1.toArray⟩, undef, undef, undef, undef, undef, undef, undef, undef, undef, undef, undef, undef, undef, undef, undef, undef, undef, undef, undef, undef, undef], defers := [] }) ?assign ?body ?done ?stop
  case assign =>
    intro l x W K hK
    simp only [encP]
    gi_wp2
    exact hK
  case body =>
    rintro l pre x W ⟨⟨hpe, ⟨o, c, hO, hc1, hc2⟩, hcr, hfr, hown⟩, hB⟩ hplt
    have hcO := hO.cell
    have hfO := hO.frozen
    by_cases hrem : pre.length < k + 1
    · obtain ⟨r, hr⟩ : ∃ r, k + 1 - pre.length = r + 1 := ⟨k - pre.length, by omega⟩
      rw [hr] at hcO hc1
      have ho := hc2 (by omega)
      subst ho
      have hlen : (y[pre.length]?.getD []).length ≤ 1000000 := by
        rw [List.getElem?_eq_getElem (by rw [Hk.out]; omega)]; exact hyp _ (List.getElem_mem _)
      have hcell : W.cell? ⟨g, pre.length, none⟩ = some (.string ⟨(y[pre.length]?.getD []).toArray⟩) := by
        rw [hown.cellAt pre.length (by omega), texts_get y pre.length (by rw [Hk.out]; omega), List.getD_eq_getElem?_getD]
      obtain ⟨n, hn⟩ : ∃ n, cmpPart x.1 (y[pre.length]?.getD []) = n := ⟨_, rfl⟩
      have hnr := cp_range x.1 (y[pre.length]?.getD [])
      rw [hn] at hnr
      have hpos : (0 : Int) < (r : Int) + 1 := by omega
      have hmx : Tryz.prog.follows .mixedOrders = true := by kernel_rfl
      have hgO : g ≠ w2.heap.size := by omega
      have hRO : w.heap.size ≠ w2.heap.size := by omega
      have hbl : (bss pre).length = pre.length := by simp [bss]
      have hnext : ∀ o' c' : Nat, r ≤ c' → (0 < r → o' = pre.length + 1) → n = 0 →
          Inv w w1 w2 g k cap y (pre ++ [x]) (W.setCell ⟨w2.heap.size, 0, none⟩ (.slice (some ⟨g, o', none⟩) r c')).drew := by
        intro o' c' h1 h2 h3
        refine ⟨by rw [bss_snoc]; exact prefEq_snoc hpe (by rw [hbl, List.getD_eq_getElem?_getD, hn]; exact h3), ⟨o', c', ?_, ?_, ?_⟩, ?_, ?_, ?_⟩
        · have := Boxed.set (.slice (some ⟨g, o', none⟩) r c') hO
          rw [show k + 1 - (pre ++ [x]).length = r by simp; omega]; exact this
        · simp; omega
        · simp; omega
        · show (W.setCell _ _).cell? _ = _
          rw [World.cell?_setCell_other _ _ _ _ (by simp; try omega)]; exact hcr
        · show (W.setCell _ _).frozen? _ = _
          rw [World.frozen?_setCell]; exact hfr
        · exact ownsRow_setCell_other (a := ⟨w2.heap.size, 0, none⟩) hown (by simp [Value.ownBlock]; exact hgO) _
      have hRst : ∀ v : Value, (W.setCell ⟨w2.heap.size, 0, none⟩ v).cell? ⟨w.heap.size, 0, none⟩ = some (.int .i64 0) := fun v => by
        rw [World.cell?_setCell_other _ _ _ _ (by simp; try omega)]; exact hcr
      have hRfz : ∀ v : Value, (W.setCell ⟨w2.heap.size, 0, none⟩ v).frozen? ⟨w.heap.size, 0, none⟩ = false := fun v => by
        rw [World.frozen?_setCell]; exact hfr
      have hstop : n ≠ 0 → ∃ (p : List Bs) (x' : Bs) (m : Int), bss (pre ++ [x]) = p ++ [x'] ∧ prefEq p y ∧ cmpPart x' (hd (y.drop p.length)) = m ∧ m ≠ 0 ∧ m = n := fun h0 =>
        ⟨bss pre, x.1, n, bss_snoc _ _, hpe, by rw [hd_drop, hbl, List.getD_eq_getElem?_getD]; exact hn, h0, rfl⟩
      have Hn := Lib.hid hn
      have Hnext := Lib.hid hnext
      have Hstop := Lib.hid hstop
      clear hc2 hr hn hnext hstop hpe hown hbl hO
      by_cases hn0 : n = 0
      · subst hn0
        by_cases hc9 : c = 1
        · subst hc9
          obtain rfl : r = 0 := by omega
          gi_wp2_with fail
          gi_region_with_o (fail)
          all_goals
            gi_wp2_with fail
            refine ⟨trivial, ?_⟩
            refine (CallsIn.inRound l (callsIn_wide.2 (comparePart_is x.1 _ 0 x.2 hlen Hn.out _))).mono ?_
            rintro e w' ⟨rfl, rfl⟩
            gi_wp2
            exact ⟨((KeepsOthers.setCell _ _ _).trans (KeepsOthers.drew _)), ((Below.refl _ _).setCell (p := ⟨w2.heap.size, 0, none⟩) (by simp; omega) _).drew, Hnext.out pre.length 0 (by omega) (by omega) (by trivial), (hB.setCell (p := ⟨w2.heap.size, 0, none⟩) (by simp; omega) _).drew⟩
        · have hc8 : ¬ (c : Int) = 1 := by omega
          gi_wp2_with fail
          gi_region_with_o (fail)
          all_goals
            gi_wp2_with fail
            refine ⟨trivial, ?_⟩
            refine (CallsIn.inRound l (callsIn_wide.2 (comparePart_is x.1 _ 0 x.2 hlen Hn.out _))).mono ?_
            rintro e w' ⟨rfl, rfl⟩
            gi_wp2
            exact ⟨((KeepsOthers.setCell _ _ _).trans (KeepsOthers.drew _)), ((Below.refl _ _).setCell (p := ⟨w2.heap.size, 0, none⟩) (by simp; omega) _).drew, Hnext.out (pre.length + 1) (c - 1) (by omega) (by omega) (by trivial), (hB.setCell (p := ⟨w2.heap.size, 0, none⟩) (by simp; omega) _).drew⟩
      · have hnb : (n != 0) = true := by simpa using hn0
        by_cases hc9 : c = 1
        · subst hc9
          obtain rfl : r = 0 := by omega
          gi_wp2_with fail
          gi_region_with_o (fail)
          all_goals
            gi_wp2_with fail
            refine ⟨trivial, ?_⟩
            refine (CallsIn.inRound l (callsIn_wide.2 (comparePart_is x.1 _ n x.2 hlen Hn.out _))).mono ?_
            rintro e w' ⟨rfl, rfl⟩
            have hq1 := hRst (.slice (some ⟨g, pre.length, none⟩) 0 0)
            have hq2 := hRfz (.slice (some ⟨g, pre.length, none⟩) 0 0)
            gi_wp2
            obtain ⟨p, x', m, e1, e2, e3, e4, e5⟩ := Hstop.out hn0
            exact ⟨((KeepsOthers.setCell _ _ _).trans (KeepsOthers.setCell _ _ _)).trans (KeepsOthers.drew _), ⟨rfl, p, x', m, e1, e2, e3, e4, by rw [e5]; exact World.cell?_setCell_same' _ _ _ (by rw [hq1]; rfl)⟩, ((hB.setCell (p := ⟨w2.heap.size, 0, none⟩) (by simp; omega) _).setCell (p := ⟨w.heap.size, 0, none⟩) (Nat.le_refl _) _).drew⟩
        · have hc8 : ¬ (c : Int) = 1 := by omega
          gi_wp2_with fail
          gi_region_with_o (fail)
          all_goals
            gi_wp2_with fail
            refine ⟨trivial, ?_⟩
            refine (CallsIn.inRound l (callsIn_wide.2 (comparePart_is x.1 _ n x.2 hlen Hn.out _))).mono ?_
            rintro e w' ⟨rfl, rfl⟩
            have hq1 := hRst (.slice (some ⟨g, (pre.length + 1), none⟩) r (c - 1))
            have hq2 := hRfz (.slice (some ⟨g, (pre.length + 1), none⟩) r (c - 1))
            gi_wp2
            obtain ⟨p, x', m, e1, e2, e3, e4, e5⟩ := Hstop.out hn0
            exact ⟨((KeepsOthers.setCell _ _ _).trans (KeepsOthers.setCell _ _ _)).trans (KeepsOthers.drew _), ⟨rfl, p, x', m, e1, e2, e3, e4, by rw [e5]; exact World.cell?_setCell_same' _ _ _ (by rw [hq1]; rfl)⟩, ((hB.setCell (p := ⟨w2.heap.size, 0, none⟩) (by simp; omega) _).setCell (p := ⟨w.heap.size, 0, none⟩) (Nat.le_refl _) _).drew⟩
    · have hr : k + 1 - pre.length = 0 := by omega
      rw [hr] at hcO
      have hyn : y.getD pre.length [] = [] := by rw [List.getD_eq_getElem?_getD, List.getElem?_eq_none (by rw [Hk.out]; omega)]; rfl
      obtain ⟨n, hn⟩ : ∃ n, cmpPart x.1 [] = n := ⟨_, rfl⟩
      have hbl : (bss pre).length = pre.length := by simp [bss]
      have hnext : n = 0 → Inv w w1 w2 g k cap y (pre ++ [x]) W := by
        intro h3
        refine ⟨by rw [bss_snoc]; exact prefEq_snoc hpe (by rw [hbl, hyn, hn]; exact h3), ⟨o, c, ?_, by simp; omega, by simp; omega⟩, hcr, hfr, hown⟩
        rw [show k + 1 - (pre ++ [x]).length = k + 1 - pre.length by simp; omega]; exact hO
      have hstop : n ≠ 0 → ∃ (p : List Bs) (x' : Bs) (m : Int), bss (pre ++ [x]) = p ++ [x'] ∧ prefEq p y ∧ cmpPart x' (hd (y.drop p.length)) = m ∧ m ≠ 0 ∧ m = n := fun h0 =>
        ⟨bss pre, x.1, n, bss_snoc _ _, hpe, by rw [hd_drop, hbl, hyn]; exact hn, h0, rfl⟩
      have Hn := Lib.hid hn
      have Hnext := Lib.hid hnext
      have Hstop := Lib.hid hstop
      clear hc2 hr hn hnext hstop hpe hown hbl hO hyn
      by_cases hn0 : n = 0
      · subst hn0
        gi_wp2_with fail
        refine ⟨trivial, ?_⟩
        refine (CallsIn.inRound l (callsIn_wide.2 (comparePart_is x.1 [] 0 x.2 (by simp) Hn.out _))).mono ?_
        rintro e w' ⟨rfl, rfl⟩
        gi_wp2
        exact ⟨KeepsOthers.refl _, Below.refl _ _, Hnext.out (by trivial), hB⟩
      · have hnb : (n != 0) = true := by simpa using hn0
        gi_wp2_with fail
        refine ⟨trivial, ?_⟩
        refine (CallsIn.inRound l (callsIn_wide.2 (comparePart_is x.1 [] n x.2 (by simp) Hn.out _))).mono ?_
        rintro e w' ⟨rfl, rfl⟩
        gi_wp2
        obtain ⟨p, x', m, e1, e2, e3, e4, e5⟩ := Hstop.out hn0
        exact ⟨KeepsOthers.setCell _ _ _, ⟨rfl, p, x', m, e1, e2, e3, e4, by rw [e5]; exact World.cell?_setCell_same' _ _ _ (by rw [hcr]; rfl)⟩, hB.setCell (p := ⟨w.heap.size, 0, none⟩) (Nat.le_refl _) _⟩
  case done =>
    rintro D ys W hD hS ⟨⟨hpe, ⟨o, c, hO, hc1, hc2⟩, hcr, hfr, hown⟩, hB⟩ hK
    have hcO := hO.cell
    have hyl : ys.length = z.length := by rw [← Hz.out, ← hS]; simp [bss]
    have hfin : cmpParts z y = cmpParts [] (y.drop ys.length) := by
      have := hpe []
      rw [List.append_nil, hS, Hz.out] at this
      rw [this, hyl]
    by_cases hrem : ys.length < k + 1
    · obtain ⟨r, hr⟩ : ∃ r, k + 1 - ys.length = r + 1 := ⟨k - ys.length, by omega⟩
      rw [hr] at hcO hc1
      have ho := hc2 (by omega)
      subst ho
      have hlen : (y[ys.length]?.getD []).length ≤ 1000000 := by
        rw [List.getElem?_eq_getElem (by rw [Hk.out]; omega)]; exact hyp _ (List.getElem_mem _)
      have hcell : W.cell? ⟨g, ys.length, none⟩ = some (.string ⟨(y[ys.length]?.getD []).toArray⟩) := by
        rw [hown.cellAt ys.length (by omega), texts_get y ys.length (by rw [Hk.out]; omega), List.getD_eq_getElem?_getD]
      have hv : cmpParts z y = cmpPart [] (y[ys.length]?.getD []) := by
        rw [hfin, List.drop_eq_getElem_cons (by rw [Hk.out]; omega), cps_end, List.getElem?_eq_getElem (by rw [Hk.out]; omega)]; rfl
      obtain ⟨n, hn⟩ : ∃ n, cmpPart [] (y[ys.length]?.getD []) = n := ⟨_, rfl⟩
      rw [hn] at hv
      have hpos : (0 : Int) < (r : Int) + 1 := by omega
      have Hn := Lib.hid hn
      have Hv := Lib.hid hv
      clear hS hpe hc2 hr hfin hyl hn hv hown hO
      gi_wp2_with fail
      refine ⟨trivial, ?_⟩
      refine (callsIn_wide.2 (comparePart_is [] _ n (by simp) hlen Hn.out _)).mono ?_
      rintro e w' ⟨rfl, rfl⟩
      gi_wp2
      have hK' := (KeepsOthers.setCell W ⟨w.heap.size, 0, none⟩ (.int .i64 n)).same D _ hK rfl
      refine ⟨by simp, .inl ⟨_, _, rfl, run_takeDeferred hK', ?_⟩⟩
      have hc5 := cell_kept (World.cell?_setCell_same' W ⟨w.heap.size, 0, none⟩ (.int .i64 n) (by rw [hcr]; rfl)) (grownBy_putObj' _ D (.deferred none)) (fun r e => by cases e; exact ⟨_, hK', rfl⟩)
      refine ⟨.int .i64 n, ?_, by rw [Hv.out], (hB.setCell (p := ⟨w.heap.size, 0, none⟩) (Nat.le_refl _) _).trans (belowK_b (w := w) (Nat.le_refl _) _ D _ _ (by simp at hD; omega) hK' rfl rfl)⟩
      simp [results, Tryz.f38, go_sem, hc5]
    · have hr : k + 1 - ys.length = 0 := by omega
      rw [hr] at hcO
      have hv : cmpParts z y = 0 := by rw [hfin, List.drop_of_length_le (by rw [Hk.out]; omega)]; rfl
      have Hv := Lib.hid hv
      clear hS hpe hc2 hr hfin hyl hv hown hO
      gi_wp2
      have hK' := (KeepsOthers.setCell W ⟨w.heap.size, 0, none⟩ (.int .i64 0)).same D _ hK rfl
      refine ⟨by simp, .inl ⟨_, _, rfl, run_takeDeferred hK', ?_⟩⟩
      have hc5 := cell_kept (World.cell?_setCell_same' W ⟨w.heap.size, 0, none⟩ (.int .i64 0) (by rw [hcr]; rfl)) (grownBy_putObj' _ D (.deferred none)) (fun r e => by cases e; exact ⟨_, hK', rfl⟩)
      refine ⟨.int .i64 0, ?_, by rw [Hv.out], (hB.setCell (p := ⟨w.heap.size, 0, none⟩) (Nat.le_refl _) _).trans (belowK_b (w := w) (Nat.le_refl _) _ D _ _ (by simp at hD; omega) hK' rfl rfl)⟩
      simp [results, Tryz.f38, go_sem, hc5]
  case stop =>
    rintro D c pre W hD hpre ⟨⟨rfl, p, x, n, e1, e2, e3, e4, hcr⟩, hB⟩ hK
    have hv : cmpParts z y = n := by
      obtain ⟨rest, hrest⟩ := hpre
      rw [e1, Hz.out] at hrest
      rw [← hrest, prefEq_stop e2 (by rw [e3]; exact e4), e3]
    have Hv := Lib.hid hv
    clear hv hpre e1 e2 e3
    gi_wp2
    refine ⟨by simp, .inl ⟨_, _, rfl, run_takeDeferred hK, ?_⟩⟩
    have hc5 := cell_kept hcr (grownBy_putObj' _ D (.deferred none)) (fun r e => by cases e; exact ⟨_, hK, rfl⟩)
    refine ⟨.int .i64 n, ?_, by rw [Hv.out], hB.trans (belowK_b (w := w) (Nat.le_refl _) W D _ _ (by simp at hD; omega) hK rfl rfl)⟩
    simp [results, Tryz.f38, go_sem, hc5]

theorem compare_any (a b : ByteArray) (w : World) :
    Calls Tryz.prog 38 #[.string a, .string b] w fun e w' => e = .returned (.int .i64 (compare a.data.toList b.data.toList)) ∧ Below w.heap.size w w' := by
  cases h : may a.data.toList with
  | false => exact compare_out1 a b w h
  | true => cases h2 : may b.data.toList with
    | false => exact compare_out2 a b w h h2
    | true => rw [compare_both h h2]; exact callsIn_wide.1 (compare_in a b w h h2)

end Go.Proofs.YtdijkekglaimfaaGreatDoor.Ver
