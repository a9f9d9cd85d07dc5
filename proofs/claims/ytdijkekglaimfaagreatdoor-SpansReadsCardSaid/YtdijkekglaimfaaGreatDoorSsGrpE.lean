/- The first span of which something is told. -/
import Derived.Test.YtdijkekglaimfaaGreatDoorSsGrpB
import Derived.Shelf.Abstract
import Derived.Test.YtdijkekglaimfaaGreatDoorRcOwnK
import Derived.Test.YtdijkekglaimfaaGreatDoorSsGrpD
import Derived.Test.YtdijkekglaimfaaGreatDoorSpan13
import Derived.Test.YtdijkekglaimfaaGreatDoorSpan14
import Derived.Test.YtdijkekglaimfaaGreatDoorSsGrpC
import Derived.Test.YtdijkekglaimfaaGreatDoorSpan6
import Derived.Test.YtdijkekglaimfaaGreatDoorSpan3
namespace Go.Proofs.YtdijkekglaimfaaGreatDoor.Ver
open Go.RowKit Rc

/-- What a test of spans tells, whichever world it is asked in. -/
def Tells (g : FuncId) (cb : Array Value) (w : World) (p : Spn → Bool) : Prop := ∀ (lo hi : ByteArray) (W : World), Below w.heap.size w W → Calls Tryz.prog g (#[.agg #[.string lo, .string hi]] ++ cb) W fun e W' => e = .returned (.bool (p (lo, hi))) ∧ Below W.heap.size W W'
def IdxD (b : Bool) (w : World) (e : Ending) (w' : World) : Prop := ∃ n : Int, e = .returned (.int .i64 n) ∧ decide (0 ≤ n) = b ∧ Below w.heap.size w w'
set_option maxRecDepth 100000 in
theorem indexFunc_is (w : World) (v : Value) (l : List Spn) (h : RowD setK w v l) (g : FuncId) (cb : Array Value) (p : Spn → Bool) (hg : Tells g cb w p) (eg : ∀ args w, (callFunc g args).run Tryz.prog w = .ok (.enter g args) w) (b : Bool) (hb : l.any p = b) :
    Calls Tryz.prog 36 #[v, .func (.func g) #[] cb] w (IdxD b w) := by
  obtain ⟨A, L, c, rfl⟩ := h.sl
  have H := Lib.hid h
  have HL := Lib.hid h.len
  have hc := h.cap
  have HB := Lib.hid hb
  have HG := Lib.hid hg
  have HB0 := Lib.hid (Below.refl w.heap.size w)
  clear h hb hg
  go_enter Tryz.func36, Tryz.ntmps36
  go_wp2
  go_loopw [8] (fun i wr => ∃ k : Nat, k ≤ L ∧ i = .int .i64 k ∧ Hid ((l.take k).any p = false) ∧ Hid (Below w.heap.size w wr)) (fun i _ => L - (RowKit.intOf i).toNat)
  case atStart => exact ⟨0, Nat.zero_le _, rfl, Lib.hid rfl, HB0⟩
  case round =>
    obtain ⟨k, hk, rfl, HN, HW⟩ := hrel
    by_cases hlt : k < L
    · have hkl : k < l.length := by rw [← HL.out]; exact hlt
      obtain ⟨bb, off, rfl, hb', _, _, c0, c1⟩ := spn_at (H.out.below HW.out (Nat.le_refl _)) hlt
      obtain ⟨s, hs⟩ : ∃ s, Rc.nth l k = s := ⟨_, rfl⟩
      rw [hs] at c0 c1
      obtain ⟨lo, hi⟩ := s
      have HS := Lib.hid (show (l.take (k + 1)).any p = p (lo, hi) by rw [Rc.any_snoc hkl, HN.out, hs]; rfl)
      have HT := Lib.hid (fun (ht : p (lo, hi) = true) => (show l.any p = true from any_at hkl (by rw [hs]; exact ht)))
      clear hs hkl
      obtain ⟨r, hr⟩ : ∃ r, p (lo, hi) = r := ⟨_, rfl⟩
      have HRR := Lib.hid hr
      clear hr
      go_wp2_with fail
      refine (HG.out lo hi _ HW.out).mono ?_
      rintro e w1 ⟨rfl, hb1⟩
      have HW1 := Lib.hid (HW.out.trans (hb1.mono HW.out.size))
      clear hb1
      rw [HRR.out]
      cases r with
      | true =>
        have HV := Lib.hid (show b = true by rw [← HB.out]; exact HT.out HRR.out)
        go_wp2
        go_ret
        exact ⟨(k : Int), rfl, by rw [HV.out]; exact decide_eq_true (by omega), HW1.out⟩
      | false =>
        have HV := Lib.hid (show (l.take (k + 1)).any p = false by rw [HS.out, HRR.out])
        go_wp2
        go_roundw
        case rel => exact ⟨k + 1, by omega, by go_num, HV, HW1⟩
        case measure => simp [RowKit.intOf]; omega
    · obtain rfl : k = L := by omega
      have HV := Lib.hid (show b = false by
        rw [← HB.out]
        have h0 := HN.out
        rwa [HL.out, List.take_length] at h0)
      go_wp2
      go_ret
      exact ⟨-1, rfl, by rw [HV.out]; rfl, HW.out⟩
theorem containsFunc_is (w : World) (v : Value) (l : List Spn) (h : RowD setK w v l) (g : FuncId) (cb : Array Value) (p : Spn → Bool) (hg : Tells g cb w p) (eg : ∀ args w, (callFunc g args).run Tryz.prog w = .ok (.enter g args) w) (b : Bool) (hb : l.any p = b) :
    Calls Tryz.prog 19 #[v, .func (.func g) #[] cb] w fun e w' => e = .returned (.bool b) ∧ Below w.heap.size w w' := by
  obtain ⟨A, L, c, rfl⟩ := h.sl
  have HI := Lib.hid (indexFunc_is w _ l h g cb p hg eg b hb)
  clear h hg eg hb
  go_enter Tryz.func19, Tryz.ntmps19
  go_wp2_with fail
  refine HI.out.mono ?_
  rintro e w1 ⟨n, rfl, hn, hb1⟩
  have HN := Lib.hid hn
  have HB1 := Lib.hid hb1
  clear hn hb1
  go_wp2
  go_ret
  exact ⟨by rw [← HN.out]; rfl, HB1.out⟩
end Go.Proofs.YtdijkekglaimfaaGreatDoor.Ver

/- Spans that may not be; the versions that are in a set. -/
namespace Go.Proofs.YtdijkekglaimfaaGreatDoor.Ver
open Go.RowKit Rc

theorem formF_tells (w : World) : Tells 20 #[] w (fun s => !smay s.lo s.hi) := by
  intro lo hi W hW
  have hb0 := below_new W (.cells #[.string lo, .string hi] 31)
  obtain ⟨r, hr⟩ : ∃ r, smay lo.data.toList hi.data.toList = r := ⟨_, rfl⟩
  have HR := Lib.hid hr
  show Calls Tryz.prog 20 #[.agg #[.string lo, .string hi]] W fun e W' => e = .returned (.bool (!smay lo.data.toList hi.data.toList)) ∧ Below W.heap.size W W'
  rw [hr]
  clear hr hW
  go_enter Tryz.func20, Tryz.ntmps20
  go_wp2_with fail
  refine (spanMay_is lo hi r HR.out _).mono ?_
  rintro e w1 ⟨rfl, h1⟩
  have hb1 := hb0.trans (h1.mono hb0.size)
  go_wp2
  go_ret
  exact ⟨rfl, hb1⟩
def AllD (r : List ByteArray) (w : World) (e : Ending) (w' : World) : Prop := ∃ v', e = .returned v' ∧ OwnS w' w.heap.size v' r ∧ Below w.heap.size w w'
end Go.Proofs.YtdijkekglaimfaaGreatDoor.Ver

/- The form of a set, as the program makes it. -/
namespace Go.Proofs.YtdijkekglaimfaaGreatDoor.Sq
open Go.RowKit Go.Shelf Rc Go.Sort Ver Ss

def SortedD (l : List S2) (w : World) (e : Ending) (w' : World) : Prop := ∃ (v : Value) (s : List S2), e = .returned v ∧ s.Perm l ∧ (s.Pairwise fun a b => spanSp.low a b = true) ∧ RowD setK w' v s ∧ RowKit.Below w.heap.size w w'
theorem sortedFunc_is (g : FuncId) (lb : Array Value) (l : List S2) (w : World) (hy : Yields 6 g lb l w) (eg : ∀ args w, (callFunc g args).run Tryz.prog w = .ok (.enter g args) w) (ho : spanSp.Oks l) (hl : l.length ≤ 99999) :
    Calls Tryz.prog 43 #[.func (.func g) #[] lb, .func (.func 44) #[] #[]] w (SortedD l w) := by
  have H := Lib.hid (collect_any g lb l w hy eg hl)
  have HO := Lib.hid ho
  clear hy eg ho
  go_enter Tryz.func43, Tryz.ntmps43
  go_wp2_with fail
  refine H.out.mono ?_
  rintro e w1 ⟨v, rfl, hv, hb⟩
  have HS := Lib.hid (sort_is hv hb HO.out hl hb.size)
  have HB := Lib.hid hb
  clear hv hb
  go_wp2_with fail
  refine HS.out.mono ?_
  rintro e w2 ⟨rfl, s, hp, hs, hr, hb2⟩
  have HP := Lib.hid (And.intro hp hs)
  have HR := Lib.hid hr
  have HB2 := Lib.hid (HB.out.trans hb2)
  clear hp hs hr hb2
  go_wp2
  go_ret
  exact ⟨v, s, rfl, HP.out.1, HP.out.2, HR.out, HB2.out⟩
def RisingD (l : List S2) (w : World) (e : Ending) (w' : World) : Prop := ∃ (X : Nat) (s : List S2), e = .returned (valsV X) ∧ s.Perm l ∧ (s.Pairwise fun a b => spanSp.low a b = true) ∧ (∀ n, 1 ≤ n → Yields n 62 #[.pointer (some ⟨X, 0, none⟩)] s w') ∧ RowKit.Below w.heap.size w w'
theorem rising_is (w : World) (v : Value) (l : List S2) (h : RowD setK w v l) (ho : spanSp.Oks l) (hl : l.length ≤ 99999) :
    Calls Tryz.prog 25 #[v] w (RisingD l w) := by
  obtain ⟨A, L, c, rfl⟩ := h.sl
  have hb0 : RowKit.Below w.heap.size w (w.alloc (.cells #[.slice A L c] 23)) := (RowKit.Below.refl _ _).alloc (Nat.le_refl _) _
  have H := Lib.hid (sortedFunc_is _ _ l _ (values_seq 6 (by omega) h) values_enters ho hl)
  clear h ho
  go_enter Tryz.func25, Tryz.ntmps25
  go_wp2_with fail
  refine (values_any A L c w).mono ?_
  rintro e w1 ⟨rfl, rfl⟩
  go_wp2_with fail
  refine H.out.mono ?_
  rintro e w2 ⟨v2, s, rfl, hp, hs, hr, hb2⟩
  obtain ⟨A2, L2, c2, rfl⟩ := hr.sl
  have HP := Lib.hid (And.intro hp hs)
  have HR := Lib.hid hr
  have HB2 := Lib.hid (hb0.trans (hb2.mono hb0.size))
  clear hp hs hr hb2
  go_wp2_with fail
  refine (values_any A2 L2 c2 w2).mono ?_
  rintro e w3 ⟨rfl, rfl⟩
  go_wp2
  go_ret
  exact ⟨_, s, rfl, HP.out.1, HP.out.2, fun n hn => values_seq n hn HR.out, HB2.out.alloc HB2.out.size _⟩

/-- What the program puts together. -/
theorem mj : MJ Spn.meets Spn.join where
  joins a b r h w := by
    obtain ⟨lo, hi, q, hq⟩ : ∃ lo hi q, smeet a.1 a.2 b.1 b.2 = (lo, hi, q) := ⟨_, _, _, rfl⟩
    have e : q = r := by rw [← h]; unfold Spn.meets; rw [hq]
    rw [← e]
    exact joins_is a.1 a.2 b.1 b.2 lo hi q hq w
  join a b c h w := join_is a.1 a.2 b.1 b.2 c.1 c.2 h w
  size a b ha hb := by
    unfold Spn.join sjoin
    split
    · unfold jlo jhi
      constructor <;> dsimp only <;> split
      · exact hb.1
      · exact ha.1
      · exact hb.2
      · exact ha.2
    · exact ⟨Nat.zero_le _, Nat.zero_le _⟩
theorem putG_put : putG Spn.meets Spn.join = Sp.put spanSp := by
  funext o x
  rcases List.eq_nil_or_concat o with rfl | ⟨o, y, rfl⟩
  · rfl
  · rw [List.concat_eq_append]
    cases h : Spn.meets y x with
    | true => rw [putG_join h, Sp.put_join (K := spanSp) h]; rfl
    | false => rw [putG_new h, Sp.put_new (K := spanSp) h]
theorem any_not {l : List Spn} : (l.any fun s => !smay s.lo s.hi) = false ↔ spanSp.Oks l := by
  rw [List.any_eq_false]
  constructor
  · intro h s hs
    have := h s hs
    show smay s.lo s.hi = true
    simpa using this
  · intro h s hs
    have : smay s.lo s.hi = true := h s hs
    rw [this]; decide
theorem run_store_func {P : Program} {w : World} {a : Addr} {f : Fn} {b c : Array Value} {v0 : Value} (hc : w.cell? a = some v0) (hf : w.frozen? a = false) : (store a (.func f b c)).run P w = .ok () (w.setCell a (.func f b c)) := by simp [store, Sem.run, hc, hf]
def CFormD (r : List Spn × Bool) (w : World) (e : Ending) (w' : World) : Prop := ∃ v, e = .returned (.tuple #[v, .bool r.2]) ∧ RowD setK w' v r.1 ∧ RowKit.Below w.heap.size w w'
set_option maxRecDepth 100000 in
set_option maxHeartbeats 1600000 in
theorem form_any (w : World) (v : Value) (l : List Spn) (h : RowD setK w v l) (hl : l.length ≤ 99999) (r : List Spn × Bool) (hr : form l = r) :
    Calls Tryz.prog 9 #[v] w (CFormD r w) := by
  obtain ⟨A, L, c, rfl⟩ := h.sl
  have H := Lib.hid h
  have HR := Lib.hid hr
  clear h hr
  obtain ⟨b, hb⟩ : ∃ b, (l.any fun s => !smay s.lo s.hi) = b := ⟨_, rfl⟩
  have HB := Lib.hid hb
  have HC := Lib.hid (containsFunc_is w (.slice A L c) l H.out 20 #[] _ (formF_tells w) (Go.Proofs.enters_of Tryz.func20 (by kernel_rfl) rfl) b hb)
  clear hb
  go_enter Tryz.func9, Tryz.ntmps9
  go_wp2_with fail
  refine HC.out.mono ?_
  rintro e w1 ⟨rfl, hb1⟩
  have HB1 := Lib.hid hb1
  cases b with
  | true =>
    have HV := Lib.hid (show r = ([], false) by
      rw [← HR.out]
      refine form_not fun ho => ?_
      rw [any_not.2 ho] at HB
      exact absurd HB.out (by decide))
    go_wp2
    exact bodyPost_ret (v := .tuple #[.slice none 0 0, .bool false]) (by simp [results, Tryz.results9, go_sem]) rfl ⟨_, by rw [HV.out], by rw [HV.out]; exact RowD.nil _, HB1.out⟩
  | false =>
    have ho : spanSp.Oks l := any_not.1 HB.out
    have HO := Lib.hid ho
    have hZ := heap_alloc_new w1 (.cells #[.nilFunc, .nilFunc] 44)
    have n0 := cells_get hZ 0 (v := .nilFunc) rfl
    have n1 := cells_get hZ 1 (v := .nilFunc) rfl
    have e0 := cells_free hZ 0
    have hZ1 := heap_alloc_new w1 (.cells #[fJ, .nilFunc] 44)
    have n2 := cells_get hZ1 1 (v := .nilFunc) rfl
    have e1 := cells_free hZ1 1
    have s0 := run_store_func (P := Tryz.prog) (f := .func 22) (b := #[]) (c := #[]) n0 e0
    have s1 := run_store_func (P := Tryz.prog) (f := .func 23) (b := #[]) (c := #[]) n2 e1
    have HM := Lib.hid (heap_alloc_new w1 (.cells #[fJ, fM] 44))
    have HW := Lib.hid (show RowKit.Below w.heap.size w (w1.alloc (.cells #[fJ, fM] 44)) from hb1.alloc hb1.size _)
    have CR := Lib.hid (fun (W : World) (hW : RowKit.Below w.heap.size w W) => rising_is W (.slice A L c) l (H.out.below hW (Nat.le_refl _)) ho hl)
    have HO := Lib.hid ho
    clear hb1 ho hZ hZ1
    go_wp2_with fail
    clear n0 n1 e0 n2 e1 s0 s1
    generalize hW2 : w1.alloc (.cells #[fJ, fM] 44) = W2 at HM HW ⊢
    clear hW2
    have m0 := cells_get HM.out 0 (v := fJ) rfl
    have m1 := cells_get HM.out 1 (v := fM) rfl
    have HWd := Lib.hid (HW.out.drew)
    go_region_with (first
      | (go_at_call 25; refine (CR.out _ HWd.out).mono ?_; rintro e w2 ⟨X, s, rfl, hp, hs, hy, hb2⟩; have HP2 := Lib.hid (And.intro hp hs); have HY2 := Lib.hid hy; have hb2' : RowKit.Below W2.heap.size W2 w2 := (RowKit.Below.refl W2.heap.size W2).drew.trans hb2; have HW2 := Lib.hid (HW.out.trans (hb2'.mono HW.out.size)); have q0 := cells_get (heap_below HM.out hb2') 0 (v := fJ) rfl; have q1 := cells_get (heap_below HM.out hb2') 1 (v := fM) rfl; clear hp hs hy hb2 hb2')
      | (go_at_call 24; refine (callsIn_wide.1 (row_in mj _ _ s w2 (HY2.out 8 (by omega)) values_enters (by rw [HP2.out.1.length_eq]; exact hl))).mono ?_; rintro e w3 ⟨v3, rfl, hv3, hb3⟩; obtain ⟨A3, L3, c3, rfl⟩ := hv3.sl; have HR3 := Lib.hid (hv3.row hb3); have HW3 := Lib.hid (HW2.out.trans (hb3.mono HW2.out.size)); clear hv3 hb3))
    all_goals
      have hcn : spanSp.Canon l (s.foldl (putG Spn.meets Spn.join) []) := by
        rw [putG_put]
        exact (Sp.Half.fold (Sp.Half.start (fun x hx => HO.out x (HP2.out.1.mem_iff.1 hx)) HP2.out.2)).same_of (.of_mem fun x => HP2.out.1.mem_iff.symm)
      have HCN := Lib.hid hcn
      have HL3 := Lib.hid HR3.out.len
      have hc3 := HR3.out.cap
      clear hcn
      by_cases h16 : 16 < L3
      · have g16 : (16 : Int) < (L3 : Int) := by omega
        have HV := Lib.hid (show r = ([], false) by rw [← HR.out]; exact form_long HCN.out (by rw [← HL3.out]; exact h16))
        go_wp2
        exact bodyPost_ret (v := .tuple #[.slice none 0 0, .bool false]) (by simp [results, Tryz.results9, go_sem]) rfl ⟨_, by rw [HV.out], by rw [HV.out]; exact RowD.nil _, HW3.out⟩
      · have g16 : ¬ (16 : Int) < (L3 : Int) := by omega
        have HV := Lib.hid (show r = (_, true) by rw [← HR.out]; exact form_is HO.out HCN.out (by rw [← HL3.out]; omega))
        go_wp2
        exact bodyPost_ret (v := .tuple #[.slice A3 L3 c3, .bool true]) (by simp [results, Tryz.results9, go_sem]) rfl ⟨_, by rw [HV.out], by rw [HV.out]; exact HR3.out, HW3.out⟩
end Go.Proofs.YtdijkekglaimfaaGreatDoor.Sq

/- The text of a set: the program's, and the document's. -/
namespace Go.Proofs.YtdijkekglaimfaaGreatDoor.Sq
open Go.RowKit Rc Ver Ss

def tx (s : Spn) : ByteArray := stext s.1 s.2
/-- As the document builds it. -/
def textT (m : List Spn) : Nat → ByteArray
  | 0 => ⟨#[]⟩
  | n + 1 => (if 0 < n then textT m n ++ ⟨#[44]⟩ else textT m n) ++ tx (Rc.nth m n)
def textM (m : List Spn) : ByteArray := if m = [] then ⟨#[33]⟩ else textT m m.length
noncomputable def textF (l : List Spn) : ByteArray := if (form l).2 = true then textM (form l).1 else ⟨#[]⟩
theorem ba_app (a b : ByteArray) : (a ++ b).data.toList = a.data.toList ++ b.data.toList := by simp
theorem join_snoc (xs : List Bs) (x sep : Bs) (h : xs ≠ []) : Lib.join (xs ++ [x]) sep = Lib.join xs sep ++ sep ++ x := by
  cases xs with
  | nil => exact absurd rfl h
  | cons y r =>
    rw [List.cons_append, Lib.join_cons, Lib.join_cons]
    simp [Lib.joinTail, List.append_assoc]
theorem textT_join (m : List Spn) : ∀ {n : Nat}, n ≤ m.length → (textT m n).data.toList = Lib.join ((m.take n).map fun s => (tx s).data.toList) [44]
  | 0, _ => rfl
  | n + 1, h => by
    have ih := textT_join m (n := n) (by omega)
    rw [Rc.take_snoc (by omega), List.map_append]
    unfold textT
    by_cases h0 : 0 < n
    · rw [if_pos h0, ba_app, ba_app, ih]
      show _ = Lib.join (_ ++ [_]) _
      rw [join_snoc _ _ _ (by
        intro e
        have := congrArg List.length e
        rw [List.length_map, List.length_take, List.length_nil] at this
        omega)]
    · rw [if_neg h0, ba_app, ih]
      obtain rfl : n = 0 := by omega
      simp [Lib.join, List.intercalate]
theorem ok_small {s : Spn} (h : s.ok) : s.1.size ≤ 40 ∧ s.2.size ≤ 40 := by
  have h1 := (smay_bounds h).1
  have h2 := (smay_bounds h).2
  constructor
  · cases e : s.lo.isEmpty with
    | true =>
      have : s.1.data.toList.length = 0 := by
        show s.lo.length = 0
        rw [List.isEmpty_iff.1 e]; rfl
      rw [size_toList] at this; omega
    | false =>
      rw [e] at h1
      have := (may_cut (by simpa using h1)).1
      rw [size_toList] at this; exact this
  · cases e : s.hi.isEmpty with
    | true =>
      have : s.2.data.toList.length = 0 := by
        show s.hi.length = 0
        rw [List.isEmpty_iff.1 e]; rfl
      rw [size_toList] at this; omega
    | false =>
      rw [e] at h2
      have := (may_cut (by simpa using h2)).1
      rw [size_toList] at this; exact this
theorem tx_size {s : Spn} (h : s.ok) : (tx s).size ≤ 81 := by
  obtain ⟨h1, h2⟩ := ok_small h
  unfold tx
  rw [stext_may h]
  unfold rtext
  split
  · omega
  · rw [ByteArray.size_append, ByteArray.size_append]
    show s.1.size + 1 + s.2.size ≤ 81
    omega
theorem textT_size (m : List Spn) (ho : spanSp.Oks m) : ∀ {n : Nat}, n ≤ m.length → (textT m n).size ≤ n * 82
  | 0, _ => Nat.le_refl _
  | n + 1, h => by
    have ih := textT_size m ho (n := n) (by omega)
    have h1 := tx_size (ho _ (Rc.nth_mem (show n < m.length by omega)))
    unfold textT
    split
    · rw [ByteArray.size_append, ByteArray.size_append]
      show (textT m n).size + 1 + _ ≤ _
      omega
    · rw [ByteArray.size_append]
      omega

set_option maxRecDepth 100000 in
theorem refTextL_is (w : World) (v : Value) (m : List Spn) (h : RowD setK w v m) (ho : spanSp.Oks m) (hl : m.length ≤ 16) (t : ByteArray) (ht : textM m = t) :
    Calls Tryz.prog 16 #[v] w fun e w' => e = .returned (.string t) ∧ RowKit.Below w.heap.size w w' := by
  obtain ⟨A, L, c, rfl⟩ := h.sl
  have H := Lib.hid h
  have HL := Lib.hid h.len
  have hc := h.cap
  have HO := Lib.hid ho
  have HB0 := Lib.hid (RowKit.Below.refl w.heap.size w)
  have hL16 : L ≤ 16 := by rw [h.len]; exact hl
  by_cases hL0 : L = 0
  · have HT := Lib.hid (show t = ⟨#[33]⟩ by
      rw [← ht]
      unfold textM
      rw [if_pos (List.eq_nil_of_length_eq_zero (by rw [← HL.out]; exact hL0))])
    subst hL0
    clear h ho ht
    go_enter Tryz.func16, Tryz.ntmps16
    go_wp2
    go_ret
    exact ⟨by rw [HT.out]; rfl, HB0.out⟩
  · have HT := Lib.hid (show t = textT m L by
      rw [← ht]
      unfold textM
      rw [if_neg (fun e => hL0 (by rw [HL.out, e]; rfl)), HL.out])
    have g0 : ((L : Int) == 0) = false := by simp; omega
    clear h ho ht
    go_enter Tryz.func16, Tryz.ntmps16
    go_wp2
    go_loopw [3, 10] (fun s i wr => ∃ (k : Nat) (u : ByteArray), k ≤ L ∧ i = .int .i64 k ∧ s = .string u ∧ Hid (textT m k = u) ∧ u.size ≤ 2000 ∧ Hid (RowKit.Below w.heap.size w wr)) (fun _ i _ => L - (RowKit.intOf i).toNat)
    case atStart => exact ⟨0, ⟨#[]⟩, Nat.zero_le _, rfl, rfl, Lib.hid rfl, Nat.zero_le _, HB0⟩
    case round =>
      obtain ⟨k, u, hk, rfl, rfl, HU, hu, HW⟩ := hrel
      by_cases hlt : k < L
      · have hkl : k < m.length := by rw [← HL.out]; exact hlt
        obtain ⟨bb, off, rfl, hb', _, _, c0, c1⟩ := spz_at (H.out.below HW.out (Nat.le_refl _)) hlt
        have hok : (Rc.nth m k).ok := HO.out _ (Rc.nth_mem hkl)
        obtain ⟨s1, s2⟩ := ok_small hok
        have HTX := Lib.hid (show rtext (Rc.nth m k).1 (Rc.nth m k).2 = tx (Rc.nth m k) by unfold tx; rw [stext_may hok])
        have hsz := textT_size m HO.out (n := k + 1) hkl
        have HSZ := Lib.hid (show (textT m (k + 1)).size ≤ 2000 by omega)
        have hts := tx_size hok
        obtain ⟨s, hs⟩ : ∃ s, Rc.nth m k = s := ⟨_, rfl⟩
        rw [hs] at c0 c1 s1 s2 HTX hts
        have HN := Lib.hid hs
        clear hs hkl hok hsz
        obtain ⟨lo, hi⟩ := s
        obtain ⟨q, hq⟩ : ∃ q, tx (lo, hi) = q := ⟨_, rfl⟩
        rw [hq] at hts
        have HQ := Lib.hid hq
        clear hq
        have g1 : ((⟨#[44]⟩ : ByteArray).size) = 1 := rfl
        by_cases h0 : 0 < k
        · have g2 : (0 : Int) < (k : Int) := by omega
          have HT1 := Lib.hid (show textT m (k + 1) = u ++ ⟨#[44]⟩ ++ q by
            rw [show textT m (k + 1) = (if 0 < k then textT m k ++ ⟨#[44]⟩ else textT m k) ++ tx (Rc.nth m k) from rfl, if_pos h0, HU.out, HN.out, HQ.out])
          have g3 : (u ++ ⟨#[44]⟩).size ≤ 4000 := by rw [ByteArray.size_append]; show u.size + 1 ≤ 4000; omega
          go_wp2_with fail
          refine (refText_is lo hi q (by rw [HTX.out, HQ.out]) (by show lo.size ≤ _; have : lo.size ≤ 40 := s1; omega) (by show hi.size ≤ _; have : hi.size ≤ 40 := s2; omega) _).mono ?_
          rintro e w1 ⟨rfl, hb1⟩
          have HW1 := Lib.hid (HW.out.trans (hb1.mono HW.out.size))
          clear hb1
          go_wp2
          go_roundw
          case rel => exact ⟨k + 1, _, by omega, by go_num, rfl, HT1, by rw [← HT1.out]; exact HSZ.out, HW1⟩
          case measure => simp [RowKit.intOf]; omega
        · have g2 : ¬ (0 : Int) < (k : Int) := by omega
          have HT1 := Lib.hid (show textT m (k + 1) = u ++ q by
            rw [show textT m (k + 1) = (if 0 < k then textT m k ++ ⟨#[44]⟩ else textT m k) ++ tx (Rc.nth m k) from rfl, if_neg h0, HU.out, HN.out, HQ.out])
          go_wp2_with fail
          refine (refText_is lo hi q (by rw [HTX.out, HQ.out]) (by show lo.size ≤ _; have : lo.size ≤ 40 := s1; omega) (by show hi.size ≤ _; have : hi.size ≤ 40 := s2; omega) _).mono ?_
          rintro e w1 ⟨rfl, hb1⟩
          have HW1 := Lib.hid (HW.out.trans (hb1.mono HW.out.size))
          clear hb1
          go_wp2
          go_roundw
          case rel => exact ⟨k + 1, _, by omega, by go_num, rfl, HT1, by rw [← HT1.out]; exact HSZ.out, HW1⟩
          case measure => simp [RowKit.intOf]; omega
      · obtain rfl : k = L := by omega
        have HV := Lib.hid (show u = t by rw [HT.out, HU.out])
        go_wp2
        go_ret
        exact ⟨by rw [← HV.out]; rfl, HW.out⟩
/-- The texts of a set's spans, in a row of the call's own. -/
theorem textL_join {m : List Spn} (hm : m ≠ []) : (⟨(Lib.join ((m.map tx).map (·.data.toList)) (⟨#[44]⟩ : ByteArray).data.toList).toArray⟩ : ByteArray) = textM m := by
  unfold textM
  rw [if_neg hm]
  refine ba_ext ?_
  rw [textT_join m (Nat.le_refl _), List.take_length, List.map_map]
  rfl
theorem join_len (m : List Spn) (ho : spanSp.Oks m) (hl : m.length ≤ 16) : (Lib.join ((m.map tx).map (·.data.toList)) (⟨#[44]⟩ : ByteArray).data.toList).length ≤ 140737488355328 := by
  have e := textT_join m (Nat.le_refl _)
  rw [List.take_length] at e
  have e2 : (m.map tx).map (·.data.toList) = m.map fun s => (tx s).data.toList := by rw [List.map_map]; rfl
  rw [e2, show (⟨#[44]⟩ : ByteArray).data.toList = [44] from rfl, ← e, size_toList]
  have := textT_size m ho (Nat.le_refl _)
  omega
set_option maxRecDepth 100000 in
set_option maxHeartbeats 1600000 in
theorem text_is (w : World) (v : Value) (l : List Spn) (h : RowD setK w v l) (hl : l.length ≤ 99999) (t : ByteArray) (ht : textF l = t) :
    Calls Tryz.prog 8 #[v] w fun e w' => e = .returned (.string t) ∧ RowKit.Below w.heap.size w w' := by
  obtain ⟨A, L, c, rfl⟩ := h.sl
  have H := Lib.hid h
  obtain ⟨m, b, hmb⟩ : ∃ m b, form l = (m, b) := ⟨_, _, rfl⟩
  have HF := Lib.hid hmb
  have HT := Lib.hid (show t = if b = true then textM m else ⟨#[]⟩ by rw [← ht]; unfold textF; rw [hmb])
  have HFT := Lib.hid (fun (hb : b = true) => (show spanSp.Oks m ∧ m.length ≤ 16 by
    have := form_true (l := l) (by rw [hmb]; exact hb)
    rw [hmb] at this
    exact ⟨this.2.1.row.oks, this.2.2⟩))
  clear h ht hmb
  go_enter Tryz.func8, Tryz.ntmps8
  go_wp2_with fail
  refine (form_any _ _ l H.out hl (m, b) HF.out).mono ?_
  rintro e w1 ⟨v1, rfl, hv1, hb1⟩
  obtain ⟨A1, L1, c1, rfl⟩ := hv1.sl
  have HV1 := Lib.hid hv1
  have HL1 := Lib.hid hv1.len
  have hc1 := hv1.cap
  have HB1 := Lib.hid hb1
  clear hv1 hb1
  cases b with
  | false =>
    have HV := Lib.hid (show t = ⟨#[]⟩ by rw [HT.out]; rfl)
    go_wp2
    go_ret
    exact ⟨by rw [HV.out]; rfl, HB1.out⟩
  | true =>
    obtain ⟨hO, h16⟩ := HFT.out rfl
    have HO := Lib.hid hO
    have hL16 : L1 ≤ 16 := by rw [HL1.out]; exact h16
    have HT2 := Lib.hid (show t = textM m by rw [HT.out]; rfl)
    clear hO
    by_cases hL0 : L1 = 0
    · have HV := Lib.hid (show t = ⟨#[33]⟩ by
        rw [HT2.out]
        unfold textM
        rw [if_pos (List.eq_nil_of_length_eq_zero (by rw [← HL1.out]; exact hL0))])
      subst hL0
      go_wp2
      go_ret
      exact ⟨by rw [HV.out]; rfl, HB1.out⟩
    · have hm0 : m ≠ [] := fun e => hL0 (by rw [HL1.out, e]; rfl)
      have HM0 := Lib.hid hm0
      have g0 : ((L1 : Int) == 0) = false := by simp; omega
      have HL16 := Lib.hid h16
      clear hm0 h16
      go_wp2
      go_loopw [5, 20] (fun u i wr => ∃ k : Nat, k ≤ L1 ∧ i = .int .i64 k ∧ Hid (OwnS wr w1.heap.size u ((m.take k).map tx)) ∧ Hid (RowKit.Below w1.heap.size w1 wr)) (fun _ i _ => L1 - (RowKit.intOf i).toNat)
      case atStart => exact ⟨0, Nat.zero_le _, rfl, Lib.hid (OwnV.nil _ _), Lib.hid (RowKit.Below.refl _ _)⟩
      case round =>
        obtain ⟨k, hk, rfl, HN, HW⟩ := hrel
        obtain ⟨A2, L2, c2, rfl⟩ := HN.out.sl
        by_cases hlt : k < L1
        · have hkl : k < m.length := by rw [← HL1.out]; exact hlt
          obtain ⟨bb, off, rfl, hb', _, _, c0, c1'⟩ := spz_at (HV1.out.below HW.out (Nat.le_refl _)) hlt
          have hok : (Rc.nth m k).ok := HO.out _ (Rc.nth_mem hkl)
          obtain ⟨s1, s2⟩ := ok_small hok
          have HE := Lib.hid (show (m.take (k + 1)).map tx = (m.take k).map tx ++ [tx (Rc.nth m k)] by rw [Rc.take_snoc hkl, List.map_append]; rfl)
          have HLEN := Lib.hid (show (((m.take k).map tx).map encS).length ≤ 200000 by rw [List.length_map, List.length_map, List.length_take]; have := HL16.out; omega)
          obtain ⟨s, hs⟩ : ∃ s, Rc.nth m k = s := ⟨_, rfl⟩
          rw [hs] at c0 c1' s1 s2 HE
          clear hs hkl hok
          obtain ⟨lo, hi⟩ := s
          obtain ⟨q, hq⟩ : ∃ q, tx (lo, hi) = q := ⟨_, rfl⟩
          rw [hq] at HE
          have HQ := Lib.hid hq
          clear hq
          have HWA := Lib.hid (HW.out.alloc HW.out.size (.cells #[.string lo, .string hi] 31))
          go_wp2_with fail
          refine (spanText_is lo hi q HQ.out (by show lo.size ≤ _; have : lo.size ≤ 40 := s1; omega) (by show hi.size ≤ _; have : hi.size ≤ 40 := s2; omega) _).mono ?_
          rintro e w2 ⟨rfl, hb2⟩
          have HN2 := Lib.hid ((HN.out.alloc (.cells #[.string lo, .string hi] 31)).below hb2)
          have HW2 := Lib.hid (HWA.out.trans (hb2.mono HWA.out.size))
          clear hb2
          go_wp2_with (at_builtin; refine wpList_app_one oneStr rfl (.tmp 24) (.tmp 27) rfl rfl (base := w1.heap.size) (X := w2.heap.size) (v := .slice A2 L2 c2) (u := .string q) (xs := ((m.take k).map tx).map encS) rfl rfl ((HN2.out.alloc _).raw) (heap_alloc_new w2 _) rfl HLEN.out (HW2.out.alloc HW2.out.size _).size ?_; intro A5 L5 c5 w5 hown5 hg5; have HN5 := Lib.hid (OwnV.snoc (enc := encS) (l := (m.take k).map tx) (x := q) hown5); have HW5 := Lib.hid ((HW2.out.alloc HW2.out.size (.cells #[.string q] 9)).grown hg5 (HW2.out.alloc HW2.out.size (.cells #[.string q] 9)).size (fun g hgg => (HN2.out.lt g hgg).1)); clear hown5 hg5)
          go_roundw
          case rel => exact ⟨k + 1, by omega, by go_num, Lib.hid (by rw [HE.out]; exact HN5.out), HW5⟩
          case measure => simp [RowKit.intOf]; omega
        · obtain rfl : k = L1 := by omega
          have hn := HN.out
          rw [HL1.out, List.take_length] at hn
          have HR := Lib.hid hn
          rcases hn.2 with ⟨e, h0⟩ | ⟨g, cap, cur, e, hg, hh, hle, hcap, _, htk⟩
          · exact absurd h0 (fun e => HM0.out (List.map_eq_nil_iff.1 (List.eq_nil_of_length_eq_zero e)))
          · injection e with e1 e2 e3
            subst e1; subst e2; subst e3
            have hcells : ∀ (j : Nat) x, (m.map tx)[j]? = some x → wr.cell? ⟨g, 0 + j, none⟩ = some (.string x) := fun j x hx => by
              rw [Nat.zero_add]
              refine cells_get hh j ?_
              have e1 : ((m.map tx).map encS)[j]? = some (.string x) := by rw [List.getElem?_map, hx]; rfl
              rw [← htk, List.getElem?_take] at e1
              split at e1
              · simpa using e1
              · cases e1
            have hJ := Tryz.strings_Join g 0 c2 (m.map tx) ⟨#[44]⟩ wr hcells (lt_of_heap hh) (by rw [List.length_map]; have := HL16.out; omega) hle (join_len m HO.out HL16.out)
            rw [List.length_map, textL_join HM0.out, ← HT2.out] at hJ
            have HJ := Lib.hid hJ
            clear hJ
            clear hh htk hcells
            go_wp2_with fail
            refine HJ.out.mono ?_
            rintro e w3 ⟨rfl, hb3⟩
            have HW3 := Lib.hid (HB1.out.trans ((HW.out.trans (hb3.mono HW.out.size)).mono HB1.out.size))
            clear hb3
            go_wp2
            go_ret
            exact ⟨rfl, HW3.out⟩
end Go.Proofs.YtdijkekglaimfaaGreatDoor.Sq

/- The chapter's example. -/
namespace Go.Proofs.YtdijkekglaimfaaGreatDoor.Sq
open Go.RowKit Rc Ver Ss

def exL : List Spn := [(⟨#[53]⟩, ⟨#[53]⟩), (⟨#[50]⟩, ⟨#[51]⟩), (⟨#[49]⟩, ⟨#[50]⟩)]
def exM : List Spn := [(⟨#[49]⟩, ⟨#[51]⟩), (⟨#[53]⟩, ⟨#[53]⟩)]
theorem ex_oks : spanSp.Oks exL := fun s hs => by
  simp [exL] at hs
  rcases hs with rfl | rfl | rfl <;> (show smay _ _ = true; decide +kernel)
theorem ex_fold : [((⟨#[49]⟩ : ByteArray), (⟨#[50]⟩ : ByteArray)), (⟨#[50]⟩, ⟨#[51]⟩), (⟨#[53]⟩, ⟨#[53]⟩)].foldl (Sp.put spanSp) [] = exM := by decide +kernel
theorem ex_form : form exL = (exM, true) := by
  refine form_is ex_oks ?_ (by decide)
  rw [← ex_fold]
  refine (Sp.Half.fold (Sp.Half.start (fun s hs => ?_) ?_)).same_of (.of_mem fun s => ?_)
  · refine ex_oks s ?_
    simp at hs
    simp [exL]
    rcases hs with rfl | rfl | rfl <;> simp
  · simp only [List.pairwise_cons, List.mem_cons, List.not_mem_nil, or_false, List.Pairwise.nil, and_true]
    refine ⟨fun b hb => ?_, fun b hb => ?_, fun b hb => hb.elim⟩
    · rcases hb with rfl | rfl <;> decide +kernel
    · subst hb; decide +kernel
  · simp [exL]
    constructor
    · rintro (h | h | h) <;> simp [h]
    · rintro (h | h | h) <;> simp [h]
theorem ex_text : textF exL = ⟨#[49, 58, 51, 44, 53]⟩ := by
  unfold textF
  rw [ex_form]
  decide +kernel
theorem ex_textM : textF exM = ⟨#[49, 58, 51, 44, 53]⟩ := by
  have h := form_form (l := exL) (by rw [ex_form])
  rw [ex_form] at h
  unfold textF
  rw [h]
  decide +kernel
set_option maxRecDepth 100000 in
theorem fixed3_any (w : World) : Calls Tryz.prog 4 #[] w fun e w' => e = .returned (.bool true) ∧ RowKit.Below w.heap.size w w' := by
  have hZ := heap_alloc_new w (.cells #[.string ⟨#[53]⟩, .string ⟨#[53]⟩, .string ⟨#[50]⟩, .string ⟨#[51]⟩, .string ⟨#[49]⟩, .string ⟨#[50]⟩] 31)
  have hB : RowKit.Below w.heap.size w (w.alloc (.cells #[.string ⟨#[53]⟩, .string ⟨#[53]⟩, .string ⟨#[50]⟩, .string ⟨#[51]⟩, .string ⟨#[49]⟩, .string ⟨#[50]⟩] 31)) := (RowKit.Below.refl _ _).alloc (Nat.le_refl _) _
  have hR : RowD setK (w.alloc (.cells #[.string ⟨#[53]⟩, .string ⟨#[53]⟩, .string ⟨#[50]⟩, .string ⟨#[51]⟩, .string ⟨#[49]⟩, .string ⟨#[50]⟩] 31)) (.slice (some ⟨w.heap.size, 0, none⟩) 3 3) exL :=
    ⟨_, 3, rfl, by decide, by decide, fun _ => ⟨_, 0, rfl, by simp, fun j hj => ⟨[.string (Rc.nth exL j).1, .string (Rc.nth exL j).2], ⟨rfl, by
      have hj : j < 3 := hj
      match j, hj with
      | 0, _ => exact ⟨by decide, by decide⟩
      | 1, _ => exact ⟨by decide, by decide⟩
      | 2, _ => exact ⟨by decide, by decide⟩⟩, fun i hi => by
      have hj : j < 3 := hj
      have hi : i < 2 := hi
      match j, hj, i, hi with
      | 0, _, 0, _ => exact cells_get hZ 0 rfl
      | 0, _, 1, _ => exact cells_get hZ 1 rfl
      | 1, _, 0, _ => exact cells_get hZ 2 rfl
      | 1, _, 1, _ => exact cells_get hZ 3 rfl
      | 2, _, 0, _ => exact cells_get hZ 4 rfl
      | 2, _, 1, _ => exact cells_get hZ 5 rfl⟩⟩⟩
  have HF := Lib.hid (form_any _ _ exL hR (by decide) (exM, true) ex_form)
  have HB := Lib.hid hB
  clear hZ hB hR
  go_enter Tryz.func4, Tryz.ntmps4
  go_wp2_with fail
  refine HF.out.mono ?_
  rintro e w1 ⟨v1, rfl, hv1, hb1⟩
  obtain ⟨A1, L1, c1, rfl⟩ := hv1.sl
  obtain rfl : L1 = 2 := hv1.len
  have HV := Lib.hid (text_is w1 _ exM hv1 (by decide) _ ex_textM)
  have HB1 := Lib.hid (HB.out.trans (hb1.mono HB.out.size))
  clear hv1 hb1
  go_wp2_with fail
  refine HV.out.mono ?_
  rintro e w2 ⟨rfl, hb2⟩
  have HB2 := Lib.hid (HB1.out.trans (hb2.mono HB1.out.size))
  clear hb2
  go_wp2
  go_ret
  exact ⟨rfl, HB2.out⟩
end Go.Proofs.YtdijkekglaimfaaGreatDoor.Sq
