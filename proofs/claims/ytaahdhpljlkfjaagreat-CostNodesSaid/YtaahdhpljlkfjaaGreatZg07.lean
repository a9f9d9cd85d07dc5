/- Find, Virtual, Providers. -/
import Derived.Test.YtaahdhpljlkfjaaGreatZg04
import Derived.Test.YtaahdhpljlkfjaaGreatZg06
namespace Go.Proofs.YtaahdhpljlkfjaaGreat.Rc
open Go.RowKit

theorem below_alloc' (w : World) (o : Obj) : Below w.heap.size w (w.alloc o) := (Below.refl _ _).alloc (Nat.le_refl _) _
theorem box_get' {w1 w2 : World} {B : Nat} {cs : Array Value} {T : TypeId} (h : w1.heap[B]? = some (.cells cs T (0, 0))) (hb : Below w1.heap.size w1 w2) (j : Nat) {v : Value} (hv : cs[j]? = some v) : w2.cell? ⟨B, j, none⟩ = some v :=
  cells_get (heap_below h hb) j hv

theorem find1_any (w : World) (v1 v2 v3 v4 v5 v6 : Value) (x : Pkg) (s : ByteArray) (P : Nat) (_h : IsPkg w v1 v2 v3 v4 v5 v6 x) (hP : w.cell? ⟨P, 0, none⟩ = some (.string s)) :
    Calls Tryz.prog 44 #[.agg #[.string x.name, .int .i64 x.line, v1, v2, v3, v4, v5, v6], .pointer (some ⟨P, 0, none⟩)] w fun e w' => e = .returned (.bool (nameIs x s)) ∧ Below w.heap.size w w' := by
  have hb0 := below_alloc' w (.cells #[.string x.name, .int .i64 x.line, v1, v2, v3, v4, v5, v6] 51)
  have hlt := World.block_lt_of_cell? w _ hP
  have hc1 := (hb0.cell (p := ⟨P, 0, none⟩) hlt).trans hP
  have hPn : ¬ P = w.heap.size := by simp at hlt; omega
  have HB := Lib.hid hb0
  clear hb0 hP _h
  go_enter Tryz.func44, Tryz.ntmps44
  go_wp2
  refine bodyPost_ret (v := .bool (nameIs x s)) (by simp [results, Tryz.results44, go_sem, nameIs, eqS, Va.eqS]) rfl ⟨rfl, HB.out⟩

set_option maxRecDepth 100000 in
set_option maxHeartbeats 1600000 in
theorem idx_find (w : World) (v : Value) (l : List Pkg) (s : ByteArray) (P : Nat) (h : RowD pkgK w v l) (hP0 : w.cell? ⟨P, 0, none⟩ = some (.string s)) :
    Calls Tryz.prog 43 #[v, .func (.func 44) #[] #[.pointer (some ⟨P, 0, none⟩)]] w fun e w' => e = .returned (.int .i64 (idx (fun x => nameIs x s) l)) ∧ Below w.heap.size w w' := by
  obtain ⟨A, L, c, rfl, hL, h1, h2⟩ := h.open'
  unfold maxLen at h2
  have H := Lib.hid h
  have HL := Lib.hid hL
  have HP0 := Lib.hid hP0
  have hlp := World.block_lt_of_cell? w _ hP0
  clear h hL hP0
  go_enter Tryz.func43, Tryz.ntmps43
  go_wp2
  go_loopw [8] (fun i wr => ∃ k : Nat, k ≤ L ∧ i = .int .i64 k ∧ Hid ((l.take k).any (fun x => nameIs x s) = false) ∧ Below w.heap.size w wr) (fun i _ => L - (RowKit.intOf i).toNat)
  case atStart => exact ⟨0, Nat.zero_le _, rfl, Lib.hid (by simp), Below.refl _ _⟩
  case round =>
    obtain ⟨k, hk, rfl, hall, hbw⟩ := hrel
    have HBW := Lib.hid hbw
    by_cases hlt : k < L
    · obtain ⟨b, off, v1, v2, v3, v4, v5, v6, rfl, hb, hp, c0, c1, c2, c3, c4, c5, c6, c7⟩ := pkg_at (H.out.below hbw (Nat.le_refl _)) hlt
      have qP0 := Lib.hid ((hbw.cell (p := ⟨P, 0, none⟩) hlp).trans HP0.out)
      have hkl : k < l.length := by rw [← HL.out]; exact hlt
      have HS := Lib.hid (any_snoc hkl (fun x => nameIs x s))
      have HE := Lib.hid hp; clear hp
      clear hbw
      go_wp2_with fail
      refine (find1_any _ _ _ _ _ _ _ _ _ P HE.out qP0.out).mono ?_
      rintro e w1 ⟨rfl, hb1⟩
      have HB1 := Lib.hid (HBW.out.trans (hb1.mono HBW.out.size))
      clear hb1
      cases he : nameIs (nth l k) s with
      | true =>
        have Hv := Lib.hid (idx_hit hkl hall.out (p := (fun x => nameIs x s)) he)
        clear he hkl
        go_wp2
        go_ret
        exact ⟨ret_int Hv.out.symm, HB1.out⟩
      | false =>
        have hn : Hid ((l.take (k + 1)).any (fun x => nameIs x s) = false) := Lib.hid (by rw [HS.out, hall.out]; simpa using he)
        clear he hkl
        go_wp2
        go_roundw
        case rel => exact ⟨k + 1, by omega, by go_num, hn, HB1.out⟩
        case measure => simp [RowKit.intOf]; omega
    · obtain rfl : k = L := by omega
      have Hv := Lib.hid (show idx (fun x => nameIs x s) l = -1 from idx_miss (by
        have := hall.out
        rwa [HL.out, List.take_length] at this))
      clear hbw
      go_wp2
      go_ret
      exact ⟨ret_int Hv.out.symm, HBW.out⟩

theorem has_find (w : World) (v : Value) (l : List Pkg) (s : ByteArray) (P : Nat) (h : RowD pkgK w v l) (hP0 : w.cell? ⟨P, 0, none⟩ = some (.string s)) : Calls Tryz.prog 112 #[v, .func (.func 44) #[] #[.pointer (some ⟨P, 0, none⟩)]] w fun e w' => e = .returned (.bool (l.any (fun x => nameIs x s))) ∧ Below w.heap.size w w' := by
  obtain ⟨r, hr⟩ : ∃ r, idx (fun x => nameIs x s) l = r := ⟨_, rfl⟩
  have hc := idx_find w v l s P h hP0
  rw [hr] at hc
  have HC := Lib.hid hc
  have HR := Lib.hid hr
  clear h hP0 hc hr
  go_enter Tryz.func112, Tryz.ntmps112
  go_wp2_with fail
  refine HC.out.mono ?_
  rintro e w1 ⟨rfl, hb⟩
  go_wp2
  go_ret
  exact ⟨ret_bool (by rw [← idx_any (fun x => nameIs x s) l, HR.out]), hb⟩


theorem prov1_any (w : World) (v1 v2 v3 v4 v5 v6 : Value) (x : Pkg) (s : ByteArray) (P : Nat) (h : IsPkg w v1 v2 v3 v4 v5 v6 x) (hP : w.cell? ⟨P, 0, none⟩ = some (.string s)) :
    Calls Tryz.prog 113 #[.agg #[.string x.name, .int .i64 x.line, v1, v2, v3, v4, v5, v6], .pointer (some ⟨P, 0, none⟩)] w fun e w' => e = .returned (.bool (provIs x s)) ∧ Below w.heap.size w w' := by
  have hb0 := below_alloc' w (.cells #[.string x.name, .int .i64 x.line, v1, v2, v3, v4, v5, v6] 51)
  have hlt := World.block_lt_of_cell? w _ hP
  have hc1 := (hb0.cell (p := ⟨P, 0, none⟩) hlt).trans hP
  have hPn : ¬ P = w.heap.size := by simp at hlt; omega
  have HB := Lib.hid hb0
  have HS := Lib.hid (to_strs (h.prov.below hb0 (Nat.le_refl _)))
  clear hb0 hP h
  go_enter Tryz.func113, Tryz.ntmps113
  go_wp2_with fail
  refine (Va.contains_any _ _ _ _ HS.out).mono ?_
  rintro e w' ⟨rfl, rfl⟩
  go_wp2
  go_ret
  exact ⟨rfl, HB.out⟩

set_option maxRecDepth 100000 in
set_option maxHeartbeats 1600000 in
theorem idx_prov (w : World) (v : Value) (l : List Pkg) (s : ByteArray) (P : Nat) (h : RowD pkgK w v l) (hP0 : w.cell? ⟨P, 0, none⟩ = some (.string s)) :
    Calls Tryz.prog 43 #[v, .func (.func 113) #[] #[.pointer (some ⟨P, 0, none⟩)]] w fun e w' => e = .returned (.int .i64 (idx (fun x => provIs x s) l)) ∧ Below w.heap.size w w' := by
  obtain ⟨A, L, c, rfl, hL, h1, h2⟩ := h.open'
  unfold maxLen at h2
  have H := Lib.hid h
  have HL := Lib.hid hL
  have HP0 := Lib.hid hP0
  have hlp := World.block_lt_of_cell? w _ hP0
  clear h hL hP0
  go_enter Tryz.func43, Tryz.ntmps43
  go_wp2
  go_loopw [8] (fun i wr => ∃ k : Nat, k ≤ L ∧ i = .int .i64 k ∧ Hid ((l.take k).any (fun x => provIs x s) = false) ∧ Below w.heap.size w wr) (fun i _ => L - (RowKit.intOf i).toNat)
  case atStart => exact ⟨0, Nat.zero_le _, rfl, Lib.hid (by simp), Below.refl _ _⟩
  case round =>
    obtain ⟨k, hk, rfl, hall, hbw⟩ := hrel
    have HBW := Lib.hid hbw
    by_cases hlt : k < L
    · obtain ⟨b, off, v1, v2, v3, v4, v5, v6, rfl, hb, hp, c0, c1, c2, c3, c4, c5, c6, c7⟩ := pkg_at (H.out.below hbw (Nat.le_refl _)) hlt
      have qP0 := Lib.hid ((hbw.cell (p := ⟨P, 0, none⟩) hlp).trans HP0.out)
      have hkl : k < l.length := by rw [← HL.out]; exact hlt
      have HS := Lib.hid (any_snoc hkl (fun x => provIs x s))
      have HE := Lib.hid hp; clear hp
      clear hbw
      go_wp2_with fail
      refine (prov1_any _ _ _ _ _ _ _ _ _ P HE.out qP0.out).mono ?_
      rintro e w1 ⟨rfl, hb1⟩
      have HB1 := Lib.hid (HBW.out.trans (hb1.mono HBW.out.size))
      clear hb1
      cases he : provIs (nth l k) s with
      | true =>
        have Hv := Lib.hid (idx_hit hkl hall.out (p := (fun x => provIs x s)) he)
        clear he hkl
        go_wp2
        go_ret
        exact ⟨ret_int Hv.out.symm, HB1.out⟩
      | false =>
        have hn : Hid ((l.take (k + 1)).any (fun x => provIs x s) = false) := Lib.hid (by rw [HS.out, hall.out]; simpa using he)
        clear he hkl
        go_wp2
        go_roundw
        case rel => exact ⟨k + 1, by omega, by go_num, hn, HB1.out⟩
        case measure => simp [RowKit.intOf]; omega
    · obtain rfl : k = L := by omega
      have Hv := Lib.hid (show idx (fun x => provIs x s) l = -1 from idx_miss (by
        have := hall.out
        rwa [HL.out, List.take_length] at this))
      clear hbw
      go_wp2
      go_ret
      exact ⟨ret_int Hv.out.symm, HBW.out⟩

theorem has_prov (w : World) (v : Value) (l : List Pkg) (s : ByteArray) (P : Nat) (h : RowD pkgK w v l) (hP0 : w.cell? ⟨P, 0, none⟩ = some (.string s)) : Calls Tryz.prog 112 #[v, .func (.func 113) #[] #[.pointer (some ⟨P, 0, none⟩)]] w fun e w' => e = .returned (.bool (l.any (fun x => provIs x s))) ∧ Below w.heap.size w w' := by
  obtain ⟨r, hr⟩ : ∃ r, idx (fun x => provIs x s) l = r := ⟨_, rfl⟩
  have hc := idx_prov w v l s P h hP0
  rw [hr] at hc
  have HC := Lib.hid hc
  have HR := Lib.hid hr
  clear h hP0 hc hr
  go_enter Tryz.func112, Tryz.ntmps112
  go_wp2_with fail
  refine HC.out.mono ?_
  rintro e w1 ⟨rfl, hb⟩
  go_wp2
  go_ret
  exact ⟨ret_bool (by rw [← idx_any (fun x => provIs x s) l, HR.out]), hb⟩


/-- A recipe by value: its block, the rows' readings behind it. -/
theorem rec_box {w : World} {v1 v2 : Value} {x : Rec} (h : IsRec w v1 v2 x) : ∃ A1 L1 c1 A2 L2 c2, v1 = .slice A1 L1 c1 ∧ v2 = .slice A2 L2 c2 ∧ L1 = x.pkgs.length ∧ L2 = x.prefs.length ∧ L1 ≤ c1 ∧ c1 ≤ 9223372036854775807 ∧ L2 ≤ c2 ∧ c2 ≤ 9223372036854775807 := by
  obtain ⟨A1, L1, c1, e1, a1, b1, d1⟩ := h.pkgs.open'
  obtain ⟨A2, L2, c2, e2, a2, b2, d2⟩ := h.prefs.open'
  unfold maxLen at d1 d2
  exact ⟨A1, L1, c1, A2, L2, c2, e1, e2, a1, a2, b1, by omega, b2, by omega⟩

set_option maxRecDepth 100000 in
theorem find_any (w : World) (v1 v2 : Value) (x : Rec) (s : ByteArray) (h : IsRec w v1 v2 x) :
    Calls Tryz.prog 21 #[.agg #[v1, v2], .string s] w fun e w' => e = .returned (.int .i64 (findR x s)) ∧ Below w.heap.size w w' := by
  have hb : Below w.heap.size w ((w.alloc (.cells #[v1, v2] 25)).alloc (.cells #[.string s] 9)) := (below_alloc' w _).alloc (by simp) _
  have HB := Lib.hid hb
  have HX := Lib.hid (h.below hb (Nat.le_refl _))
  obtain ⟨A1, L1, c1, A2, L2, c2, rfl, rfl, hr⟩ := rec_box h
  clear hr
  have HP := Lib.hid (show ((w.alloc (.cells #[.slice A1 L1 c1, .slice A2 L2 c2] 25)).alloc (.cells #[.string s] 9)).cell? ⟨w.heap.size + 1, 0, none⟩ = some (.string s) by
    have := cells_get (heap_alloc_new (w.alloc (.cells #[.slice A1 L1 c1, .slice A2 L2 c2] 25)) (.cells #[.string s] 9)) 0 (v := .string s) rfl
    rwa [World.size_alloc] at this)
  clear hb h
  go_enter Tryz.func21, Tryz.ntmps21
  go_wp2_with fail
  refine (idx_find _ _ _ s (w.heap.size + 1) HX.out.pkgs HP.out).mono ?_
  rintro e w' ⟨rfl, hb⟩
  have HB2 := Lib.hid (HB.out.trans (hb.mono HB.out.size))
  clear hb
  go_wp2
  go_ret
  exact ⟨rfl, HB2.out⟩


/-- The same, named. -/
theorem find_is (w : World) (v1 v2 : Value) (x : Rec) (s : ByteArray) (h : IsRec w v1 v2 x) (n : Int) (hn : findR x s = n) :
    Calls Tryz.prog 21 #[.agg #[v1, v2], .string s] w fun e w' => e = .returned (.int .i64 n) ∧ Below w.heap.size w w' := by subst hn; exact find_any w v1 v2 x s h

set_option maxRecDepth 100000 in
theorem provided_any (w : World) (v1 v2 : Value) (x : Rec) (s : ByteArray) (h : IsRec w v1 v2 x) :
    Calls Tryz.prog 99 #[.agg #[v1, v2], .string s] w fun e w' => e = .returned (.bool (provB x s)) ∧ Below w.heap.size w w' := by
  have hb : Below w.heap.size w ((w.alloc (.cells #[v1, v2] 25)).alloc (.cells #[.string s] 9)) := (below_alloc' w _).alloc (by simp) _
  have HB := Lib.hid hb
  have HX := Lib.hid (h.below hb (Nat.le_refl _))
  obtain ⟨A1, L1, c1, A2, L2, c2, rfl, rfl, hr⟩ := rec_box h
  clear hr
  have HP := Lib.hid (show ((w.alloc (.cells #[.slice A1 L1 c1, .slice A2 L2 c2] 25)).alloc (.cells #[.string s] 9)).cell? ⟨w.heap.size + 1, 0, none⟩ = some (.string s) by
    have := cells_get (heap_alloc_new (w.alloc (.cells #[.slice A1 L1 c1, .slice A2 L2 c2] 25)) (.cells #[.string s] 9)) 0 (v := .string s) rfl
    rwa [World.size_alloc] at this)
  clear hb h
  go_enter Tryz.func99, Tryz.ntmps99
  go_wp2_with fail
  refine (has_prov _ _ _ s (w.heap.size + 1) HX.out.pkgs HP.out).mono ?_
  rintro e w' ⟨rfl, hb⟩
  have HB2 := Lib.hid (HB.out.trans (hb.mono HB.out.size))
  clear hb
  go_wp2
  go_ret
  exact ⟨rfl, HB2.out⟩
theorem provided_is (w : World) (v1 v2 : Value) (x : Rec) (s : ByteArray) (h : IsRec w v1 v2 x) (b : Bool) (hb : provB x s = b) :
    Calls Tryz.prog 99 #[.agg #[v1, v2], .string s] w fun e w' => e = .returned (.bool b) ∧ Below w.heap.size w w' := by subst hb; exact provided_any w v1 v2 x s h

/-- A block of the call's own that stays as it is. -/
structure Boxed (w0 w1 : World) (B : Nat) (cs : Array Value) (T : TypeId) : Prop where
  bel : Below w0.heap.size w0 w1
  blk : w1.heap[B]? = some (.cells cs T (0, 0))
theorem Boxed.new (w : World) (cs : Array Value) (T : TypeId) : Boxed w (w.alloc (.cells cs T)) w.heap.size cs T := ⟨below_alloc' w _, heap_alloc_new w _⟩
theorem Boxed.get {w0 w1 : World} {B : Nat} {cs : Array Value} {T : TypeId} (h : Boxed w0 w1 B cs T) (j : Nat) {v : Value} (hv : cs[j]? = some v) : w1.cell? ⟨B, j, none⟩ = some v := cells_get h.blk j hv
theorem Boxed.step {w0 w1 w2 : World} {B : Nat} {cs : Array Value} {T : TypeId} (h : Boxed w0 w1 B cs T) (hb : Below w1.heap.size w1 w2) : Boxed w0 w2 B cs T := ⟨h.bel.trans (hb.mono h.bel.size), heap_below h.blk hb⟩
theorem Boxed.alloc {w0 w1 : World} {B : Nat} {cs : Array Value} {T : TypeId} (h : Boxed w0 w1 B cs T) (o : Obj) : Boxed w0 (w1.alloc o) B cs T := h.step (below_alloc' w1 o)
theorem Boxed.drewN {w0 w1 : World} {B : Nat} {cs : Array Value} {T : TypeId} (h : Boxed w0 w1 B cs T) (n : Nat) : Boxed w0 (w1.drewN n) B cs T := ⟨below_draws h.bel n, h.blk⟩
theorem Boxed.grown {w0 w1 w2 : World} {B : Nat} {cs : Array Value} {T e : TypeId} {size m : Nat} {v : Value} {xs : List Value} (h : Boxed w0 w1 B cs T) (hown : w1.ownsRow w0.heap.size e size v m xs) (hne : e ≠ T) (hg : w1.grownBy w2 v.ownBlock) : Boxed w0 w2 B cs T :=
  ⟨h.bel.grown hg h.bel.size (fun k hk => (hown.lt k hk).1), heap_grown h.blk hg (fun e => own_apart hown h.blk hne e.symm)⟩
/-- A recipe by value, in the call's own block. -/
structure InBox (w0 w1 : World) (v1 v2 : Value) (B : Nat) (x : Rec) : Prop where
  box : Boxed w0 w1 B #[v1, v2] 25
  isr0 : IsRec w0 v1 v2 x
theorem InBox.bel {w0 w1 : World} {v1 v2 : Value} {B : Nat} {x : Rec} (h : InBox w0 w1 v1 v2 B x) : Below w0.heap.size w0 w1 := h.box.bel
theorem InBox.isr {w0 w1 : World} {v1 v2 : Value} {B : Nat} {x : Rec} (h : InBox w0 w1 v1 v2 B x) : IsRec w1 v1 v2 x := h.isr0.below h.bel (Nat.le_refl _)
theorem InBox.c0 {w0 w1 : World} {v1 v2 : Value} {B : Nat} {x : Rec} (h : InBox w0 w1 v1 v2 B x) : w1.cell? ⟨B, 0, none⟩ = some v1 := h.box.get 0 rfl
theorem InBox.c1 {w0 w1 : World} {v1 v2 : Value} {B : Nat} {x : Rec} (h : InBox w0 w1 v1 v2 B x) : w1.cell? ⟨B, 1, none⟩ = some v2 := h.box.get 1 rfl
theorem InBox.new {w : World} {v1 v2 : Value} {x : Rec} (h : IsRec w v1 v2 x) : InBox w (w.alloc (.cells #[v1, v2] 25)) v1 v2 w.heap.size x := ⟨Boxed.new w _ _, h⟩
theorem InBox.step {w0 w1 w2 : World} {v1 v2 : Value} {B : Nat} {x : Rec} (h : InBox w0 w1 v1 v2 B x) (hb : Below w1.heap.size w1 w2) : InBox w0 w2 v1 v2 B x := ⟨h.box.step hb, h.isr0⟩
theorem InBox.alloc {w0 w1 : World} {v1 v2 : Value} {B : Nat} {x : Rec} (h : InBox w0 w1 v1 v2 B x) (o : Obj) : InBox w0 (w1.alloc o) v1 v2 B x := ⟨h.box.alloc o, h.isr0⟩

set_option maxRecDepth 100000 in
theorem virtual_is (w : World) (v1 v2 : Value) (x : Rec) (s : ByteArray) (h : IsRec w v1 v2 x) (b : Bool) (hb : virtB x s = b) :
    Calls Tryz.prog 75 #[.agg #[v1, v2], .string s] w fun e w' => e = .returned (.bool b) ∧ Below w.heap.size w w' := by
  have HI := Lib.hid (InBox.new h)
  obtain ⟨A1, L1, c1, A2, L2, c2, rfl, rfl, hr⟩ := rec_box h
  obtain ⟨n, hn⟩ : ∃ n, findR x s = n := ⟨_, rfl⟩
  have HN := Lib.hid hn
  have hlt := idx_lt (fun p => nameIs p s) x.pkgs
  rw [show idx (fun p => nameIs p s) x.pkgs = n from hn] at hlt
  subst hb
  unfold virtB knownB
  obtain ⟨k, hk⟩ : ∃ k, (x.pkgs.any fun p => nameIs p s) = k := ⟨_, rfl⟩
  rw [hk] at hlt ⊢
  clear hr h hn hk
  cases k with
  | true =>
    have h0 : decide (n < 0) = false := hlt
    clear hlt
    go_enter Tryz.func75, Tryz.ntmps75
    go_wp2_with fail
    refine (find_is _ _ _ x s HI.out.isr n HN.out).mono ?_
    rintro e w' ⟨rfl, hb⟩
    have HI2 := Lib.hid (HI.out.step hb)
    clear hb
    go_wp2
    go_ret
    exact ⟨ret_bool (by simp), HI2.out.bel⟩
  | false =>
    have h0 : decide (n < 0) = true := hlt
    clear hlt
    obtain ⟨q, hq⟩ : ∃ q, provB x s = q := ⟨_, rfl⟩
    have HQ := Lib.hid hq
    rw [hq]
    clear hq
    go_enter Tryz.func75, Tryz.ntmps75
    go_wp2_with fail
    refine (find_is _ _ _ x s HI.out.isr n HN.out).mono ?_
    rintro e w' ⟨rfl, hb⟩
    have HI2 := Lib.hid (HI.out.step hb)
    have d0 := HI2.out.c0
    have d1 := HI2.out.c1
    clear hb
    go_wp2_with fail
    refine (provided_is _ _ _ x s HI2.out.isr q HQ.out).mono ?_
    rintro e w2 ⟨rfl, hb⟩
    have HI3 := Lib.hid (HI2.out.step hb)
    clear hb d0 d1
    go_wp2
    go_ret
    exact ⟨ret_bool (by simp), HI3.out.bel⟩

end Go.Proofs.YtaahdhpljlkfjaaGreat.Rc

/- The document's Find, Has, Providers, Virtual; Providers. -/
namespace Go.Proofs.YtaahdhpljlkfjaaGreat.Rc
open Go.RowKit

theorem rec_lens {w : World} {A1 A2 : Option Addr} {L1 c1 L2 c2 : Nat} {x : Rec} (h : IsRec w (.slice A1 L1 c1) (.slice A2 L2 c2) x) : L1 = x.pkgs.length ∧ L2 = x.prefs.length := ⟨h.pkgs.len, h.prefs.len⟩

set_option maxRecDepth 100000 in
set_option maxHeartbeats 800000 in
theorem refHas_any (w : World) (v : Value) (l : List ByteArray) (s : ByteArray) (h : RowD strK w v l) :
    Calls Tryz.prog 32 #[v, .string s] w fun e w' => e = .returned (.bool (hasS l s)) ∧ w = w' := by
  obtain ⟨A, L, c, rfl, hL, h1, h2⟩ := h.open'
  unfold maxLen at h2
  have H := Lib.hid h
  have HL := Lib.hid hL
  clear h hL
  go_enter Tryz.func32, Tryz.ntmps32
  go_wp2
  go_loop [8] (fun i => ∃ k : Nat, k ≤ L ∧ i = .int .i64 k ∧ Hid ((l.take k).any (eqS s) = false)) (fun i => L - (RowKit.intOf i).toNat)
  case atStart => exact ⟨0, Nat.zero_le _, rfl, Lib.hid (by simp)⟩
  case round =>
    obtain ⟨k, hk, rfl, hall⟩ := hrel
    by_cases hlt : k < L
    · obtain ⟨b, off, rfl, hb, hs, hc⟩ := str_at H.out hlt
      have hkl : k < l.length := by rw [← HL.out]; exact hlt
      have HS := Lib.hid (any_snoc hkl (eqS s))
      cases he : eqS s (nth l k) with
      | true =>
        have Hv := Lib.hid (show hasS l s = true from any_at hkl he)
        have e1 : ((nth l k).toList == s.toList) = true := (Va.eqS_comm _ _).trans he
        clear he hkl
        go_wp2
        go_ret
        exact ⟨ret_bool Hv.out.symm, rfl⟩
      | false =>
        have hn : Hid ((l.take (k + 1)).any (eqS s) = false) := Lib.hid (by rw [HS.out, hall.out, he]; rfl)
        have e1 : ((nth l k).toList == s.toList) = false := (Va.eqS_comm _ _).trans he
        clear he hkl
        go_wp2
        go_round
        case rel => exact ⟨k + 1, by omega, by go_num, hn⟩
        case measure => simp [RowKit.intOf]; omega
    · obtain rfl : k = L := by omega
      have Hv := Lib.hid (show hasS l s = false by
        have := hall.out
        rwa [HL.out, List.take_length] at this)
      go_wp2
      go_ret
      exact ⟨ret_bool Hv.out.symm, rfl⟩
theorem refHas_is (w : World) (v : Value) (l : List ByteArray) (s : ByteArray) (h : RowD strK w v l) (b : Bool) (hb : hasS l s = b) :
    Calls Tryz.prog 32 #[v, .string s] w fun e w' => e = .returned (.bool b) ∧ w = w' := by subst hb; exact refHas_any w v l s h

set_option maxRecDepth 100000 in
set_option maxHeartbeats 800000 in
theorem refFind_any (w : World) (v1 v2 : Value) (x : Rec) (s : ByteArray) (h : IsRec w v1 v2 x) :
    Calls Tryz.prog 26 #[.agg #[v1, v2], .string s] w fun e w' => e = .returned (.int .i64 (findR x s)) ∧ Below w.heap.size w w' := by
  have HI := Lib.hid (InBox.new h)
  obtain ⟨A1, L1, c1, A2, L2, c2, rfl, rfl, hL1, hL2, hc1, hm1, hc2, hm2⟩ := rec_box h
  have HL := Lib.hid hL1
  clear hL1 hL2 h
  go_enter Tryz.func26, Tryz.ntmps26
  go_wp2
  go_loop [9] (fun i => ∃ k : Nat, k ≤ L1 ∧ i = .int .i64 k ∧ Hid ((x.pkgs.take k).any (fun p => nameIs p s) = false)) (fun i => L1 - (RowKit.intOf i).toNat)
  case atStart => exact ⟨0, Nat.zero_le _, rfl, Lib.hid (by simp)⟩
  case round =>
    obtain ⟨k, hk, rfl, hall⟩ := hrel
    by_cases hlt : k < L1
    · obtain ⟨b, off, v1, v2, v3, v4, v5, v6, rfl, hb, hp, d0, d1, d2, d3, d4, d5, d6, d7⟩ := pkg_at HI.out.isr.pkgs hlt
      have hkl : k < x.pkgs.length := by rw [← HL.out]; exact hlt
      have HS := Lib.hid (any_snoc hkl (fun p => nameIs p s))
      clear hp d1 d2 d3 d4 d5 d6 d7
      cases he : nameIs (nth x.pkgs k) s with
      | true =>
        have Hv := Lib.hid (show findR x s = k from idx_hit hkl hall.out (p := fun p => nameIs p s) he)
        have e1 : ((nth x.pkgs k).name.toList == s.toList) = true := he
        clear he hkl
        go_wp2
        go_ret
        exact ⟨ret_int Hv.out.symm, HI.out.bel⟩
      | false =>
        have hn : Hid ((x.pkgs.take (k + 1)).any (fun p => nameIs p s) = false) := Lib.hid (by rw [HS.out, hall.out]; simpa using he)
        have e1 : ((nth x.pkgs k).name.toList == s.toList) = false := he
        clear he hkl
        go_wp2
        go_round
        case rel => exact ⟨k + 1, by omega, by go_num, hn⟩
        case measure => simp [RowKit.intOf]; omega
    · obtain rfl : k = L1 := by omega
      have Hv := Lib.hid (show findR x s = -1 from idx_miss (by
        have := hall.out
        rwa [HL.out, List.take_length] at this))
      go_wp2
      go_ret
      exact ⟨ret_int Hv.out.symm, HI.out.bel⟩
theorem refFind_is (w : World) (v1 v2 : Value) (x : Rec) (s : ByteArray) (h : IsRec w v1 v2 x) (n : Int) (hn : findR x s = n) :
    Calls Tryz.prog 26 #[.agg #[v1, v2], .string s] w fun e w' => e = .returned (.int .i64 n) ∧ Below w.heap.size w w' := by subst hn; exact refFind_any w v1 v2 x s h
end Go.Proofs.YtaahdhpljlkfjaaGreat.Rc
