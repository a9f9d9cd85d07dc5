/- What is wrong with a package by itself. -/
import Derived.Test.YtaahdhpljlkfjaaGreatZg08
import Derived.Test.YtaahdhpljlkfjaaGreatZg09
import Derived.Test.YtaahdhpljlkfjaaGreatZg10
import Derived.Test.YtaahdhpljlkfjaaGreatZg07
namespace Go.Proofs.YtaahdhpljlkfjaaGreat.Rc
open Go.RowKit

/-- Two blocks of the call's own that stay as they are. -/
structure TwoB (w0 w1 : World) (cs : Array Value) (S : TypeId) (ds : Array Value) (T : TypeId) : Prop where
  bel : Below w0.heap.size w0 w1
  b1 : w1.heap[w0.heap.size]? = some (.cells cs S (0, 0))
  b2 : w1.heap[w0.heap.size + 1]? = some (.cells ds T (0, 0))
section
variable {w0 w1 w2 : World} {cs ds : Array Value} {S T : TypeId}
theorem TwoB.new (w : World) (cs : Array Value) (S : TypeId) (ds : Array Value) (T : TypeId) : TwoB w ((w.alloc (.cells cs S)).alloc (.cells ds T)) cs S ds T := ⟨(two_boxes w cs ds S T).1.bel, (two_boxes w cs ds S T).1.blk, (two_boxes w cs ds S T).2.blk⟩
theorem TwoB.step (h : TwoB w0 w1 cs S ds T) (hb : Below w1.heap.size w1 w2) : TwoB w0 w2 cs S ds T := ⟨h.bel.trans (hb.mono h.bel.size), heap_below h.b1 hb, heap_below h.b2 hb⟩
theorem TwoB.get1 (h : TwoB w0 w1 cs S ds T) (j : Nat) {v : Value} (hv : cs[j]? = some v) : w1.cell? ⟨w0.heap.size, j, none⟩ = some v := cells_get h.b1 j hv
theorem TwoB.get2 (h : TwoB w0 w1 cs S ds T) (j : Nat) {v : Value} (hv : ds[j]? = some v) : w1.cell? ⟨w0.heap.size + 1, j, none⟩ = some v := cells_get h.b2 j hv
end

theorem rels_small {w : World} {v : Value} {l : List Rel} (h : RowD relK w v l) : ∀ r ∈ l, r.1.size ≤ maxLen := by
  obtain ⟨A, L, c, rfl⟩ := h.sl
  intro r hr
  obtain ⟨i, hi, rfl⟩ := List.mem_iff_getElem.1 hr
  obtain ⟨_, _, _, _, hs, _⟩ := rel_at h (j := i) (by rw [h.len]; exact hi)
  rwa [nth_lt hi] at hs
end Go.Proofs.YtaahdhpljlkfjaaGreat.Rc

/- Blocks of the call's own that stay as they are: any number. -/
namespace Go.Proofs.YtaahdhpljlkfjaaGreat.Rc
open Go.RowKit

structure Bxs (w0 w1 : World) (l : List (Array Value × TypeId)) : Prop where
  bel : Below w0.heap.size w0 w1
  blk : ∀ j cs T, l[j]? = some (cs, T) → w1.heap[w0.heap.size + j]? = some (.cells cs T (0, 0))
section
variable {w0 w1 w2 : World} {l : List (Array Value × TypeId)}
theorem Bxs.get (h : Bxs w0 w1 l) (j i : Nat) {cs : Array Value} {T : TypeId} {v : Value} (hj : l[j]? = some (cs, T)) (hi : cs[i]? = some v) : w1.cell? ⟨w0.heap.size + j, i, none⟩ = some v := cells_get (h.blk j cs T hj) i hi
theorem Bxs.get0 (h : Bxs w0 w1 l) (i : Nat) {cs : Array Value} {T : TypeId} {v : Value} (hj : l[0]? = some (cs, T)) (hi : cs[i]? = some v) : w1.cell? ⟨w0.heap.size, i, none⟩ = some v := h.get 0 i hj hi
theorem Bxs.free (h : Bxs w0 w1 l) (j i : Nat) {cs : Array Value} {T : TypeId} (hj : l[j]? = some (cs, T)) : w1.frozen? ⟨w0.heap.size + j, i, none⟩ = false := cells_free (h.blk j cs T hj) i
theorem Bxs.step (h : Bxs w0 w1 l) (hb : Below w1.heap.size w1 w2) : Bxs w0 w2 l := ⟨h.bel.trans (hb.mono h.bel.size), fun j cs T hj => heap_below (h.blk j cs T hj) hb⟩
theorem Bxs.alloc (h : Bxs w0 w1 l) (o : Obj) : Bxs w0 (w1.alloc o) l := h.step (below_alloc' w1 o)
theorem Bxs.drewN (h : Bxs w0 w1 l) (n : Nat) : Bxs w0 (w1.drewN n) l := ⟨below_draws h.bel n, h.blk⟩
theorem Bxs.grown {e : TypeId} {size m : Nat} {v : Value} {xs : List Value} (h : Bxs w0 w1 l) (hown : w1.ownsRow w0.heap.size e size v m xs) (hne : ∀ T ∈ l.map Prod.snd, e ≠ T) (hg : w1.grownBy w2 v.ownBlock) : Bxs w0 w2 l :=
  ⟨h.bel.grown hg h.bel.size (fun k hk => (hown.lt k hk).1), fun j cs T hj => heap_grown (h.blk j cs T hj) hg (fun e => own_apart hown (h.blk j cs T hj) (hne T (List.mem_map.2 ⟨(cs, T), List.mem_of_getElem? hj, rfl⟩)) e.symm)⟩
end
theorem Bxs.one (w : World) (cs : Array Value) (T : TypeId) : Bxs w (w.alloc (.cells cs T)) [(cs, T)] := by
  refine ⟨below_alloc' w _, fun j cs' T' hj => ?_⟩
  match j, hj with
  | 0, hj => simp at hj; obtain ⟨rfl, rfl⟩ := hj; exact heap_alloc_new w _
theorem Bxs.push {w0 w1 : World} {l : List (Array Value × TypeId)} (h : Bxs w0 w1 l) (hs : w1.heap.size = w0.heap.size + l.length) (cs : Array Value) (T : TypeId) : Bxs w0 (w1.alloc (.cells cs T)) (l ++ [(cs, T)]) := by
  refine ⟨(h.alloc _).bel, fun j cs' T' hj => ?_⟩
  by_cases hlt : j < l.length
  · rw [List.getElem?_append_left hlt] at hj
    exact (h.alloc _).blk j cs' T' hj
  · rw [List.getElem?_append_right (by omega)] at hj
    have : j = l.length := by
      have := (List.getElem?_eq_some_iff.1 hj).1
      simp at this; omega
    subst this
    simp at hj
    obtain ⟨rfl, rfl⟩ := hj
    rw [← hs]; exact heap_alloc_new w1 _
theorem Bxs.two (w : World) (cs : Array Value) (S : TypeId) (ds : Array Value) (T : TypeId) : Bxs w ((w.alloc (.cells cs S)).alloc (.cells ds T)) [(cs, S), (ds, T)] := (Bxs.one w cs S).push (by simp) ds T
theorem Bxs.three (w : World) (cs : Array Value) (S : TypeId) (ds : Array Value) (T : TypeId) (es : Array Value) (U : TypeId) : Bxs w (((w.alloc (.cells cs S)).alloc (.cells ds T)).alloc (.cells es U)) [(cs, S), (ds, T), (es, U)] := (Bxs.two w cs S ds T).push (by simp) es U

/-- What a call that answers a problem leaves. -/
def GivesP (r : Int × Int) (w : World) (e : Ending) (w' : World) : Prop := e = .returned (.agg #[.int .u8 r.1, .int .i64 r.2]) ∧ Below w.heap.size w w'
end Go.Proofs.YtaahdhpljlkfjaaGreat.Rc

/- Providers, both. -/
namespace Go.Proofs.YtaahdhpljlkfjaaGreat.Rc
open Go.RowKit

theorem InBox.grown {w0 w1 w2 : World} {v1 v2 : Value} {B : Nat} {x : Rec} {e : TypeId} {size m : Nat} {v : Value} {xs : List Value} (h : InBox w0 w1 v1 v2 B x) (hown : w1.ownsRow w0.heap.size e size v m xs) (hne : e ≠ 25) (hg : w1.grownBy w2 v.ownBlock) : InBox w0 w2 v1 v2 B x :=
  ⟨h.box.grown hown hne hg, h.isr0⟩

/-- A row of numbers of the call's own. -/
def GivesI (l : List Int) (w : World) (e : Ending) (w' : World) : Prop := ∃ A L c, e = .returned (.slice A L c) ∧ OwnI w' w.heap.size (.slice A L c) l ∧ Below w.heap.size w w'

set_option maxRecDepth 100000 in
set_option maxHeartbeats 1600000 in
theorem providers_any (w : World) (v1 v2 : Value) (x : Rec) (s : ByteArray) (h : IsRec w v1 v2 x) (hl : x.pkgs.length ≤ 1000) :
    Calls Tryz.prog 64 #[.agg #[v1, v2], .string s] w (GivesI (provs x s) w) := by
  have HI := Lib.hid (InBox.new h)
  obtain ⟨A1, L1, c1, A2, L2, c2, rfl, rfl, hL1, hL2, hc1, hm1, hc2, hm2⟩ := rec_box h
  have HL1 := Lib.hid hL1
  have hl1 : L1 ≤ 1000 := by omega
  clear hL1 hL2 h hl
  go_enter Tryz.func64, Tryz.ntmps64
  go_wp2
  go_loopw [5, 11] (fun t i wr => ∃ (k : Nat) (T : Option Addr) (n c : Nat), k ≤ L1 ∧ i = .int .i64 k ∧ t = .slice T n c ∧ OwnI wr w.heap.size (.slice T n c) (provsK x s k) ∧ InBox w wr (.slice A1 L1 c1) (.slice A2 L2 c2) w.heap.size x) (fun _ i _ => L1 - (RowKit.intOf i).toNat)
  case atStart => exact ⟨0, none, 0, 0, Nat.zero_le _, rfl, rfl, OwnV.nil _ _, HI.out⟩
  case round =>
    clear HI
    obtain ⟨k, T, n, c, hk, rfl, rfl, hown, hi⟩ := hrel
    have HI := Lib.hid hi
    have HO := Lib.hid hown
    by_cases hlt : k < L1
    · obtain ⟨b, off, v1, v2, v3, v4, v5, v6, rfl, hb, hp, d0, d1, d2, d3, d4, d5, d6, d7⟩ := pkg_at hi.isr.pkgs hlt
      obtain ⟨⟨a1, n1, k1, rfl⟩, ⟨a2, n2, k2, rfl⟩, ⟨a3, n3, k3, rfl⟩, ⟨a4, n4, k4, rfl⟩, ⟨a5, n5, k5, rfl⟩, ⟨a6, n6, k6, rfl⟩⟩ := hp.sls
      generalize hw1 : wr.alloc (.cells #[.string (nth x.pkgs k).name, .int .i64 (nth x.pkgs k).line, .slice a1 n1 k1, .slice a2 n2 k2, .slice a3 n3 k3, .slice a4 n4 k4, .slice a5 n5 k5, .slice a6 n6 k6] 51) = w1
      have HW1 := Lib.hid hw1
      have hbox := Boxed.new wr #[.string (nth x.pkgs k).name, .int .i64 (nth x.pkgs k).line, .slice a1 n1 k1, .slice a2 n2 k2, .slice a3 n3 k3, .slice a4 n4 k4, .slice a5 n5 k5, .slice a6 n6 k6] 51
      rw [hw1] at hbox
      have b4 := hbox.get 4 (v := .slice a3 n3 k3) rfl
      have HI1 := Lib.hid (HI.out.step hbox.bel)
      have HO1 := Lib.hid (HO.out.below hbox.bel)
      have HP1 := Lib.hid (to_strs (hp.prov.below hbox.bel (Nat.le_refl _)))
      have HZ := Lib.hid (show (provsK x s k).length ≤ 200000 from Nat.le_trans (provsK_le x s k) (by omega))
      obtain ⟨q, hq⟩ : ∃ q, provIs (nth x.pkgs k) s = q := ⟨_, rfl⟩
      have HQ := Lib.hid hq
      clear hp hi hown hq hw1 hbox
      go_wp2_with fail
      rw [HW1.out]
      refine (Va.contains_is _ _ _ _ HP1.out q HQ.out).mono ?_
      rintro e w' ⟨rfl, rfl⟩
      clear b4
      cases q with
      | false =>
        go_wp2
        go_roundw
        case rel => exact ⟨k + 1, T, n, c, by omega, by go_num, rfl, by rw [provsK_no HQ.out]; exact HO1.out, HI1.out⟩
        case measure => simp [RowKit.intOf]; omega
      | true =>
        have HBZ := Lib.hid (show w.heap.size ≤ (w1.alloc (.cells #[.int .i64 (k : Int)] 3)).heap.size from (HI1.out.alloc _).bel.size)
        go_wp2_with (at_builtin; refine wpList_app_one oneInt rfl (.tmp 20) (.tmp 22) rfl rfl (base := w.heap.size) (X := w1.heap.size) (u := .int .i64 (k : Int)) (xs := (provsK x s k).map encI) rfl rfl (HO1.out.alloc _).raw (heap_alloc_new w1 _) rfl (by simpa using HZ.out) HBZ.out ?_; intro A' L' c' w' hown' hgrow'; have HO2 := Lib.hid (OwnV.snoc hown'); have HI2 := Lib.hid ((HI1.out.alloc _).grown (HO1.out.alloc _) (by decide) hgrow'); clear hown' hgrow')
        go_roundw
        case rel => exact ⟨k + 1, A', L', c', by omega, by go_num, rfl, by rw [provsK_yes HQ.out]; exact HO2.out, HI2.out⟩
        case measure => simp [RowKit.intOf]; omega
    · obtain rfl : k = L1 := by omega
      clear hi hown
      go_wp2
      go_ret
      exact ⟨_, _, _, rfl, by rw [provs_eq, ← HL1.out]; exact HO.out, HI.out.bel⟩

set_option maxRecDepth 100000 in
set_option maxHeartbeats 1600000 in
theorem refProviders_any (w : World) (v1 v2 : Value) (x : Rec) (s : ByteArray) (h : IsRec w v1 v2 x) (hl : x.pkgs.length ≤ 1000) :
    Calls Tryz.prog 57 #[.agg #[v1, v2], .string s] w (GivesI (provs x s) w) := by
  have HI := Lib.hid (InBox.new h)
  obtain ⟨A1, L1, c1, A2, L2, c2, rfl, rfl, hL1, hL2, hc1, hm1, hc2, hm2⟩ := rec_box h
  have HL1 := Lib.hid hL1
  have hl1 : L1 ≤ 1000 := by omega
  clear hL1 hL2 h hl
  go_enter Tryz.func57, Tryz.ntmps57
  go_wp2
  go_loopw [5, 11] (fun t i wr => ∃ (k : Nat) (T : Option Addr) (n c : Nat), k ≤ L1 ∧ i = .int .i64 k ∧ t = .slice T n c ∧ OwnI wr w.heap.size (.slice T n c) (provsK x s k) ∧ InBox w wr (.slice A1 L1 c1) (.slice A2 L2 c2) w.heap.size x) (fun _ i _ => L1 - (RowKit.intOf i).toNat)
  case atStart => exact ⟨0, _, _, _, Nat.zero_le _, rfl, rfl, OwnV.empty (heap_new_2 _ _ _) (by simp), HI.out.alloc _⟩
  case round =>
    clear HI
    obtain ⟨k, T, n, c, hk, rfl, rfl, hown, hi⟩ := hrel
    have HI := Lib.hid hi
    have HO := Lib.hid hown
    by_cases hlt : k < L1
    · obtain ⟨b, off, v1, v2, v3, v4, v5, v6, rfl, hb, hp, d0, d1, d2, d3, d4, d5, d6, d7⟩ := pkg_at hi.isr.pkgs hlt
      have x0 := hi.c0
      have HI1 := HI
      have HO1 := HO
      have HP1 := Lib.hid hp.prov
      have HZ := Lib.hid (show (provsK x s k).length ≤ 200000 from Nat.le_trans (provsK_le x s k) (by omega))
      obtain ⟨q, hq⟩ : ∃ q, provIs (nth x.pkgs k) s = q := ⟨_, rfl⟩
      have HQ := Lib.hid hq
      clear hp hi hown hq 
      go_wp2_with fail
      skip
      refine (refHas_is _ _ _ _ HP1.out q HQ.out).mono ?_
      rintro e w' ⟨rfl, rfl⟩
      clear x0
      cases q with
      | false =>
        go_wp2
        go_roundw
        case rel => exact ⟨k + 1, T, n, c, by omega, by go_num, rfl, by rw [provsK_no HQ.out]; exact HO1.out, HI1.out⟩
        case measure => simp [RowKit.intOf]; omega
      | true =>
        have HBZ := Lib.hid (show w.heap.size ≤ (wr.alloc (.cells #[.int .i64 (k : Int)] 3)).heap.size from (HI1.out.alloc _).bel.size)
        go_wp2_with (at_builtin; refine wpList_app_one oneInt rfl (.tmp 22) (.tmp 24) rfl rfl (base := w.heap.size) (X := wr.heap.size) (u := .int .i64 (k : Int)) (xs := (provsK x s k).map encI) rfl rfl (HO1.out.alloc _).raw (heap_alloc_new wr _) rfl (by simpa using HZ.out) HBZ.out ?_; intro A' L' c' w' hown' hgrow'; have HO2 := Lib.hid (OwnV.snoc hown'); have HI2 := Lib.hid ((HI1.out.alloc _).grown (HO1.out.alloc _) (by decide) hgrow'); clear hown' hgrow')
        go_roundw
        case rel => exact ⟨k + 1, A', L', c', by omega, by go_num, rfl, by rw [provsK_yes HQ.out]; exact HO2.out, HI2.out⟩
        case measure => simp [RowKit.intOf]; omega
    · obtain rfl : k = L1 := by omega
      clear hi hown
      go_wp2
      go_ret
      exact ⟨_, _, _, rfl, by rw [provs_eq, ← HL1.out]; exact HO.out, HI.out.bel⟩

set_option maxRecDepth 100000 in
theorem refVirtual_is (w : World) (v1 v2 : Value) (x : Rec) (s : ByteArray) (h : IsRec w v1 v2 x) (hl : x.pkgs.length ≤ 1000) (b : Bool) (hb : virtB x s = b) :
    Calls Tryz.prog 30 #[.agg #[v1, v2], .string s] w fun e w' => e = .returned (.bool b) ∧ Below w.heap.size w w' := by
  have HI := Lib.hid (InBox.new h)
  obtain ⟨A1, L1, c1, A2, L2, c2, rfl, rfl, hr⟩ := rec_box h
  obtain ⟨n, hn⟩ : ∃ n, findR x s = n := ⟨_, rfl⟩
  have HN := Lib.hid hn
  have hlt := idx_lt (fun p => nameIs p s) x.pkgs
  rw [show idx (fun p => nameIs p s) x.pkgs = n from hn] at hlt
  subst hb
  unfold virtB knownB
  obtain ⟨k, hk⟩ : ∃ k, (x.pkgs.any fun p => nameIs p s) = k := ⟨_, rfl⟩
  rw [hk] at hlt ⊢
  clear hr h hn hk
  cases k with
  | true =>
    have h0 : decide (n < 0) = false := hlt
    clear hlt
    go_enter Tryz.func30, Tryz.ntmps30
    go_wp2_with fail
    refine (refFind_is _ _ _ x s HI.out.isr n HN.out).mono ?_
    rintro e w' ⟨rfl, hb⟩
    have HI2 := Lib.hid (HI.out.step hb)
    clear hb
    go_wp2
    go_ret
    exact ⟨ret_bool (by simp), HI2.out.bel⟩
  | false =>
    have h0 : decide (n < 0) = true := hlt
    clear hlt
    have HQ := Lib.hid (provs_any x s)
    have HL := Lib.hid hl
    clear hl
    go_enter Tryz.func30, Tryz.ntmps30
    go_wp2_with fail
    refine (refFind_is _ _ _ x s HI.out.isr n HN.out).mono ?_
    rintro e w' ⟨rfl, hb⟩
    have HI2 := Lib.hid (HI.out.step hb)
    have d0 := HI2.out.c0
    have d1 := HI2.out.c1
    clear hb
    go_wp2_with fail
    refine (refProviders_any _ _ _ x s HI2.out.isr HL.out).mono ?_
    rintro e w2 ⟨A, L, c, rfl, hown, hb⟩
    have HI3 := Lib.hid (HI2.out.step hb)
    have HLEN := Lib.hid hown.len
    clear hb d0 d1 hown
    go_wp2
    go_ret
    refine ⟨ret_bool ?_, HI3.out.bel⟩
    rw [← HQ.out, ← HLEN.out]
    simp
end Go.Proofs.YtaahdhpljlkfjaaGreat.Rc
