/- Providers, both. -/
import Derived.Test.YtggejmojbebhfaaRcFind2
import Derived.Test.YtggejmojbebhfaaRcOwn
namespace Go.Proofs.Ytggejmojbebhfaa.Rc
open Go.RowKit

theorem InBox.grown {w0 w1 w2 : World} {v1 v2 : Value} {B : Nat} {x : Rec} {e : TypeId} {size m : Nat} {v : Value} {xs : List Value} (h : InBox w0 w1 v1 v2 B x) (hown : w1.ownsRow w0.heap.size e size v m xs) (hne : e ≠ 25) (hg : w1.grownBy w2 v.ownBlock) : InBox w0 w2 v1 v2 B x :=
  ⟨h.box.grown hown hne hg, h.isr0⟩

/-- A row of numbers of the call's own. -/
def GivesI (l : List Int) (w : World) (e : Ending) (w' : World) : Prop := ∃ A L c, e = .returned (.slice A L c) ∧ OwnI w' w.heap.size (.slice A L c) l ∧ Below w.heap.size w w'

set_option maxRecDepth 100000 in
set_option maxHeartbeats 1600000 in
theorem providers_any (w : World) (v1 v2 : Value) (x : Rec) (s : ByteArray) (h : IsRec w v1 v2 x) (hl : x.pkgs.length ≤ 1000) :
    Calls Try.prog 13 #[.agg #[v1, v2], .string s] w (GivesI (provs x s) w) := by
  have HI := Lib.hid (InBox.new h)
  obtain ⟨A1, L1, c1, A2, L2, c2, rfl, rfl, hL1, hL2, hc1, hm1, hc2, hm2⟩ := rec_box h
  have HL1 := Lib.hid hL1
  have hl1 : L1 ≤ 1000 := by omega
  clear hL1 hL2 h hl
  go_enter Try.func13, Try.ntmps13
  go_wp2
  go_loopw [5, 11] (fun t i wr => ∃ (k : Nat) (T : Option Addr) (n c : Nat), k ≤ L1 ∧ i = .int .i64 k ∧ t = .slice T n c ∧ OwnI wr w.heap.size (.slice T n c) (provsK x s k) ∧ InBox w wr (.slice A1 L1 c1) (.slice A2 L2 c2) w.heap.size x) (fun _ i _ => L1 - (intOf i).toNat)
  case atStart => exact ⟨0, none, 0, 0, Nat.zero_le _, rfl, rfl, OwnV.nil _ _, HI.out⟩
  case round =>
    clear HI
    obtain ⟨k, T, n, c, hk, rfl, rfl, hown, hi⟩ := hrel
    have HI := Lib.hid hi
    have HO := Lib.hid hown
    by_cases hlt : k < L1
    · obtain ⟨b, off, v1, v2, v3, v4, v5, v6, rfl, hb, hp, d0, d1, d2, d3, d4, d5, d6, d7⟩ := pkg_at hi.isr.pkgs hlt
      obtain ⟨⟨a1, n1, k1, rfl⟩, ⟨a2, n2, k2, rfl⟩, ⟨a3, n3, k3, rfl⟩, ⟨a4, n4, k4, rfl⟩, ⟨a5, n5, k5, rfl⟩, ⟨a6, n6, k6, rfl⟩⟩ := hp.sls
      generalize hw1 : wr.alloc (.cells #[.string (nth x.pkgs k).name, .int .i64 (nth x.pkgs k).line, .slice a1 n1 k1, .slice a2 n2 k2, .slice a3 n3 k3, .slice a4 n4 k4, .slice a5 n5 k5, .slice a6 n6 k6] 45) = w1
      have HW1 := Lib.hid hw1
      have hbox := Boxed.new wr #[.string (nth x.pkgs k).name, .int .i64 (nth x.pkgs k).line, .slice a1 n1 k1, .slice a2 n2 k2, .slice a3 n3 k3, .slice a4 n4 k4, .slice a5 n5 k5, .slice a6 n6 k6] 45
      rw [hw1] at hbox
      have b4 := hbox.get 4 (v := .slice a3 n3 k3) rfl
      have HI1 := Lib.hid (HI.out.step hbox.bel)
      have HO1 := Lib.hid (HO.out.below hbox.bel)
      have HP1 := Lib.hid (to_strs (hp.prov.below hbox.bel (Nat.le_refl _)))
      have HZ := Lib.hid (show (provsK x s k).length ≤ 200000 from Nat.le_trans (provsK_le x s k) (by omega))
      obtain ⟨q, hq⟩ : ∃ q, provIs (nth x.pkgs k) s = q := ⟨_, rfl⟩
      have HQ := Lib.hid hq
      clear hp hi hown hq hw1 hbox
      go_wp2_with fail
      rw [HW1.out]
      refine (Va.contains_is _ _ _ _ HP1.out q HQ.out).mono ?_
      rintro e w' ⟨rfl, rfl⟩
      clear b4
      cases q with
      | false =>
        go_wp2
        go_roundw
        case rel => exact ⟨k + 1, T, n, c, by omega, by go_num, rfl, by rw [provsK_no HQ.out]; exact HO1.out, HI1.out⟩
        case measure => simp [intOf]; omega
      | true =>
        have HBZ := Lib.hid (show w.heap.size ≤ (w1.alloc (.cells #[.int .i64 (k : Int)] 3)).heap.size from (HI1.out.alloc _).bel.size)
        go_wp2_with (at_builtin; refine wpList_app_one oneInt rfl (.tmp 20) (.tmp 22) rfl rfl (base := w.heap.size) (X := w1.heap.size) (u := .int .i64 (k : Int)) (xs := (provsK x s k).map encI) rfl rfl (HO1.out.alloc _).raw (heap_alloc_new w1 _) rfl (by simpa using HZ.out) HBZ.out ?_; intro A' L' c' w' hown' hgrow'; have HO2 := Lib.hid (OwnV.snoc hown'); have HI2 := Lib.hid ((HI1.out.alloc _).grown (HO1.out.alloc _) (by decide) hgrow'); clear hown' hgrow')
        go_roundw
        case rel => exact ⟨k + 1, A', L', c', by omega, by go_num, rfl, by rw [provsK_yes HQ.out]; exact HO2.out, HI2.out⟩
        case measure => simp [intOf]; omega
    · obtain rfl : k = L1 := by omega
      clear hi hown
      go_wp2
      go_ret
      exact ⟨_, _, _, rfl, by rw [provs_eq, ← HL1.out]; exact HO.out, HI.out.bel⟩

set_option maxRecDepth 100000 in
set_option maxHeartbeats 1600000 in
theorem refProviders_any (w : World) (v1 v2 : Value) (x : Rec) (s : ByteArray) (h : IsRec w v1 v2 x) (hl : x.pkgs.length ≤ 1000) :
    Calls Try.prog 14 #[.agg #[v1, v2], .string s] w (GivesI (provs x s) w) := by
  have HI := Lib.hid (InBox.new h)
  obtain ⟨A1, L1, c1, A2, L2, c2, rfl, rfl, hL1, hL2, hc1, hm1, hc2, hm2⟩ := rec_box h
  have HL1 := Lib.hid hL1
  have hl1 : L1 ≤ 1000 := by omega
  clear hL1 hL2 h hl
  go_enter Try.func14, Try.ntmps14
  go_wp2
  go_loopw [5, 11] (fun t i wr => ∃ (k : Nat) (T : Option Addr) (n c : Nat), k ≤ L1 ∧ i = .int .i64 k ∧ t = .slice T n c ∧ OwnI wr w.heap.size (.slice T n c) (provsK x s k) ∧ InBox w wr (.slice A1 L1 c1) (.slice A2 L2 c2) w.heap.size x) (fun _ i _ => L1 - (intOf i).toNat)
  case atStart => exact ⟨0, _, _, _, Nat.zero_le _, rfl, rfl, OwnV.empty (heap_new_2 _ _ _) (by simp), HI.out.alloc _⟩
  case round =>
    clear HI
    obtain ⟨k, T, n, c, hk, rfl, rfl, hown, hi⟩ := hrel
    have HI := Lib.hid hi
    have HO := Lib.hid hown
    by_cases hlt : k < L1
    · obtain ⟨b, off, v1, v2, v3, v4, v5, v6, rfl, hb, hp, d0, d1, d2, d3, d4, d5, d6, d7⟩ := pkg_at hi.isr.pkgs hlt
      have x0 := hi.c0
      have HI1 := HI
      have HO1 := HO
      have HP1 := Lib.hid hp.prov
      have HZ := Lib.hid (show (provsK x s k).length ≤ 200000 from Nat.le_trans (provsK_le x s k) (by omega))
      obtain ⟨q, hq⟩ : ∃ q, provIs (nth x.pkgs k) s = q := ⟨_, rfl⟩
      have HQ := Lib.hid hq
      clear hp hi hown hq 
      go_wp2_with fail
      skip
      refine (refHas_is _ _ _ _ HP1.out q HQ.out).mono ?_
      rintro e w' ⟨rfl, rfl⟩
      clear x0
      cases q with
      | false =>
        go_wp2
        go_roundw
        case rel => exact ⟨k + 1, T, n, c, by omega, by go_num, rfl, by rw [provsK_no HQ.out]; exact HO1.out, HI1.out⟩
        case measure => simp [intOf]; omega
      | true =>
        have HBZ := Lib.hid (show w.heap.size ≤ (wr.alloc (.cells #[.int .i64 (k : Int)] 3)).heap.size from (HI1.out.alloc _).bel.size)
        go_wp2_with (at_builtin; refine wpList_app_one oneInt rfl (.tmp 22) (.tmp 24) rfl rfl (base := w.heap.size) (X := wr.heap.size) (u := .int .i64 (k : Int)) (xs := (provsK x s k).map encI) rfl rfl (HO1.out.alloc _).raw (heap_alloc_new wr _) rfl (by simpa using HZ.out) HBZ.out ?_; intro A' L' c' w' hown' hgrow'; have HO2 := Lib.hid (OwnV.snoc hown'); have HI2 := Lib.hid ((HI1.out.alloc _).grown (HO1.out.alloc _) (by decide) hgrow'); clear hown' hgrow')
        go_roundw
        case rel => exact ⟨k + 1, A', L', c', by omega, by go_num, rfl, by rw [provsK_yes HQ.out]; exact HO2.out, HI2.out⟩
        case measure => simp [intOf]; omega
    · obtain rfl : k = L1 := by omega
      clear hi hown
      go_wp2
      go_ret
      exact ⟨_, _, _, rfl, by rw [provs_eq, ← HL1.out]; exact HO.out, HI.out.bel⟩

set_option maxRecDepth 100000 in
theorem refVirtual_is (w : World) (v1 v2 : Value) (x : Rec) (s : ByteArray) (h : IsRec w v1 v2 x) (hl : x.pkgs.length ≤ 1000) (b : Bool) (hb : virtB x s = b) :
    Calls Try.prog 18 #[.agg #[v1, v2], .string s] w fun e w' => e = .returned (.bool b) ∧ Below w.heap.size w w' := by
  have HI := Lib.hid (InBox.new h)
  obtain ⟨A1, L1, c1, A2, L2, c2, rfl, rfl, hr⟩ := rec_box h
  obtain ⟨n, hn⟩ : ∃ n, findR x s = n := ⟨_, rfl⟩
  have HN := Lib.hid hn
  have hlt := idx_lt (fun p => nameIs p s) x.pkgs
  rw [show idx (fun p => nameIs p s) x.pkgs = n from hn] at hlt
  subst hb
  unfold virtB knownB
  obtain ⟨k, hk⟩ : ∃ k, (x.pkgs.any fun p => nameIs p s) = k := ⟨_, rfl⟩
  rw [hk] at hlt ⊢
  clear hr h hn hk
  cases k with
  | true =>
    have h0 : decide (n < 0) = false := hlt
    clear hlt
    go_enter Try.func18, Try.ntmps18
    go_wp2_with fail
    refine (refFind_is _ _ _ x s HI.out.isr n HN.out).mono ?_
    rintro e w' ⟨rfl, hb⟩
    have HI2 := Lib.hid (HI.out.step hb)
    clear hb
    go_wp2
    go_ret
    exact ⟨ret_bool (by simp), HI2.out.bel⟩
  | false =>
    have h0 : decide (n < 0) = true := hlt
    clear hlt
    have HQ := Lib.hid (provs_any x s)
    have HL := Lib.hid hl
    clear hl
    go_enter Try.func18, Try.ntmps18
    go_wp2_with fail
    refine (refFind_is _ _ _ x s HI.out.isr n HN.out).mono ?_
    rintro e w' ⟨rfl, hb⟩
    have HI2 := Lib.hid (HI.out.step hb)
    have d0 := HI2.out.c0
    have d1 := HI2.out.c1
    clear hb
    go_wp2_with fail
    refine (refProviders_any _ _ _ x s HI2.out.isr HL.out).mono ?_
    rintro e w2 ⟨A, L, c, rfl, hown, hb⟩
    have HI3 := Lib.hid (HI2.out.step hb)
    have HLEN := Lib.hid hown.len
    clear hb d0 d1 hown
    go_wp2
    go_ret
    refine ⟨ret_bool ?_, HI3.out.bel⟩
    rw [← HQ.out, ← HLEN.out]
    simp
end Go.Proofs.Ytggejmojbebhfaa.Rc
