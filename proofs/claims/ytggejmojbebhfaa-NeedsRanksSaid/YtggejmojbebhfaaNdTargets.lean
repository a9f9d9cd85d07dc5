/- What a name may be: both. -/
import Derived.Test.YtggejmojbebhfaaNdMath
import Derived.Test.YtggejmojbebhfaaRcProv
namespace Go.Proofs.Ytggejmojbebhfaa.Rc
open Go.RowKit

theorem OwnV.one {α : Type} {e : TypeId} {enc : α → Value} {w : World} {base X : Nat} {x : α} (h : w.heap[X]? = some (.cells #[enc x] e (0, 0))) (hb : base ≤ X) : OwnV e enc w base (.slice (some ⟨X, 0, none⟩) 1 1) [x] :=
  ⟨rfl, .inr ⟨X, 1, #[enc x], rfl, hb, h, by simp, by simp [maxLen], rfl, rfl⟩⟩

set_option maxRecDepth 100000 in
theorem targets_any (w : World) (v1 v2 : Value) (x : Rec) (s : ByteArray) (h : IsRec w v1 v2 x) (hl : x.pkgs.length ≤ 1000) :
    Calls Try.prog 28 #[.agg #[v1, v2], .string s] w (GivesI (targs x s) w) := by
  have HI := Lib.hid (InBox.new h)
  have HL := Lib.hid hl
  obtain ⟨A1, L1, c1, A2, L2, c2, rfl, rfl, hr⟩ := rec_box h
  obtain ⟨n, hn⟩ : ∃ n, findR x s = n := ⟨_, rfl⟩
  have HN := Lib.hid hn
  obtain ⟨k, hk⟩ : ∃ k, knownB x s = k := ⟨_, rfl⟩
  have h0 : decide (0 ≤ n) = k := by rw [← hn, ← hk]; exact idx_any (fun p => nameIs p s) x.pkgs
  clear hr h hn hl
  cases k with
  | true =>
    rw [targs_known hk, HN.out]
    clear hk
    go_enter Try.func28, Try.ntmps28
    go_wp2_with fail
    refine (find_is _ _ _ x s HI.out.isr n HN.out).mono ?_
    rintro e w' ⟨rfl, hb⟩
    have HI2 := Lib.hid (HI.out.step hb)
    clear hb
    go_wp2
    all_goals first | (go_ret; exact ⟨_, _, _, rfl, OwnV.one (heap_alloc_new _ _) HI2.out.bel.size, (HI2.out.alloc _).bel⟩) | (exfalso; simp at h0; omega)
  | false =>
    rw [targs_not hk]
    clear hk
    go_enter Try.func28, Try.ntmps28
    go_wp2_with fail
    refine (find_is _ _ _ x s HI.out.isr n HN.out).mono ?_
    rintro e w' ⟨rfl, hb⟩
    have HI2 := Lib.hid (HI.out.step hb)
    have d0 := HI2.out.c0
    have d1 := HI2.out.c1
    clear hb
    go_wp2_with fail
    refine (providers_any _ _ _ x s HI2.out.isr HL.out).mono ?_
    rintro e w2 ⟨A, L, c, rfl, hown, hb⟩
    have HO := Lib.hid (hown.base HI2.out.bel.size)
    have HI3 := Lib.hid (HI2.out.step hb)
    clear hb d0 d1 hown
    go_wp2
    go_ret
    exact ⟨_, _, _, rfl, HO.out, HI3.out.bel⟩

set_option maxRecDepth 100000 in
theorem refTargets_any (w : World) (v1 v2 : Value) (x : Rec) (s : ByteArray) (h : IsRec w v1 v2 x) (hl : x.pkgs.length ≤ 1000) :
    Calls Try.prog 29 #[.agg #[v1, v2], .string s] w (GivesI (targs x s) w) := by
  have HI := Lib.hid (InBox.new h)
  have HL := Lib.hid hl
  obtain ⟨A1, L1, c1, A2, L2, c2, rfl, rfl, hr⟩ := rec_box h
  obtain ⟨n, hn⟩ : ∃ n, findR x s = n := ⟨_, rfl⟩
  have HN := Lib.hid hn
  obtain ⟨k, hk⟩ : ∃ k, knownB x s = k := ⟨_, rfl⟩
  have h0 : decide (0 ≤ n) = k := by rw [← hn, ← hk]; exact idx_any (fun p => nameIs p s) x.pkgs
  clear hr h hn hl
  cases k with
  | true =>
    rw [targs_known hk, HN.out]
    clear hk
    go_enter Try.func29, Try.ntmps29
    go_wp2_with fail
    refine (refFind_is _ _ _ x s HI.out.isr n HN.out).mono ?_
    rintro e w' ⟨rfl, hb⟩
    have HI2 := Lib.hid (HI.out.step hb)
    clear hb
    go_wp2
    all_goals first | (go_ret; exact ⟨_, _, _, rfl, OwnV.one (heap_alloc_new _ _) HI2.out.bel.size, (HI2.out.alloc _).bel⟩) | (exfalso; simp at h0; omega)
  | false =>
    rw [targs_not hk]
    clear hk
    go_enter Try.func29, Try.ntmps29
    go_wp2_with fail
    refine (refFind_is _ _ _ x s HI.out.isr n HN.out).mono ?_
    rintro e w' ⟨rfl, hb⟩
    have HI2 := Lib.hid (HI.out.step hb)
    have d0 := HI2.out.c0
    have d1 := HI2.out.c1
    clear hb
    go_wp2_with fail
    refine (refProviders_any _ _ _ x s HI2.out.isr HL.out).mono ?_
    rintro e w2 ⟨A, L, c, rfl, hown, hb⟩
    have HO := Lib.hid (hown.base HI2.out.bel.size)
    have HI3 := Lib.hid (HI2.out.step hb)
    clear hb d0 d1 hown
    go_wp2
    go_ret
    exact ⟨_, _, _, rfl, HO.out, HI3.out.bel⟩
end Go.Proofs.Ytggejmojbebhfaa.Rc
