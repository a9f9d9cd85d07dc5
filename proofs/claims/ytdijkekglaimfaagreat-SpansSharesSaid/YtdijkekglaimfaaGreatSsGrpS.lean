/- Unions and meets of small sets: what holds of them. -/
import Derived.Test.YtdijkekglaimfaaGreatSsGrpM
import Derived.Test.YtdijkekglaimfaaGreatSsFormLawG
import Derived.Deep.CutRange
import Derived.Deep.RegionWith
namespace Go.Proofs.YtdijkekglaimfaaGreat.Sq
open Go.RowKit Rc Ver Ss

theorem canon_of {l : List Spn} (h : (form l).2 = true) : spanSp.Row (form l).1 := (form_true h).2.1.row
theorem few {l : List Spn} (h : (form l).2 = true) (hl : l.length ≤ 8) : (form l).1.length ≤ 8 := Nat.le_trans (form_few h) hl
theorem insert_low {x : Spn} (hx : x.ok) : ∀ {s : List Spn}, spanSp.Oks s → (s.Pairwise fun a b => spanSp.low a b = true) → ∃ t : List Spn, t.Perm (x :: s) ∧ t.Pairwise fun a b => spanSp.low a b = true
  | [], _, _ => ⟨[x], .refl _, List.pairwise_singleton _ _⟩
  | y :: s, ho, hs => by
    have hy := ho y (by simp)
    have hs' := List.pairwise_cons.1 hs
    cases h : spanSp.low x y with
    | true =>
      refine ⟨x :: y :: s, .refl _, List.pairwise_cons.2 ⟨fun z hz => ?_, hs⟩⟩
      rcases List.mem_cons.1 hz with rfl | hz
      · exact h
      · exact spanSp.low_trans hx hy (ho z (by simp [hz])) h (hs'.1 z hz)
    | false =>
      obtain ⟨t, ht, hp⟩ := insert_low hx (s := s) (fun z hz => ho z (by simp [hz])) hs'.2
      refine ⟨y :: t, (ht.cons y).trans (.swap x y s), List.pairwise_cons.2 ⟨fun z hz => ?_, hp⟩⟩
      rcases List.mem_cons.1 (ht.mem_iff.1 hz) with rfl | hz
      · exact spanSp.low_total hx hy h
      · exact hs'.1 z hz
theorem sorted_ex : ∀ {l : List Spn}, spanSp.Oks l → ∃ t : List Spn, t.Perm l ∧ t.Pairwise fun a b => spanSp.low a b = true
  | [], _ => ⟨[], .refl _, .nil⟩
  | x :: l, h => by
    obtain ⟨s, hp, hs⟩ := sorted_ex (l := l) fun z hz => h z (by simp [hz])
    obtain ⟨t, ht, h2⟩ := insert_low (h x (by simp)) (s := s) (fun z hz => h z (List.mem_cons_of_mem _ (hp.mem_iff.1 hz))) hs
    exact ⟨t, ht.trans (hp.cons x), h2⟩
theorem form_ex {l : List Spn} (h : spanSp.Oks l) : ∃ m, spanSp.Canon l m := by
  obtain ⟨t, hp, hs⟩ := sorted_ex h
  exact ⟨_, (Sp.Half.fold (Sp.Half.start (fun x hx => h x (hp.mem_iff.1 hx)) hs)).same_of (.of_mem fun x => hp.mem_iff.symm)⟩
theorem form_ok {l : List Spn} (ho : spanSp.Oks l) (hl : l.length ≤ 16) : (form l).2 = true := by
  obtain ⟨m, hm⟩ := form_ex ho
  rw [form_is ho hm (Nat.le_trans (canon_few ho hm) hl)]
theorem union_form {b c : List Spn} (hb : (form b).2 = true) (hc : (form c).2 = true) (lb : b.length ≤ 8) (lc : c.length ≤ 8) :
    (form ((form b).1 ++ (form c).1)).2 = true := by
  refine form_ok (fun s hs => ?_) (by rw [List.length_append]; have := few hb lb; have := few hc lc; omega)
  rcases List.mem_append.1 hs with h | h
  · exact (canon_of hb).oks s h
  · exact (canon_of hc).oks s h
theorem meet_form {b c : List Spn} (hb : (form b).2 = true) (hc : (form c).2 = true) (lb : b.length ≤ 8) (lc : c.length ≤ 8) :
    (form (meetL (form b).1 (form c).1)).2 = true :=
  form_ok (meetL_oks (canon_of hb).oks (canon_of hc).oks) (by have := meetL_few (canon_of hb) (canon_of hc); have := few hb lb; have := few hc lc; omega)
theorem of_form {l : List Spn} (h : (form l).2 = true) : (form (form l).1) = ((form l).1, true) := by rw [form_form h, ← h]
theorem has_union {x y : List Spn} (hx : (form x).2 = true) (hy : (form y).2 = true) (v : Bs) : unionL x y = [] ∨ hasL (unionL x y) v = (hasL x v || hasL y v) := by
  unfold unionL
  rw [hx, hy, Bool.true_and, if_pos rfl]
  cases h : (form ((form x).1 ++ (form y).1)).2 with
  | false => exact .inl (by rw [form_false h])
  | true => exact .inr (by rw [hasL_form h, hasL_append, hasL_form hx, hasL_form hy])
theorem has_meet {x y : List Spn} (hx : (form x).2 = true) (hy : (form y).2 = true) (v : Bs) : meetF x y = [] ∨ hasL (meetF x y) v = (hasL x v && hasL y v) := by
  unfold meetF
  rw [hx, hy, Bool.true_and, if_pos rfl]
  cases h : (form (meetL (form x).1 (form y).1)).2 with
  | false => exact .inl (by rw [form_false h])
  | true => exact .inr (by rw [hasL_form h, hasL_meetL (canon_of hx).oks (canon_of hy).oks, hasL_form hx, hasL_form hy])
theorem union_small {b c : List Spn} (hb : (form b).2 = true) (hc : (form c).2 = true) (lb : b.length ≤ 8) (lc : c.length ≤ 8) (v : Bs) :
    (form (unionL b c)).2 = true ∧ hasL (unionL b c) v = (hasL b v || hasL c v) := by
  have h := union_form hb hc lb lc
  unfold unionL
  rw [hb, hc, Bool.true_and, if_pos rfl, of_form h, hasL_form h, hasL_append, hasL_form hb, hasL_form hc]
  exact ⟨rfl, rfl⟩
theorem meet_small {b c : List Spn} (hb : (form b).2 = true) (hc : (form c).2 = true) (lb : b.length ≤ 8) (lc : c.length ≤ 8) (v : Bs) :
    (form (meetF b c)).2 = true ∧ hasL (meetF b c) v = (hasL b v && hasL c v) := by
  have h := meet_form hb hc lb lc
  unfold meetF
  rw [hb, hc, Bool.true_and, if_pos rfl, of_form h, hasL_form h, hasL_meetL (canon_of hb).oks (canon_of hc).oks, hasL_form hb, hasL_form hc]
  exact ⟨rfl, rfl⟩
theorem share_one {a b c : List Spn} (ha : (form a).2 = true) (hb : (form b).2 = true) (hc : (form c).2 = true) (lb : b.length ≤ 8) (lc : c.length ≤ 8) (v : Bs) :
    meetF a (unionL b c) = [] ∨ hasL (meetF a (unionL b c)) v = (hasL a v && (hasL b v || hasL c v)) := by
  obtain ⟨h1, h2⟩ := union_small hb hc lb lc v
  rcases has_meet ha h1 v with h | h
  · exact .inl h
  · exact .inr (by rw [h, h2])
theorem share_two {a b c : List Spn} (ha : (form a).2 = true) (hb : (form b).2 = true) (hc : (form c).2 = true) (la : a.length ≤ 8) (lb : b.length ≤ 8) (lc : c.length ≤ 8) (v : Bs) :
    unionL (meetF a b) (meetF a c) = [] ∨ hasL (unionL (meetF a b) (meetF a c)) v = (hasL a v && (hasL b v || hasL c v)) := by
  obtain ⟨h1, h2⟩ := meet_small ha hb la lb v
  obtain ⟨h3, h4⟩ := meet_small ha hc la lc v
  rcases has_union h1 h3 v with h | h
  · exact .inl h
  · refine .inr ?_
    rw [h, h2, h4]
    cases hasL a v <;> rfl
theorem form_again {a : List Spn} (h : (form a).2 = true) {l : List Spn} (hl : spanSp.Oks l) (hm : ∀ s, s ∈ l ↔ s ∈ (form a).1) : form (form l).1 = form a := by
  have e : form l = form (form a).1 := form_same hl (canon_of h).oks (.of_mem hm)
  rw [form_form h] at e
  rw [e, form_form h]
theorem union_self {a : List Spn} (h : (form a).2 = true) : form (unionL a a) = form a := by
  unfold unionL
  rw [h, Bool.true_and, if_pos rfl]
  exact form_again h (fun s hs => (canon_of h).oks s (by simpa using hs)) (fun s => by simp)
theorem meets_apart {r : List Spn} (h : spanSp.Row r) {x y : Spn} (hx : x ∈ r) (hy : y ∈ r) (hm : x.meets y = true) : x = y := by
  by_cases e : x = y
  · exact e
  · have := Sp.apart_of (K := spanSp) h.oks h.apart hx hy e
    rw [show spanSp.meets x y = x.meets y from rfl, hm] at this; cases this
theorem meet_self {a : List Spn} (h : (form a).2 = true) : form (meetF a a) = form a := by
  have hr := canon_of h
  unfold meetF
  rw [h, Bool.true_and, if_pos rfl]
  refine form_again h (meetL_oks hr.oks hr.oks) fun s => ?_
  rw [mem_meetL]
  constructor
  · rintro ⟨x, hx, y, hy, hm, rfl⟩
    obtain rfl := meets_apart hr hx hy hm
    rw [Spn.both_self (hr.oks x hx)]; exact hx
  · intro hs
    exact ⟨s, hs, s, hs, Spn.meets_self (hr.oks s hs), (Spn.both_self (hr.oks s hs)).symm⟩
def wholeS : Spn := (⟨#[]⟩, ⟨#[]⟩)
theorem whole_ok : wholeS.ok := by
  show smay wholeS.lo wholeS.hi = true
  decide +kernel
theorem whole_mem {x : Spn} (p : Pnt) (h : x.mem p) : wholeS.mem p := by
  cases p with
  | bot => rfl
  | top => rfl
  | «at» v => exact ⟨h.1, lowR_nil rfl _, highR_nil rfl _⟩
theorem whole_meets {x : Spn} (h : x.ok) : x.meets wholeS = true ∧ x.both wholeS = x := by
  obtain ⟨p, hp⟩ := spanSp.some_mem h
  have hm : x.meets wholeS = true := (Spn.meets_iff h whole_ok).2 ⟨p, hp, whole_mem p hp⟩
  exact ⟨hm, Spn.ext' (Spn.both_ok h whole_ok hm) h fun q => by
    rw [Spn.mem_both h whole_ok hm]
    exact ⟨fun h => h.1, fun h => ⟨h, whole_mem q h⟩⟩⟩
theorem whole_form : form [wholeS] = ([wholeS], true) :=
  form_is (fun s hs => by rw [List.mem_singleton.1 hs]; exact whole_ok) (Sp.Row.canon ⟨fun s hs => by rw [List.mem_singleton.1 hs]; exact whole_ok, List.pairwise_singleton _ _, List.pairwise_singleton _ _⟩) (by decide)
theorem meet_whole {a : List Spn} (h : (form a).2 = true) : form (meetF a [wholeS]) = form a := by
  have hr := canon_of h
  unfold meetF
  rw [whole_form, h, Bool.true_and, if_pos rfl]
  refine form_again h (meetL_oks hr.oks (fun s hs => by rw [List.mem_singleton.1 hs]; exact whole_ok)) fun s => ?_
  rw [mem_meetL]
  constructor
  · rintro ⟨x, hx, y, hy, hm, rfl⟩
    rw [List.mem_singleton.1 hy, (whole_meets (hr.oks x hx)).2]; exact hx
  · intro hs
    exact ⟨s, hs, wholeS, List.mem_singleton.2 rfl, (whole_meets (hr.oks s hs)).1, (whole_meets (hr.oks s hs)).2.symm⟩
end Go.Proofs.YtdijkekglaimfaaGreat.Sq

/- SpansShares' walk. -/
namespace Go.Proofs.YtdijkekglaimfaaGreat.Sq
open Go.RowKit Rc Ver Ss

theorem unionL_le (a b : List Spn) : (unionL a b).length ≤ 16 := by
  unfold unionL
  split
  · exact form_le _
  · exact Nat.zero_le _
theorem meetF_le (a b : List Spn) : (meetF a b).length ≤ 16 := by
  unfold meetF
  split
  · exact form_le _
  · exact Nat.zero_le _
set_option maxRecDepth 100000 in
set_option maxHeartbeats 8000000 in
theorem spansShares_w (A : Option Addr) (L c : Nat) (a : List Spn) (A2 : Option Addr) (L2 c2 : Nat) (b : List Spn) (A3 : Option Addr) (L3 c3 : Nat) (d : List Spn) (s : ByteArray) (hs : s.size ≤ maxLen) (w : World) (h1 : IsSpans w A L c a) (h2 : IsSpans w A2 L2 c2 b) (h3 : IsSpans w A3 L3 c3 d) :
    Calls Tryz.prog 7 #[.slice A L c, .slice A2 L2 c2, .slice A3 L3 c3, .string s] w fun e w' => e = .returned (.bool true) ∧ RowKit.Below w.heap.size w w' := by
  have h1' : RowD setK w (.slice A L c) a := h1
  have h2' : RowD setK w (.slice A2 L2 c2) b := h2
  have h3' : RowD setK w (.slice A3 L3 c3) d := h3
  unfold maxLen at hs
  have HL1 := Lib.hid h1'.len
  have HL2 := Lib.hid h2'.len
  have HL3 := Lib.hid h3'.len
  have K0 := Lib.hid ((((Keep.nil w).push h1').push h2').push h3')
  clear h1 h2 h3 h1' h2' h3'
  go_enter Tryz.func7, Tryz.ntmps7
  by_cases q0 : 8 < L
  · have g0 : (8 : Int) < (L : Int) := by omega
    go_wp2_with fail
    refine (fixed3_any _).mono ?_
    rintro e wf ⟨rfl, hbf⟩
    have KF := Lib.hid (K0.out.step hbf)
    clear hbf
    go_wp2
    go_ret
    exact ⟨rfl, KF.out.bel⟩
  have g0 : ¬ (8 : Int) < (L : Int) := by omega
  by_cases q1 : 8 < L2
  · have g1 : (8 : Int) < (L2 : Int) := by omega
    go_wp2_with fail
    refine (fixed3_any _).mono ?_
    rintro e wf ⟨rfl, hbf⟩
    have KF := Lib.hid (K0.out.step hbf)
    clear hbf
    go_wp2
    go_ret
    exact ⟨rfl, KF.out.bel⟩
  have g1 : ¬ (8 : Int) < (L2 : Int) := by omega
  by_cases q2 : 8 < L3
  · have g2 : (8 : Int) < (L3 : Int) := by omega
    go_wp2_with fail
    refine (fixed3_any _).mono ?_
    rintro e wf ⟨rfl, hbf⟩
    have KF := Lib.hid (K0.out.step hbf)
    clear hbf
    go_wp2
    go_ret
    exact ⟨rfl, KF.out.bel⟩
  have g2 : ¬ (8 : Int) < (L3 : Int) := by omega
  go_wp2_with fail
  refine (great3_any w _ a (K0.out.get (.slice A L c) a (by simp))).mono ?_
  rintro e w1 ⟨p, rfl, hp, rfl⟩
  clear hp
  cases p with
  | true =>
    go_wp2_with fail
    refine (fixed3_any _).mono ?_
    rintro e wf ⟨rfl, hbf⟩
    have KF := Lib.hid (K0.out.step hbf)
    clear hbf
    go_wp2
    go_ret
    exact ⟨rfl, KF.out.bel⟩
  | false =>
  go_wp2_with fail
  refine (great3_any w _ b (K0.out.get (.slice A2 L2 c2) b (by simp))).mono ?_
  rintro e w1 ⟨p, rfl, hp, rfl⟩
  clear hp
  cases p with
  | true =>
    go_wp2_with fail
    refine (fixed3_any _).mono ?_
    rintro e wf ⟨rfl, hbf⟩
    have KF := Lib.hid (K0.out.step hbf)
    clear hbf
    go_wp2
    go_ret
    exact ⟨rfl, KF.out.bel⟩
  | false =>
  go_wp2_with fail
  refine (great3_any w _ d (K0.out.get (.slice A3 L3 c3) d (by simp))).mono ?_
  rintro e w1 ⟨p, rfl, hp, rfl⟩
  clear hp
  cases p with
  | true =>
    go_wp2_with fail
    refine (fixed3_any _).mono ?_
    rintro e wf ⟨rfl, hbf⟩
    have KF := Lib.hid (K0.out.step hbf)
    clear hbf
    go_wp2
    go_ret
    exact ⟨rfl, KF.out.bel⟩
  | false =>
  by_cases hx3 : 3000 < s.size
  · have g3 : (3000 : Int) < (s.size : Int) := by omega
    go_wp2_with fail
    refine (fixed3_any _).mono ?_
    rintro e wf ⟨rfl, hbf⟩
    have KF := Lib.hid (K0.out.step hbf)
    clear hbf
    go_wp2
    go_ret
    exact ⟨rfl, KF.out.bel⟩
  have g3 : ¬ (3000 : Int) < (s.size : Int) := by omega
  obtain ⟨x, xp, hx⟩ : ∃ x p, form a = (x, p) := ⟨_, _, rfl⟩
  have HFx := Lib.hid hx
  clear hx
  go_wp2_with fail
  refine (refForm_is _ _ a (K0.out.get (.slice A L c) a (by simp)) (by have := HL1.out; omega) (x, xp) HFx.out).mono ?_
  rintro e w2 ⟨vx, rfl, hv, hb⟩
  obtain ⟨Bx, Mx, dx, rfl⟩ := hv.sl
  have K1 := Lib.hid ((K0.out.step hb).push hv)
  clear hv hb
  obtain ⟨y, yp, hy⟩ : ∃ y p, form b = (y, p) := ⟨_, _, rfl⟩
  have HFy := Lib.hid hy
  clear hy
  go_wp2_with fail
  refine (refForm_is _ _ b (K1.out.get (.slice A2 L2 c2) b (by simp)) (by have := HL2.out; omega) (y, yp) HFy.out).mono ?_
  rintro e w3 ⟨vy, rfl, hv, hb⟩
  obtain ⟨By, My, dy, rfl⟩ := hv.sl
  have K2 := Lib.hid ((K1.out.step hb).push hv)
  clear hv hb
  obtain ⟨z, zp, hz⟩ : ∃ z p, form d = (z, p) := ⟨_, _, rfl⟩
  have HFz := Lib.hid hz
  clear hz
  go_wp2_with fail
  refine (refForm_is _ _ d (K2.out.get (.slice A3 L3 c3) d (by simp)) (by have := HL3.out; omega) (z, zp) HFz.out).mono ?_
  rintro e w4 ⟨vz, rfl, hv, hb⟩
  obtain ⟨Bz, Mz, dz, rfl⟩ := hv.sl
  have K3 := Lib.hid ((K2.out.step hb).push hv)
  clear hv hb
  cases xp with
  | false =>
    go_wp2_with fail
    refine (fixed3_any _).mono ?_
    rintro e wf ⟨rfl, hbf⟩
    have KF := Lib.hid (K3.out.step hbf)
    clear hbf
    go_wp2
    go_ret
    exact ⟨rfl, KF.out.bel⟩
  | true =>
  cases yp with
  | false =>
    go_wp2_with fail
    refine (fixed3_any _).mono ?_
    rintro e wf ⟨rfl, hbf⟩
    have KF := Lib.hid (K3.out.step hbf)
    clear hbf
    go_wp2
    go_ret
    exact ⟨rfl, KF.out.bel⟩
  | true =>
  cases zp with
  | false =>
    go_wp2_with fail
    refine (fixed3_any _).mono ?_
    rintro e wf ⟨rfl, hbf⟩
    have KF := Lib.hid (K3.out.step hbf)
    clear hbf
    go_wp2
    go_ret
    exact ⟨rfl, KF.out.bel⟩
  | true =>
  have HFa := Lib.hid (show (form a).2 = true by rw [HFx.out])
  have HFb := Lib.hid (show (form b).2 = true by rw [HFy.out])
  have HFd := Lib.hid (show (form d).2 = true by rw [HFz.out])
  have HLa := Lib.hid (show a.length ≤ 8 by have := HL1.out; omega)
  have HLb := Lib.hid (show b.length ≤ 8 by have := HL2.out; omega)
  have HLd := Lib.hid (show d.length ≤ 8 by have := HL3.out; omega)
  obtain ⟨u, hu⟩ : ∃ z, unionL b d = z := ⟨_, rfl⟩
  have Hu := Lib.hid hu
  have Hleu := Lib.hid (show u.length ≤ 16 by rw [← hu]; exact unionL_le _ _)
  clear hu
  go_wp2_with fail
  refine (union_is _ _ _ b d (K3.out.get (.slice A2 L2 c2) b (by simp)) (K3.out.get (.slice A3 L3 c3) d (by simp)) (by have := HLb.out; omega) (by have := HLd.out; omega) u Hu.out).mono ?_
  rintro e w5 ⟨vu, rfl, hv, hb⟩
  obtain ⟨Bu, Mu, du, rfl⟩ := hv.sl
  have HMu := Lib.hid hv.len
  have K4 := Lib.hid ((K3.out.step hb).push hv)
  clear hv hb
  obtain ⟨one, hone⟩ : ∃ z, meetF a u = z := ⟨_, rfl⟩
  have Hone := Lib.hid hone
  have Hleone := Lib.hid (show one.length ≤ 16 by rw [← hone]; exact meetF_le _ _)
  clear hone
  go_wp2_with fail
  refine (meetF_is _ _ _ a u (K4.out.get (.slice A L c) a (by simp)) (K4.out.get (.slice Bu Mu du) u (by simp)) (by have := HLa.out; omega) (by have := Hleu.out; omega) one Hone.out).mono ?_
  rintro e w6 ⟨vone, rfl, hv, hb⟩
  obtain ⟨Bone, Mone, done, rfl⟩ := hv.sl
  have HMone := Lib.hid hv.len
  have K5 := Lib.hid ((K4.out.step hb).push hv)
  clear hv hb
  obtain ⟨m1, hm1⟩ : ∃ z, meetF a b = z := ⟨_, rfl⟩
  have Hm1 := Lib.hid hm1
  have Hlem1 := Lib.hid (show m1.length ≤ 16 by rw [← hm1]; exact meetF_le _ _)
  clear hm1
  go_wp2_with fail
  refine (meetF_is _ _ _ a b (K5.out.get (.slice A L c) a (by simp)) (K5.out.get (.slice A2 L2 c2) b (by simp)) (by have := HLa.out; omega) (by have := HLb.out; omega) m1 Hm1.out).mono ?_
  rintro e w7 ⟨vm1, rfl, hv, hb⟩
  obtain ⟨Bm1, Mm1, dm1, rfl⟩ := hv.sl
  have HMm1 := Lib.hid hv.len
  have K6 := Lib.hid ((K5.out.step hb).push hv)
  clear hv hb
  obtain ⟨m2, hm2⟩ : ∃ z, meetF a d = z := ⟨_, rfl⟩
  have Hm2 := Lib.hid hm2
  have Hlem2 := Lib.hid (show m2.length ≤ 16 by rw [← hm2]; exact meetF_le _ _)
  clear hm2
  go_wp2_with fail
  refine (meetF_is _ _ _ a d (K6.out.get (.slice A L c) a (by simp)) (K6.out.get (.slice A3 L3 c3) d (by simp)) (by have := HLa.out; omega) (by have := HLd.out; omega) m2 Hm2.out).mono ?_
  rintro e w8 ⟨vm2, rfl, hv, hb⟩
  obtain ⟨Bm2, Mm2, dm2, rfl⟩ := hv.sl
  have HMm2 := Lib.hid hv.len
  have K7 := Lib.hid ((K6.out.step hb).push hv)
  clear hv hb
  obtain ⟨two, htwo⟩ : ∃ z, unionL m1 m2 = z := ⟨_, rfl⟩
  have Htwo := Lib.hid htwo
  have Hletwo := Lib.hid (show two.length ≤ 16 by rw [← htwo]; exact unionL_le _ _)
  clear htwo
  go_wp2_with fail
  refine (union_is _ _ _ m1 m2 (K7.out.get (.slice Bm1 Mm1 dm1) m1 (by simp)) (K7.out.get (.slice Bm2 Mm2 dm2) m2 (by simp)) (by have := Hlem1.out; omega) (by have := Hlem2.out; omega) two Htwo.out).mono ?_
  rintro e w9 ⟨vtwo, rfl, hv, hb⟩
  obtain ⟨Btwo, Mtwo, dtwo, rfl⟩ := hv.sl
  have HMtwo := Lib.hid hv.len
  have K8 := Lib.hid ((K7.out.step hb).push hv)
  clear hv hb
  obtain ⟨qa, hqa⟩ : ∃ q, hasL a s.data.toList = q := ⟨_, rfl⟩
  obtain ⟨qb, hqb⟩ : ∃ q, hasL b s.data.toList = q := ⟨_, rfl⟩
  obtain ⟨qd, hqd⟩ : ∃ q, hasL d s.data.toList = q := ⟨_, rfl⟩
  obtain ⟨qi, hqi⟩ : ∃ q, (qa && (qb || qd)) = q := ⟨_, rfl⟩
  have HQA := Lib.hid hqa
  have HQB := Lib.hid hqb
  have HQD := Lib.hid hqd
  have HQI := Lib.hid hqi
  have HP1 := Lib.hid (show one = [] ∨ hasL one s.data.toList = qi by
    have := share_one HFa.out HFb.out HFd.out HLb.out HLd.out s.data.toList
    rw [Hu.out, Hone.out, hqa, hqb, hqd, hqi] at this; exact this)
  have HP2 := Lib.hid (show two = [] ∨ hasL two s.data.toList = qi by
    have := share_two HFa.out HFb.out HFd.out HLa.out HLb.out HLd.out s.data.toList
    rw [Hm1.out, Hm2.out, Htwo.out, hqa, hqb, hqd, hqi] at this; exact this)
  clear hqa hqb hqd hqi
  have HBW := Lib.hid (RowKit.Below.refl w9.heap.size w9)
  go_upto_region 10 with fail
  go_cut [17] from 18 to 131 (fun v wx => v = .bool qi ∧ Hid (RowKit.Below w9.heap.size w9 wx))
  case first =>
    go_wp2_with fail
    refine (refHasL_is _ _ a s (K8.out.get (.slice A L c) a (by simp)) qa HQA.out).mono ?_
    rintro e wa ⟨rfl, hba⟩
    have KA := Lib.hid (K8.out.step hba)
    have HBA := Lib.hid (HBW.out.trans hba)
    clear hba
    cases qa with
    | false =>
      go_wp2_with fail
      go_meet
      exact ⟨by rw [← HQI.out]; rfl, HBA⟩
    | true =>
      go_wp2_with fail
      refine (refHasL_is _ _ b s (KA.out.get (.slice A2 L2 c2) b (by simp)) qb HQB.out).mono ?_
      rintro e wb ⟨rfl, hbb⟩
      have KB := Lib.hid (KA.out.step hbb)
      have HBB := Lib.hid (HBA.out.trans (hbb.mono HBA.out.size))
      clear hbb
      cases qb with
      | true =>
        go_wp2_with fail
        go_meet
        exact ⟨by rw [← HQI.out]; rfl, HBB⟩
      | false =>
        go_wp2_with fail
        refine (refHasL_is _ _ d s (KB.out.get (.slice A3 L3 c3) d (by simp)) qd HQD.out).mono ?_
        rintro e wd ⟨rfl, hbd⟩
        have HBD := Lib.hid (HBB.out.trans (hbd.mono HBB.out.size))
        clear hbd
        go_wp2_with fail
        go_meet
        exact ⟨by rw [← HQI.out]; simp, HBD⟩
  case rest =>
    obtain ⟨rfl, HB9⟩ := hcut
    have KX := Lib.hid (K8.out.step HB9.out)
    have HBX := Lib.hid (RowKit.Below.refl wc.heap.size wc)
    obtain ⟨wx, hwx⟩ : ∃ wx : World, wx = wc := ⟨_, rfl⟩
    subst hwx
    clear HBW HB9
    go_upto_region 11 with fail
    go_cut [131] from 18 to 131 (fun v wy => v = .bool false ∧ Hid (RowKit.Below wx.heap.size wx wy))
    case first =>
      by_cases u1 : Mone < 16
      · have i1 : (Mone : Int) < 16 := by omega
        by_cases u2 : Mtwo < 16
        · have i2 : (Mtwo : Int) < 16 := by omega
          obtain ⟨r1, hr1⟩ : ∃ r, hasL one s.data.toList = r := ⟨_, rfl⟩
          obtain ⟨r2, hr2⟩ : ∃ r, hasL two s.data.toList = r := ⟨_, rfl⟩
          have HR1 := Lib.hid hr1
          have HR2 := Lib.hid hr2
          have HZ1 := Lib.hid (show r1 ≠ qi → Mone = 0 from fun hn => by
            rcases HP1.out with h | h
            · rw [HMone.out, h]; rfl
            · exact absurd (hr1.symm.trans h) hn)
          have HZ2 := Lib.hid (show r2 ≠ qi → Mtwo = 0 from fun hn => by
            rcases HP2.out with h | h
            · rw [HMtwo.out, h]; rfl
            · exact absurd (hr2.symm.trans h) hn)
          clear hr1 hr2
          go_wp2_with fail
          refine (hasL_is _ _ one s (KX.out.get (.slice Bone Mone done) one (by simp)) r1 HR1.out).mono ?_
          rintro e wa ⟨rfl, hba⟩
          have KA := Lib.hid (KX.out.step hba)
          have HBA := Lib.hid (HBX.out.trans hba)
          clear hba
          by_cases e1 : r1 = qi
          · go_wp2_with fail
            refine (hasL_is _ _ two s (KA.out.get (.slice Btwo Mtwo dtwo) two (by simp)) r2 HR2.out).mono ?_
            rintro e wb ⟨rfl, hbb⟩
            have HBB := Lib.hid (HBA.out.trans (hbb.mono HBA.out.size))
            clear hbb
            by_cases e2 : r2 = qi
            · go_wp2_with fail
              go_meet
              exact ⟨by first | rfl | simp [e2] | simp, HBB⟩
            · have z2 := HZ2.out e2
              subst z2
              go_wp2_with fail
              go_meet
              exact ⟨by first | rfl | simp [e2] | simp, HBB⟩
          · have z1 := HZ1.out e1
            subst z1
            go_wp2_with fail
            refine (hasL_is _ _ two s (KA.out.get (.slice Btwo Mtwo dtwo) two (by simp)) r2 HR2.out).mono ?_
            rintro e wb ⟨rfl, hbb⟩
            have HBB := Lib.hid (HBA.out.trans (hbb.mono HBA.out.size))
            clear hbb
            by_cases e2 : r2 = qi
            · go_wp2_with fail
              go_meet
              exact ⟨by first | rfl | simp [e2] | simp, HBB⟩
            · have z2 := HZ2.out e2
              subst z2
              go_wp2_with fail
              go_meet
              exact ⟨by first | rfl | simp [e2] | simp, HBB⟩
        · have i2 : ¬ (Mtwo : Int) < 16 := by omega
          go_wp2_with fail
          go_meet
          exact ⟨rfl, HBX⟩
      · have i1 : ¬ (Mone : Int) < 16 := by omega
        go_wp2_with fail
        go_meet
        exact ⟨rfl, HBX⟩
    case rest =>
      obtain ⟨rfl, HB9⟩ := hcut
      have KY := Lib.hid (KX.out.step HB9.out)
      clear HB9 HBX
      have HUS := Lib.hid (union_self HFa.out)
      have HMS := Lib.hid (meet_self HFa.out)
      have HMW := Lib.hid (meet_whole HFa.out)
      obtain ⟨ua, hua⟩ : ∃ z, unionL a a = z := ⟨_, rfl⟩
      obtain ⟨ma, hma⟩ : ∃ z, meetF a a = z := ⟨_, rfl⟩
      obtain ⟨mw, hmw⟩ : ∃ z, meetF a [wholeS] = z := ⟨_, rfl⟩
      have Hlu := Lib.hid (show ua.length ≤ 16 by rw [← hua]; exact unionL_le _ _)
      have Hlm := Lib.hid (show ma.length ≤ 16 by rw [← hma]; exact meetF_le _ _)
      have Hlw := Lib.hid (show mw.length ≤ 16 by rw [← hmw]; exact meetF_le _ _)
      rw [hua] at HUS
      rw [hma] at HMS
      rw [hmw] at HMW
      have HUA := Lib.hid hua
      have HMA := Lib.hid hma
      have HMWW := Lib.hid hmw
      clear hua hma hmw
      go_wp2_with fail
      refine (fixed3_any _).mono ?_
      rintro e y1 ⟨rfl, hb⟩
      have Y1 := Lib.hid (KY.out.step hb)
      clear hb
      go_wp2_with fail
      refine (union_is _ _ _ a a (Y1.out.get (.slice A L c) a (by simp)) (Y1.out.get (.slice A L c) a (by simp)) (by have := HLa.out; omega) (by have := HLa.out; omega) ua HUA.out).mono ?_
      rintro e y2 ⟨vu, rfl, hv, hb⟩
      obtain ⟨Bua, Mua, dua, rfl⟩ := hv.sl
      have Y2 := Lib.hid ((Y1.out.step hb).push hv)
      clear hv hb
      go_wp2_with fail
      refine (same_is _ _ _ ua a (Y2.out.get (.slice Bua Mua dua) ua (by simp)) (Y2.out.get (.slice A L c) a (by simp)) (by have := Hlu.out; omega) (by have := HLa.out; omega) true (by rw [HUS.out]; simp)).mono ?_
      rintro e y3 ⟨rfl, hb⟩
      have Y3 := Lib.hid (Y2.out.step hb)
      clear hb
      go_wp2_with fail
      refine (meetF_is _ _ _ a a (Y3.out.get (.slice A L c) a (by simp)) (Y3.out.get (.slice A L c) a (by simp)) (by have := HLa.out; omega) (by have := HLa.out; omega) ma HMA.out).mono ?_
      rintro e y4 ⟨vm, rfl, hv, hb⟩
      obtain ⟨Bma, Mma, dma, rfl⟩ := hv.sl
      have Y4 := Lib.hid ((Y3.out.step hb).push hv)
      clear hv hb
      go_wp2_with fail
      refine (same_is _ _ _ ma a (Y4.out.get (.slice Bma Mma dma) ma (by simp)) (Y4.out.get (.slice A L c) a (by simp)) (by have := Hlm.out; omega) (by have := HLa.out; omega) true (by rw [HMS.out]; simp)).mono ?_
      rintro e y5 ⟨rfl, hb⟩
      have Y5 := Lib.hid (Y4.out.step hb)
      clear hb
      have hba : RowKit.Below y5.heap.size y5 (y5.alloc (.cells #[.string ⟨#[]⟩, .string ⟨#[]⟩] 39)) := (RowKit.Below.refl _ _).alloc (Nat.le_refl _) _
      have hro := (own_lit (w0 := y5) (w := y5.alloc (.cells #[.string ⟨#[]⟩, .string ⟨#[]⟩] 39)) (base := y5.heap.size) (X := y5.heap.size) (x := wholeS) (e := 39) (heap_alloc_new y5 _) (Nat.le_refl _) (Nat.zero_le _) (Nat.zero_le _)).row hba
      have Y6 := Lib.hid ((Y5.out.step hba).push hro)
      clear hba hro
      go_wp2_with fail
      refine (meetF_is _ _ _ a [wholeS] (Y6.out.get (.slice A L c) a (by simp)) (Y6.out.get (.slice (some ⟨y5.heap.size, 0, none⟩) 1 1) [wholeS] (by simp)) (by have := HLa.out; omega) (by simp) mw HMWW.out).mono ?_
      rintro e y7 ⟨vw, rfl, hv, hb⟩
      obtain ⟨Bmw, Mmw, dmw, rfl⟩ := hv.sl
      have Y7 := Lib.hid ((Y6.out.step hb).push hv)
      clear hv hb
      go_wp2_with fail
      refine (same_is _ _ _ mw a (Y7.out.get (.slice Bmw Mmw dmw) mw (by simp)) (Y7.out.get (.slice A L c) a (by simp)) (by have := Hlw.out; omega) (by have := HLa.out; omega) true (by rw [HMW.out]; simp)).mono ?_
      rintro e y8 ⟨rfl, hb⟩
      have Y8 := Lib.hid (Y7.out.step hb)
      clear hb
      go_wp2
      go_ret
      exact ⟨rfl, Y8.out.bel⟩
end Go.Proofs.YtdijkekglaimfaaGreat.Sq
