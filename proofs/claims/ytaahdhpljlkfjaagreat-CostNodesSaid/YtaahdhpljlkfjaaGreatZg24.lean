/- The document's spans are spans with points: their bounds, and one ahead of all and one behind all. -/
import Derived.Test.YtaahdhpljlkfjaaGreatZg23
import Derived.Test.YtaahdhpljlkfjaaGreatZg08
import Derived.Test.YtaahdhpljlkfjaaGreatZg19
import Derived.Shelf.Abstract
namespace Go.Proofs.YtaahdhpljlkfjaaGreat.Ver
open Ss

abbrev Spn := ByteArray × ByteArray
abbrev Spn.lo (s : Spn) : Bs := s.1.data.toList
abbrev Spn.hi (s : Spn) : Bs := s.2.data.toList
inductive Pnt where
  | bot
  | at (v : Bs)
  | top
def Spn.ok (s : Spn) : Prop := smay s.lo s.hi = true
def Spn.mem (s : Spn) : Pnt → Prop
  | .bot => s.lo.isEmpty = true
  | .at v => may v = true ∧ lowR s.lo v = true ∧ highR s.hi v = true
  | .top => s.hi.isEmpty = true
def Spn.meets (a b : Spn) : Bool := (smeet a.1 a.2 b.1 b.2).2.2
def Spn.join (a b : Spn) : Spn := sjoin a.1 a.2 b.1 b.2
def Spn.low (a b : Spn) : Bool := lowR a.lo b.lo

theorem lowR_nil {a : Bs} (h : a.isEmpty = true) (b : Bs) : lowR a b = true := by unfold lowR; rw [h]; rfl
theorem highR_nil {a : Bs} (h : a.isEmpty = true) (b : Bs) : highR a b = true := by unfold highR; rw [h]; rfl
theorem lowR_to_nil {a b : Bs} (h : lowR a b = true) (hb : b.isEmpty = true) : a.isEmpty = true := by
  unfold lowR at h; rw [hb] at h; simpa using h
theorem highR_to_nil {a b : Bs} (h : highR a b = true) (hb : b.isEmpty = true) : a.isEmpty = true := by
  unfold highR at h; rw [hb] at h; simpa using h
theorem may_isEmpty {v : Bs} (h : may v = true) : v.isEmpty = false := by
  cases v with
  | nil => rw [may_nil] at h; cases h
  | cons => rfl
theorem lowR_cmp {a b : Bs} (ha : a.isEmpty = false) (hb : b.isEmpty = false) : lowR a b = decide (compare a b ≤ 0) := by unfold lowR; rw [ha, hb]; simp
theorem highR_cmp {a b : Bs} (ha : a.isEmpty = false) (hb : b.isEmpty = false) : highR a b = decide (0 ≤ compare a b) := by unfold highR; rw [ha, hb]; simp
theorem high_low {a b : Bs} (ha : a.isEmpty = false) (hb : b.isEmpty = false) (h : lowR a b = true) : highR b a = true := by
  rw [lowR_cmp ha hb] at h; rw [highR_cmp hb ha]
  have := compare_anti a b
  simp at h ⊢; omega

theorem Spn.ok.ok_lo {s : Spn} (h : s.ok) (he : s.lo.isEmpty = false) : may s.lo = true := by
  have := (smay_bounds h).1; rw [he] at this; simpa using this
theorem Spn.ok.ok_hi {s : Spn} (h : s.ok) (he : s.hi.isEmpty = false) : may s.hi = true := by
  have := (smay_bounds h).2; rw [he] at this; simpa using this
theorem Spn.ok.ok_le {s : Spn} (h : s.ok) (h1 : s.lo.isEmpty = false) (h2 : s.hi.isEmpty = false) : compare s.lo s.hi ≤ 0 := by
  unfold Spn.ok smay at h
  rw [h1, h2] at h
  simp at h
  exact h.2
theorem Spn.ok.lo_in {s : Spn} (h : s.ok) (he : s.lo.isEmpty = false) : s.mem (.at s.lo) := by
  refine ⟨h.ok_lo he, lowR_self _, ?_⟩
  cases h2 : s.hi.isEmpty with
  | true => exact highR_nil h2 _
  | false => exact high_low he h2 (by rw [lowR_cmp he h2]; exact decide_eq_true (h.ok_le he h2))
theorem Spn.ok.hi_in {s : Spn} (h : s.ok) (he : s.hi.isEmpty = false) : s.mem (.at s.hi) := by
  refine ⟨h.ok_hi he, ?_, highR_self _⟩
  cases h2 : s.lo.isEmpty with
  | true => exact lowR_nil h2 _
  | false => rw [lowR_cmp h2 he]; exact decide_eq_true (h.ok_le h2 he)
theorem Spn.meets_eq {a b : Spn} (ha : a.ok) (hb : b.ok) : a.meets b = smay (mlo a.1 b.1).data.toList (mhi a.2 b.2).data.toList := by
  unfold Spn.meets smeet
  unfold Spn.ok at ha hb
  rw [ha, hb]
  cases smay (mlo a.1 b.1).data.toList (mhi a.2 b.2).data.toList <;> rfl
theorem Spn.join_eq {a b : Spn} (ha : a.ok) (hb : b.ok) : a.join b = (jlo a.1 b.1, jhi a.2 b.2) := by
  unfold Spn.join sjoin
  unfold Spn.ok at ha hb
  rw [ha, hb]; rfl
theorem mlo_bound {a b : Spn} (ha : a.ok) (hb : b.ok) : ((mlo a.1 b.1).data.toList.isEmpty || may (mlo a.1 b.1).data.toList) = true := by
  unfold mlo; split
  · exact (smay_bounds hb).1
  · exact (smay_bounds ha).1
theorem mhi_bound {a b : Spn} (ha : a.ok) (hb : b.ok) : ((mhi a.2 b.2).data.toList.isEmpty || may (mhi a.2 b.2).data.toList) = true := by
  unfold mhi; split
  · exact (smay_bounds hb).2
  · exact (smay_bounds ha).2
theorem mlo_nil {a b : ByteArray} : (mlo a b).data.toList.isEmpty = true ↔ a.data.toList.isEmpty = true ∧ b.data.toList.isEmpty = true := by
  unfold mlo
  cases h : lowR a.data.toList b.data.toList with
  | true => rw [if_pos rfl]; exact ⟨fun hb => ⟨lowR_to_nil h hb, hb⟩, fun hh => hh.2⟩
  | false => rw [if_neg (by simp)]; exact ⟨fun ha => (by rw [lowR_nil ha] at h; cases h), fun hh => hh.1⟩
theorem mhi_nil {a b : ByteArray} : (mhi a b).data.toList.isEmpty = true ↔ a.data.toList.isEmpty = true ∧ b.data.toList.isEmpty = true := by
  unfold mhi
  cases h : highR a.data.toList b.data.toList with
  | true => rw [if_pos rfl]; exact ⟨fun hb => ⟨highR_to_nil h hb, hb⟩, fun hh => hh.2⟩
  | false => rw [if_neg (by simp)]; exact ⟨fun ha => (by rw [highR_nil ha] at h; cases h), fun hh => hh.1⟩
theorem Spn.meets_iff {a b : Spn} (ha : a.ok) (hb : b.ok) : a.meets b = true ↔ ∃ p, a.mem p ∧ b.mem p := by
  rw [Spn.meets_eq ha hb]
  have b1 := mlo_bound ha hb
  have b2 := mhi_bound ha hb
  constructor
  · intro h
    cases e1 : (mlo a.1 b.1).data.toList.isEmpty with
    | true => have := mlo_nil.1 e1; exact ⟨.bot, this.1, this.2⟩
    | false =>
      cases e2 : (mhi a.2 b.2).data.toList.isEmpty with
      | true => have := mhi_nil.1 e2; exact ⟨.top, this.1, this.2⟩
      | false =>
        have h3 : Spn.ok (mlo a.1 b.1, mhi a.2 b.2) := h
        obtain ⟨m1, m2, m3⟩ := h3.lo_in e1
        have l := mlo_low a.1 b.1 (mlo a.1 b.1).data.toList
        have hh := mhi_high a.2 b.2 (mlo a.1 b.1).data.toList
        rw [show lowR (mlo a.1 b.1).data.toList (mlo a.1 b.1).data.toList = true from m2] at l
        rw [show highR (mhi a.2 b.2).data.toList (mlo a.1 b.1).data.toList = true from m3] at hh
        have l := (Bool.and_eq_true _ _).mp l.symm
        have hh := (Bool.and_eq_true _ _).mp hh.symm
        exact ⟨.at (mlo a.1 b.1).data.toList, ⟨m1, l.1, hh.1⟩, ⟨m1, l.2, hh.2⟩⟩
  · rintro ⟨p, h1, h2⟩
    cases p with
    | bot =>
      unfold smay
      rw [mlo_nil.2 ⟨h1, h2⟩, b2]; rfl
    | top =>
      unfold smay
      rw [mhi_nil.2 ⟨h1, h2⟩, b1]; simp
    | «at» v =>
      exact reach_may b1 b2 (by rw [mlo_low]; exact (Bool.and_eq_true _ _).mpr ⟨h1.2.1, h2.2.1⟩) (by rw [mhi_high]; exact (Bool.and_eq_true _ _).mpr ⟨h1.2.2, h2.2.2⟩)
theorem jlo_nil {a b : ByteArray} : (jlo a b).data.toList.isEmpty = true ↔ a.data.toList.isEmpty = true ∨ b.data.toList.isEmpty = true := by
  unfold jlo
  cases h : lowR b.data.toList a.data.toList with
  | true => rw [if_pos rfl]; exact ⟨.inr, fun hh => hh.elim (lowR_to_nil h) id⟩
  | false => rw [if_neg (by simp)]; exact ⟨.inl, fun hh => hh.elim id fun hb => by rw [lowR_nil hb] at h; cases h⟩
theorem jhi_nil {a b : ByteArray} : (jhi a b).data.toList.isEmpty = true ↔ a.data.toList.isEmpty = true ∨ b.data.toList.isEmpty = true := by
  unfold jhi
  cases h : highR b.data.toList a.data.toList with
  | true => rw [if_pos rfl]; exact ⟨.inr, fun hh => hh.elim (highR_to_nil h) id⟩
  | false => rw [if_neg (by simp)]; exact ⟨.inl, fun hh => hh.elim id fun hb => by rw [highR_nil hb] at h; cases h⟩
theorem jlo_low {a b : ByteArray} {v : Bs} : lowR (jlo a b).data.toList v = true ↔ lowR a.data.toList v = true ∨ lowR b.data.toList v = true := by
  constructor
  · unfold jlo; split
    · exact .inr
    · exact .inl
  · rintro (h | h)
    · exact lowR_trans (jlo_both a b).1 h
    · exact lowR_trans (jlo_both a b).2 h
theorem jhi_high {a b : ByteArray} {v : Bs} : highR (jhi a b).data.toList v = true ↔ highR a.data.toList v = true ∨ highR b.data.toList v = true := by
  constructor
  · unfold jhi; split
    · exact .inr
    · exact .inl
  · rintro (h | h)
    · exact highR_trans (jhi_both a b).1 h
    · exact highR_trans (jhi_both a b).2 h
/-- A version behind one span and ahead of another one, and the two meet: there is none. -/
theorem no_gap {l h : Bs} {v : Bs} (hv : v.isEmpty = false) (h1 : lowR l v = false) (h2 : highR h v = false) {u : Bs} (hu : u.isEmpty = false) (h3 : lowR l u = true) (h4 : highR h u = true) : False := by
  have a1 : lowR u v = false := by
    cases e : lowR u v with
    | false => rfl
    | true => rw [lowR_trans h3 e] at h1; cases h1
  have a2 : highR u v = false := by
    cases e : highR u v with
    | false => rfl
    | true => rw [highR_trans h4 e] at h2; cases h2
  rw [lowR_cmp hu hv] at a1
  rw [highR_cmp hu hv] at a2
  simp at a1 a2
  omega
theorem Spn.mem_join {a b : Spn} (ha : a.ok) (hb : b.ok) (hm : a.meets b = true) (p : Pnt) : (a.join b).mem p ↔ a.mem p ∨ b.mem p := by
  rw [Spn.join_eq ha hb]
  cases p with
  | bot => exact jlo_nil
  | top => exact jhi_nil
  | «at» v =>
    constructor
    · rintro ⟨h0, h1, h2⟩
      obtain ⟨q, q1, q2⟩ := (Spn.meets_iff ha hb).1 hm
      have hv := may_isEmpty h0
      have key : ∀ {l h : Bs}, (l.isEmpty = true ∨ h.isEmpty = true ∨ ∃ u, may u = true ∧ lowR l u = true ∧ highR h u = true) → lowR l v = true ∨ highR h v = true := by
        intro l h hh
        cases e1 : lowR l v with
        | true => exact .inl rfl
        | false =>
          cases e2 : highR h v with
          | true => exact .inr rfl
          | false =>
            exfalso
            rcases hh with hh | hh | ⟨u, u0, u1, u2⟩
            · rw [lowR_nil hh] at e1; cases e1
            · rw [highR_nil hh] at e2; cases e2
            · exact no_gap hv e1 e2 (may_isEmpty u0) u1 u2
      have k1 : lowR b.lo v = true ∨ highR a.hi v = true := key (by
        cases q with
        | bot => exact .inl q2
        | top => exact .inr (.inl q1)
        | «at» u => exact .inr (.inr ⟨u, q1.1, q2.2.1, q1.2.2⟩))
      have k2 : lowR a.lo v = true ∨ highR b.hi v = true := key (by
        cases q with
        | bot => exact .inl q1
        | top => exact .inr (.inl q2)
        | «at» u => exact .inr (.inr ⟨u, q1.1, q1.2.1, q2.2.2⟩))
      have h1 : lowR a.lo v = true ∨ lowR b.lo v = true := jlo_low.1 h1
      have h2 : highR a.hi v = true ∨ highR b.hi v = true := jhi_high.1 h2
      rcases h1 with h1 | h1
      · rcases h2 with h2 | h2
        · exact .inl ⟨h0, h1, h2⟩
        · rcases k1 with k1 | k1
          · exact .inr ⟨h0, k1, h2⟩
          · exact .inl ⟨h0, h1, k1⟩
      · rcases h2 with h2 | h2
        · rcases k2 with k2 | k2
          · exact .inl ⟨h0, k2, h2⟩
          · exact .inr ⟨h0, h1, k2⟩
        · exact .inr ⟨h0, h1, h2⟩
    · rintro (⟨h0, h1, h2⟩ | ⟨h0, h1, h2⟩)
      · exact ⟨h0, jlo_low.2 (.inl h1), jhi_high.2 (.inl h2)⟩
      · exact ⟨h0, jlo_low.2 (.inr h1), jhi_high.2 (.inr h2)⟩
theorem alike {a b : Bs} (ha : may a = true) (h1 : lowR a b = true) (h2 : lowR b a = true) (hb : b.isEmpty = false) : a = b := by
  rw [lowR_cmp (may_isEmpty ha) hb] at h1
  rw [lowR_cmp hb (may_isEmpty ha)] at h2
  have := compare_anti a b
  simp at h1 h2
  rcases compare_eq (a := a) (b := b) (by omega) with e | e
  · exact e
  · rw [ha] at e; cases e.1
theorem Spn.ext' {a b : Spn} (ha : a.ok) (hb : b.ok) (h : ∀ p, a.mem p ↔ b.mem p) : a = b := by
  have e1 : a.lo = b.lo := by
    cases ea : a.lo.isEmpty with
    | true =>
      have eb : b.lo.isEmpty = true := (h .bot).1 ea
      rw [List.isEmpty_iff.1 ea, List.isEmpty_iff.1 eb]
    | false =>
      cases eb : b.lo.isEmpty with
      | true => rw [(h .bot).2 eb] at ea; cases ea
      | false =>
        have m1 := (h _).1 (ha.lo_in ea)
        have m2 := (h _).2 (hb.lo_in eb)
        exact alike (ha.ok_lo ea) m2.2.1 m1.2.1 eb
  have e2 : a.hi = b.hi := by
    cases ea : a.hi.isEmpty with
    | true =>
      have eb : b.hi.isEmpty = true := (h .top).1 ea
      rw [List.isEmpty_iff.1 ea, List.isEmpty_iff.1 eb]
    | false =>
      cases eb : b.hi.isEmpty with
      | true => rw [(h .top).2 eb] at ea; cases ea
      | false =>
        have m1 := ((h _).1 (ha.hi_in ea)).2.2
        have m2 := ((h _).2 (hb.hi_in eb)).2.2
        rw [highR_cmp eb ea] at m1
        rw [highR_cmp ea eb] at m2
        have := compare_anti a.hi b.hi
        simp at m1 m2
        rcases compare_eq (a := a.hi) (b := b.hi) (by omega) with e | e
        · exact e
        · rw [ha.ok_hi ea] at e; cases e.1
  exact Prod.ext (ba_ext e1) (ba_ext e2)
theorem Spn.meets_at {a b : Spn} (ha : a.ok) (hb : b.ok) (h1 : lowR a.lo b.lo = true) (h2 : b.lo.isEmpty = false → highR a.hi b.lo = true) : a.meets b = true := by
  rw [Spn.meets_iff ha hb]
  cases e : b.lo.isEmpty with
  | true => exact ⟨.bot, lowR_to_nil h1 e, e⟩
  | false => exact ⟨.at b.lo, ⟨hb.ok_lo e, h1, h2 e⟩, hb.lo_in e⟩
def spanSp : Sp Spn Pnt where
  ok := Spn.ok
  mem := Spn.mem
  meets := Spn.meets
  join := Spn.join
  low := Spn.low
  meets_iff := Spn.meets_iff
  ok_join := fun {a b} ha hb _ => by rw [Spn.join_eq ha hb]; exact join_may ha hb
  mem_join := Spn.mem_join
  ext := Spn.ext'
  some_mem := fun {a} ha => by
    cases e : a.lo.isEmpty with
    | true => exact ⟨.bot, e⟩
    | false => exact ⟨_, ha.lo_in e⟩
  low_refl := fun a => lowR_self _
  low_total := fun _ _ h => lowR_total h
  low_trans := fun _ _ _ h1 h2 => lowR_trans h1 h2
  low_same := fun {a b} ha hb h1 h2 => Spn.meets_at ha hb h1 fun e => by
    cases ea : a.lo.isEmpty with
    | true => rw [lowR_to_nil h2 ea] at e; cases e
    | false => rw [← alike (ha.ok_lo ea) h1 h2 e]; exact (ha.lo_in ea).2.2
  low_join := fun {a b} ha hb _ h => by
    rw [Spn.join_eq ha hb]
    refine ⟨?_, (jlo_both a.1 b.1).1⟩
    show lowR a.lo (jlo a.1 b.1).data.toList = true
    unfold jlo; split
    · exact h
    · exact lowR_self _
  far := fun {a b c} ha hb hc h1 h2 hn => by
    cases hm : a.meets c with
    | false => rfl
    | true =>
      rw [← hn]
      symm
      refine Spn.meets_at ha hb h1 fun e => ?_
      obtain ⟨p, p1, p2⟩ := (Spn.meets_iff ha hc).1 hm
      cases p with
      | bot => rw [lowR_to_nil h2 p2] at e; cases e
      | top => exact highR_nil p1 _
      | «at» u => exact highR_trans p1.2.2 (high_low e (may_isEmpty p1.1) (lowR_trans h2 p2.2.1))
end Go.Proofs.YtaahdhpljlkfjaaGreat.Ver

/- The document's words on rows of spans: what is too much, what is in them, whether they are the same. -/
namespace Go.Proofs.YtaahdhpljlkfjaaGreat.Ver
open Go.RowKit Rc

theorem spn_at {w : World} {A : Option Addr} {L c : Nat} {l : List Spn} (h : RowD setK w (.slice A L c) l) {j : Nat} (hj : j < L) :
    ∃ b off, A = some ⟨b, off, none⟩ ∧ b < w.heap.size ∧ (Rc.nth l j).1.size ≤ maxLen ∧ (Rc.nth l j).2.size ≤ maxLen ∧ w.cell? ⟨b, off + j * 2, none⟩ = some (.string (Rc.nth l j).1) ∧ w.cell? ⟨b, off + j * 2 + 1, none⟩ = some (.string (Rc.nth l j).2) := by
  obtain ⟨b, off, cs, ha, hb, ⟨rfl, h1, h2⟩, hc⟩ := h.at hj
  exact ⟨b, off, ha, hb, h1, h2, hc 0 (by decide), hc 1 (by decide)⟩
def hasL (l : List Spn) (v : Bs) : Bool := l.any fun s => shas s.lo s.hi v
theorem retB {a b : Bool} (h : a = b) : Ending.returned (.bool a) = .returned (.bool b) := by rw [h]
def Small (l : List Spn) : Prop := l.length ≤ 30 ∧ ∀ s ∈ l, s.1.size ≤ 100 ∧ s.2.size ≤ 100

set_option maxRecDepth 100000 in
theorem refHasL_is (w : World) (v : Value) (l : List Spn) (x : ByteArray) (h : RowD setK w v l) (b : Bool) (hb : hasL l x.data.toList = b) :
    Calls Tryz.prog 86 #[v, .string x] w fun e w' => e = .returned (.bool b) ∧ Below w.heap.size w w' := by
  obtain ⟨A, L, c, rfl⟩ := h.sl
  have H := Lib.hid h
  have HL := Lib.hid h.len
  have hc := h.cap
  have HB := Lib.hid hb
  have HB0 := Lib.hid (Below.refl w.heap.size w)
  clear h hb
  go_enter Tryz.func86, Tryz.ntmps86
  go_wp2
  go_loopw [8] (fun i wr => ∃ k : Nat, k ≤ L ∧ i = .int .i64 k ∧ Hid (hasL (l.take k) x.data.toList = false) ∧ Hid (Below w.heap.size w wr)) (fun i _ => L - (RowKit.intOf i).toNat)
  case atStart => exact ⟨0, Nat.zero_le _, rfl, Lib.hid rfl, HB0⟩
  case round =>
    obtain ⟨k, hk, rfl, HN, HW⟩ := hrel
    by_cases hlt : k < L
    · have hkl : k < l.length := by rw [← HL.out]; exact hlt
      obtain ⟨bb, off, rfl, hb', _, _, c0, c1⟩ := spn_at (H.out.below HW.out (Nat.le_refl _)) hlt
      obtain ⟨s, hs⟩ : ∃ s, Rc.nth l k = s := ⟨_, rfl⟩
      rw [hs] at c0 c1
      obtain ⟨lo, hi⟩ := s
      have HS := Lib.hid (show hasL (l.take (k + 1)) x.data.toList = shas lo.data.toList hi.data.toList x.data.toList by
        have h0 := HN.out
        unfold hasL at h0 ⊢
        rw [Rc.any_snoc hkl, h0, hs]; rfl)
      have HT := Lib.hid (fun (ht : shas lo.data.toList hi.data.toList x.data.toList = true) => (show hasL l x.data.toList = true from any_at hkl (by rw [hs]; exact ht)))
      clear hs hkl
      obtain ⟨r, hr⟩ : ∃ r, shas lo.data.toList hi.data.toList x.data.toList = r := ⟨_, rfl⟩
      have HRR := Lib.hid hr
      clear hr
      go_wp2_with fail
      refine (refHas_is lo hi x r HRR.out _).mono ?_
      rintro e w1 ⟨rfl, hb1⟩
      have HW1 := Lib.hid (HW.out.trans (hb1.mono HW.out.size))
      clear hb1
      cases r with
      | true =>
        have HV := Lib.hid (show b = true by rw [← HB.out]; exact HT.out HRR.out)
        go_wp2
        go_ret
        exact ⟨retB HV.out.symm, HW1.out⟩
      | false =>
        have HV := Lib.hid (show hasL (l.take (k + 1)) x.data.toList = false by rw [HS.out, HRR.out])
        go_wp2
        go_roundw
        case rel => exact ⟨k + 1, by omega, by go_num, HV, HW1⟩
        case measure => simp [RowKit.intOf]; omega
    · obtain rfl : k = L := by omega
      have HV := Lib.hid (show b = false by
        rw [← HB.out]
        have h0 := HN.out
        rwa [HL.out, List.take_length] at h0)
      go_wp2
      go_ret
      exact ⟨retB HV.out.symm, HW.out⟩

def GreatL (l : List Spn) (w : World) (e : Ending) (w' : World) : Prop := ∃ b, e = .returned (.bool b) ∧ (b = false → Small l) ∧ w = w'
set_option maxRecDepth 100000 in
theorem great3_any (w : World) (v : Value) (l : List Spn) (h : RowD setK w v l) :
    Calls Tryz.prog 60 #[v] w (GreatL l w) := by
  obtain ⟨A, L, c, rfl⟩ := h.sl
  have H := Lib.hid h
  have HL := Lib.hid h.len
  have hc := h.cap
  clear h
  by_cases h30 : 30 < L
  · have g1 : (30 : Int) < (L : Int) := by omega
    go_enter Tryz.func60, Tryz.ntmps60
    go_wp2
    go_ret
    exact ⟨true, rfl, fun h => (by cases h), rfl⟩
  have g1 : ¬ (30 : Int) < (L : Int) := by omega
  go_enter Tryz.func60, Tryz.ntmps60
  go_wp2
  go_loop [9] (fun i => ∃ k : Nat, k ≤ L ∧ i = .int .i64 k ∧ Hid (∀ s ∈ l.take k, s.1.size ≤ 100 ∧ s.2.size ≤ 100)) (fun i => L - (RowKit.intOf i).toNat)
  case atStart => exact ⟨0, Nat.zero_le _, rfl, Lib.hid (by simp)⟩
  case round =>
    obtain ⟨k, hk, rfl, HN⟩ := hrel
    by_cases hlt : k < L
    · have hkl : k < l.length := by rw [← HL.out]; exact hlt
      obtain ⟨bb, off, rfl, hb', m1, m2, c0, c1⟩ := spn_at H.out hlt
      obtain ⟨s, hs⟩ : ∃ s, Rc.nth l k = s := ⟨_, rfl⟩
      rw [hs] at c0 c1 m1 m2
      obtain ⟨lo, hi⟩ := s
      have HS := Lib.hid (Rc.take_snoc hkl)
      have HNT := Lib.hid hs
      clear hs hkl
      unfold maxLen at m1 m2
      by_cases z1 : 100 < lo.size
      · have y1 : (100 : Int) < (lo.size : Int) := by omega
        go_wp2
        go_ret
        exact ⟨true, rfl, fun h => (by cases h), rfl⟩
      have y1 : ¬ (100 : Int) < (lo.size : Int) := by omega
      by_cases z2 : 100 < hi.size
      · have y2 : (100 : Int) < (hi.size : Int) := by omega
        go_wp2
        go_ret
        exact ⟨true, rfl, fun h => (by cases h), rfl⟩
      have y2 : ¬ (100 : Int) < (hi.size : Int) := by omega
      have HV := Lib.hid (show ∀ s ∈ l.take (k + 1), s.1.size ≤ 100 ∧ s.2.size ≤ 100 by
        rw [HS.out, HNT.out]
        intro s hs
        rcases List.mem_append.1 hs with hs | hs
        · exact HN.out s hs
        · rw [List.mem_singleton.1 hs]; exact ⟨by show lo.size ≤ 100; omega, by show hi.size ≤ 100; omega⟩)
      go_wp2
      go_round
      case rel => exact ⟨k + 1, by omega, by go_num, HV⟩
      case measure => simp [RowKit.intOf]; omega
    · obtain rfl : k = L := by omega
      have HV := Lib.hid (show Small l by
        have h0 := HN.out
        rw [HL.out, List.take_length] at h0
        exact ⟨by rw [← HL.out]; omega, h0⟩)
      go_wp2
      go_ret
      exact ⟨false, rfl, fun _ => HV.out, rfl⟩
end Go.Proofs.YtaahdhpljlkfjaaGreat.Ver

/- The first span of which something is told. -/
namespace Go.Proofs.YtaahdhpljlkfjaaGreat.Ver
open Go.RowKit Rc

/-- What a test of spans tells, whichever world it is asked in. -/
def Tells (g : FuncId) (cb : Array Value) (w : World) (p : Spn → Bool) : Prop := ∀ (lo hi : ByteArray) (W : World), Below w.heap.size w W → Calls Tryz.prog g (#[.agg #[.string lo, .string hi]] ++ cb) W fun e W' => e = .returned (.bool (p (lo, hi))) ∧ Below W.heap.size W W'
def IdxD (b : Bool) (w : World) (e : Ending) (w' : World) : Prop := ∃ n : Int, e = .returned (.int .i64 n) ∧ decide (0 ≤ n) = b ∧ Below w.heap.size w w'
set_option maxRecDepth 100000 in
theorem indexFunc_is (w : World) (v : Value) (l : List Spn) (h : RowD setK w v l) (g : FuncId) (cb : Array Value) (p : Spn → Bool) (hg : Tells g cb w p) (eg : ∀ args w, (callFunc g args).run Tryz.prog w = .ok (.enter g args) w) (b : Bool) (hb : l.any p = b) :
    Calls Tryz.prog 131 #[v, .func (.func g) #[] cb] w (IdxD b w) := by
  obtain ⟨A, L, c, rfl⟩ := h.sl
  have H := Lib.hid h
  have HL := Lib.hid h.len
  have hc := h.cap
  have HB := Lib.hid hb
  have HG := Lib.hid hg
  have HB0 := Lib.hid (Below.refl w.heap.size w)
  clear h hb hg
  go_enter Tryz.func131, Tryz.ntmps131
  go_wp2
  go_loopw [8] (fun i wr => ∃ k : Nat, k ≤ L ∧ i = .int .i64 k ∧ Hid ((l.take k).any p = false) ∧ Hid (Below w.heap.size w wr)) (fun i _ => L - (RowKit.intOf i).toNat)
  case atStart => exact ⟨0, Nat.zero_le _, rfl, Lib.hid rfl, HB0⟩
  case round =>
    obtain ⟨k, hk, rfl, HN, HW⟩ := hrel
    by_cases hlt : k < L
    · have hkl : k < l.length := by rw [← HL.out]; exact hlt
      obtain ⟨bb, off, rfl, hb', _, _, c0, c1⟩ := spn_at (H.out.below HW.out (Nat.le_refl _)) hlt
      obtain ⟨s, hs⟩ : ∃ s, Rc.nth l k = s := ⟨_, rfl⟩
      rw [hs] at c0 c1
      obtain ⟨lo, hi⟩ := s
      have HS := Lib.hid (show (l.take (k + 1)).any p = p (lo, hi) by rw [Rc.any_snoc hkl, HN.out, hs]; rfl)
      have HT := Lib.hid (fun (ht : p (lo, hi) = true) => (show l.any p = true from any_at hkl (by rw [hs]; exact ht)))
      clear hs hkl
      obtain ⟨r, hr⟩ : ∃ r, p (lo, hi) = r := ⟨_, rfl⟩
      have HRR := Lib.hid hr
      clear hr
      go_wp2_with fail
      refine (HG.out lo hi _ HW.out).mono ?_
      rintro e w1 ⟨rfl, hb1⟩
      have HW1 := Lib.hid (HW.out.trans (hb1.mono HW.out.size))
      clear hb1
      rw [HRR.out]
      cases r with
      | true =>
        have HV := Lib.hid (show b = true by rw [← HB.out]; exact HT.out HRR.out)
        go_wp2
        go_ret
        exact ⟨(k : Int), rfl, by rw [HV.out]; exact decide_eq_true (by omega), HW1.out⟩
      | false =>
        have HV := Lib.hid (show (l.take (k + 1)).any p = false by rw [HS.out, HRR.out])
        go_wp2
        go_roundw
        case rel => exact ⟨k + 1, by omega, by go_num, HV, HW1⟩
        case measure => simp [RowKit.intOf]; omega
    · obtain rfl : k = L := by omega
      have HV := Lib.hid (show b = false by
        rw [← HB.out]
        have h0 := HN.out
        rwa [HL.out, List.take_length] at h0)
      go_wp2
      go_ret
      exact ⟨-1, rfl, by rw [HV.out]; rfl, HW.out⟩
theorem containsFunc_is (w : World) (v : Value) (l : List Spn) (h : RowD setK w v l) (g : FuncId) (cb : Array Value) (p : Spn → Bool) (hg : Tells g cb w p) (eg : ∀ args w, (callFunc g args).run Tryz.prog w = .ok (.enter g args) w) (b : Bool) (hb : l.any p = b) :
    Calls Tryz.prog 114 #[v, .func (.func g) #[] cb] w fun e w' => e = .returned (.bool b) ∧ Below w.heap.size w w' := by
  obtain ⟨A, L, c, rfl⟩ := h.sl
  have HI := Lib.hid (indexFunc_is w _ l h g cb p hg eg b hb)
  clear h hg eg hb
  go_enter Tryz.func114, Tryz.ntmps114
  go_wp2_with fail
  refine HI.out.mono ?_
  rintro e w1 ⟨n, rfl, hn, hb1⟩
  have HN := Lib.hid hn
  have HB1 := Lib.hid hb1
  clear hn hb1
  go_wp2
  go_ret
  exact ⟨by rw [← HN.out]; rfl, HB1.out⟩
theorem hasF_tells (x : ByteArray) (w : World) (X : Nat) (hX : w.cell? ⟨X, 0, none⟩ = some (.string x)) (hl : X < w.heap.size) : Tells 115 #[.pointer (some ⟨X, 0, none⟩)] w (fun s => shas s.lo s.hi x.data.toList) := by
  intro lo hi W hW
  have hb0 := below_new W (.cells #[.string lo, .string hi] 72)
  have c0 := (below_new W (.cells #[.string lo, .string hi] 72)).cell (p := ⟨X, 0, none⟩) (Nat.lt_of_lt_of_le hl hW.size)
  rw [hW.cell (p := ⟨X, 0, none⟩) hl, hX] at c0
  obtain ⟨r, hr⟩ : ∃ r, shas lo.data.toList hi.data.toList x.data.toList = r := ⟨_, rfl⟩
  have HR := Lib.hid hr
  show Calls Tryz.prog 115 #[.agg #[.string lo, .string hi], .pointer (some ⟨X, 0, none⟩)] W fun e W' => e = .returned (.bool (shas lo.data.toList hi.data.toList x.data.toList)) ∧ Below W.heap.size W W'
  rw [hr]
  clear hr hX hW
  go_enter Tryz.func115, Tryz.ntmps115
  go_wp2_with fail
  refine (spanHas_is lo hi x r HR.out _).mono ?_
  rintro e w1 ⟨rfl, h1⟩
  have hb1 := hb0.trans (h1.mono hb0.size)
  go_wp2
  go_ret
  exact ⟨rfl, hb1⟩
theorem hasL_is (w : World) (v : Value) (l : List Spn) (x : ByteArray) (h : RowD setK w v l) (b : Bool) (hb : hasL l x.data.toList = b) :
    Calls Tryz.prog 100 #[v, .string x] w fun e w' => e = .returned (.bool b) ∧ Below w.heap.size w w' := by
  obtain ⟨A, L, c, rfl⟩ := h.sl
  have hb0 := below_new w (.cells #[.string x] 9)
  have HC := Lib.hid (containsFunc_is (w.alloc (.cells #[.string x] 9)) _ l (h.below hb0 (Nat.le_refl _)) 115 #[.pointer (some ⟨w.heap.size, 0, none⟩)] _
    (hasF_tells x _ w.heap.size (cells_get (heap_alloc_new w _) 0 rfl) (by simp)) (Go.Proofs.enters_of Tryz.func115 (by kernel_rfl) rfl) b hb)
  clear h hb
  go_enter Tryz.func100, Tryz.ntmps100
  go_wp2_with fail
  refine HC.out.mono ?_
  rintro e w1 ⟨rfl, h1⟩
  have hb1 := hb0.trans (h1.mono hb0.size)
  go_wp2
  go_ret
  exact ⟨rfl, hb1⟩
end Go.Proofs.YtaahdhpljlkfjaaGreat.Ver
