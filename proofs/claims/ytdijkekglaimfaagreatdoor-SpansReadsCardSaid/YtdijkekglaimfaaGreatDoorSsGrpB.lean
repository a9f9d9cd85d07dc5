/- The document's spans are spans with points: their bounds, and one ahead of all and one behind all. -/
import Derived.Test.YtdijkekglaimfaaGreatDoorSpanMath5
import Derived.Test.YtdijkekglaimfaaGreatDoorSsGrpA
import Derived.Test.YtdijkekglaimfaaGreatDoorRcOwn
import Derived.Test.YtdijkekglaimfaaGreatDoorSpan2
import Derived.Test.YtdijkekglaimfaaGreatDoorSpan9
import Derived.Shelf.SlSortCmp.Insertion
import Derived.Sort.Statements
namespace Go.Proofs.YtdijkekglaimfaaGreatDoor.Ver
open Ss

abbrev Spn := ByteArray × ByteArray
abbrev Spn.lo (s : Spn) : Bs := s.1.data.toList
abbrev Spn.hi (s : Spn) : Bs := s.2.data.toList
inductive Pnt where
  | bot
  | at (v : Bs)
  | top
def Spn.ok (s : Spn) : Prop := smay s.lo s.hi = true
def Spn.mem (s : Spn) : Pnt → Prop
  | .bot => s.lo.isEmpty = true
  | .at v => may v = true ∧ lowR s.lo v = true ∧ highR s.hi v = true
  | .top => s.hi.isEmpty = true
def Spn.meets (a b : Spn) : Bool := (smeet a.1 a.2 b.1 b.2).2.2
def Spn.join (a b : Spn) : Spn := sjoin a.1 a.2 b.1 b.2
def Spn.low (a b : Spn) : Bool := lowR a.lo b.lo

theorem lowR_nil {a : Bs} (h : a.isEmpty = true) (b : Bs) : lowR a b = true := by unfold lowR; rw [h]; rfl
theorem highR_nil {a : Bs} (h : a.isEmpty = true) (b : Bs) : highR a b = true := by unfold highR; rw [h]; rfl
theorem lowR_to_nil {a b : Bs} (h : lowR a b = true) (hb : b.isEmpty = true) : a.isEmpty = true := by
  unfold lowR at h; rw [hb] at h; simpa using h
theorem highR_to_nil {a b : Bs} (h : highR a b = true) (hb : b.isEmpty = true) : a.isEmpty = true := by
  unfold highR at h; rw [hb] at h; simpa using h
theorem may_isEmpty {v : Bs} (h : may v = true) : v.isEmpty = false := by
  cases v with
  | nil => rw [may_nil] at h; cases h
  | cons => rfl
theorem lowR_cmp {a b : Bs} (ha : a.isEmpty = false) (hb : b.isEmpty = false) : lowR a b = decide (compare a b ≤ 0) := by unfold lowR; rw [ha, hb]; simp
theorem highR_cmp {a b : Bs} (ha : a.isEmpty = false) (hb : b.isEmpty = false) : highR a b = decide (0 ≤ compare a b) := by unfold highR; rw [ha, hb]; simp
theorem high_low {a b : Bs} (ha : a.isEmpty = false) (hb : b.isEmpty = false) (h : lowR a b = true) : highR b a = true := by
  rw [lowR_cmp ha hb] at h; rw [highR_cmp hb ha]
  have := compare_anti a b
  simp at h ⊢; omega

theorem Spn.ok.ok_lo {s : Spn} (h : s.ok) (he : s.lo.isEmpty = false) : may s.lo = true := by
  have := (smay_bounds h).1; rw [he] at this; simpa using this
theorem Spn.ok.ok_hi {s : Spn} (h : s.ok) (he : s.hi.isEmpty = false) : may s.hi = true := by
  have := (smay_bounds h).2; rw [he] at this; simpa using this
theorem Spn.ok.ok_le {s : Spn} (h : s.ok) (h1 : s.lo.isEmpty = false) (h2 : s.hi.isEmpty = false) : compare s.lo s.hi ≤ 0 := by
  unfold Spn.ok smay at h
  rw [h1, h2] at h
  simp at h
  exact h.2
theorem Spn.ok.lo_in {s : Spn} (h : s.ok) (he : s.lo.isEmpty = false) : s.mem (.at s.lo) := by
  refine ⟨h.ok_lo he, lowR_self _, ?_⟩
  cases h2 : s.hi.isEmpty with
  | true => exact highR_nil h2 _
  | false => exact high_low he h2 (by rw [lowR_cmp he h2]; exact decide_eq_true (h.ok_le he h2))
theorem Spn.ok.hi_in {s : Spn} (h : s.ok) (he : s.hi.isEmpty = false) : s.mem (.at s.hi) := by
  refine ⟨h.ok_hi he, ?_, highR_self _⟩
  cases h2 : s.lo.isEmpty with
  | true => exact lowR_nil h2 _
  | false => rw [lowR_cmp h2 he]; exact decide_eq_true (h.ok_le h2 he)
theorem Spn.meets_eq {a b : Spn} (ha : a.ok) (hb : b.ok) : a.meets b = smay (mlo a.1 b.1).data.toList (mhi a.2 b.2).data.toList := by
  unfold Spn.meets smeet
  unfold Spn.ok at ha hb
  rw [ha, hb]
  cases smay (mlo a.1 b.1).data.toList (mhi a.2 b.2).data.toList <;> rfl
theorem Spn.join_eq {a b : Spn} (ha : a.ok) (hb : b.ok) : a.join b = (jlo a.1 b.1, jhi a.2 b.2) := by
  unfold Spn.join sjoin
  unfold Spn.ok at ha hb
  rw [ha, hb]; rfl
theorem mlo_bound {a b : Spn} (ha : a.ok) (hb : b.ok) : ((mlo a.1 b.1).data.toList.isEmpty || may (mlo a.1 b.1).data.toList) = true := by
  unfold mlo; split
  · exact (smay_bounds hb).1
  · exact (smay_bounds ha).1
theorem mhi_bound {a b : Spn} (ha : a.ok) (hb : b.ok) : ((mhi a.2 b.2).data.toList.isEmpty || may (mhi a.2 b.2).data.toList) = true := by
  unfold mhi; split
  · exact (smay_bounds hb).2
  · exact (smay_bounds ha).2
theorem mlo_nil {a b : ByteArray} : (mlo a b).data.toList.isEmpty = true ↔ a.data.toList.isEmpty = true ∧ b.data.toList.isEmpty = true := by
  unfold mlo
  cases h : lowR a.data.toList b.data.toList with
  | true => rw [if_pos rfl]; exact ⟨fun hb => ⟨lowR_to_nil h hb, hb⟩, fun hh => hh.2⟩
  | false => rw [if_neg (by simp)]; exact ⟨fun ha => (by rw [lowR_nil ha] at h; cases h), fun hh => hh.1⟩
theorem mhi_nil {a b : ByteArray} : (mhi a b).data.toList.isEmpty = true ↔ a.data.toList.isEmpty = true ∧ b.data.toList.isEmpty = true := by
  unfold mhi
  cases h : highR a.data.toList b.data.toList with
  | true => rw [if_pos rfl]; exact ⟨fun hb => ⟨highR_to_nil h hb, hb⟩, fun hh => hh.2⟩
  | false => rw [if_neg (by simp)]; exact ⟨fun ha => (by rw [highR_nil ha] at h; cases h), fun hh => hh.1⟩
theorem Spn.meets_iff {a b : Spn} (ha : a.ok) (hb : b.ok) : a.meets b = true ↔ ∃ p, a.mem p ∧ b.mem p := by
  rw [Spn.meets_eq ha hb]
  have b1 := mlo_bound ha hb
  have b2 := mhi_bound ha hb
  constructor
  · intro h
    cases e1 : (mlo a.1 b.1).data.toList.isEmpty with
    | true => have := mlo_nil.1 e1; exact ⟨.bot, this.1, this.2⟩
    | false =>
      cases e2 : (mhi a.2 b.2).data.toList.isEmpty with
      | true => have := mhi_nil.1 e2; exact ⟨.top, this.1, this.2⟩
      | false =>
        have h3 : Spn.ok (mlo a.1 b.1, mhi a.2 b.2) := h
        obtain ⟨m1, m2, m3⟩ := h3.lo_in e1
        have l := mlo_low a.1 b.1 (mlo a.1 b.1).data.toList
        have hh := mhi_high a.2 b.2 (mlo a.1 b.1).data.toList
        rw [show lowR (mlo a.1 b.1).data.toList (mlo a.1 b.1).data.toList = true from m2] at l
        rw [show highR (mhi a.2 b.2).data.toList (mlo a.1 b.1).data.toList = true from m3] at hh
        have l := (Bool.and_eq_true _ _).mp l.symm
        have hh := (Bool.and_eq_true _ _).mp hh.symm
        exact ⟨.at (mlo a.1 b.1).data.toList, ⟨m1, l.1, hh.1⟩, ⟨m1, l.2, hh.2⟩⟩
  · rintro ⟨p, h1, h2⟩
    cases p with
    | bot =>
      unfold smay
      rw [mlo_nil.2 ⟨h1, h2⟩, b2]; rfl
    | top =>
      unfold smay
      rw [mhi_nil.2 ⟨h1, h2⟩, b1]; simp
    | «at» v =>
      exact reach_may b1 b2 (by rw [mlo_low]; exact (Bool.and_eq_true _ _).mpr ⟨h1.2.1, h2.2.1⟩) (by rw [mhi_high]; exact (Bool.and_eq_true _ _).mpr ⟨h1.2.2, h2.2.2⟩)
theorem jlo_nil {a b : ByteArray} : (jlo a b).data.toList.isEmpty = true ↔ a.data.toList.isEmpty = true ∨ b.data.toList.isEmpty = true := by
  unfold jlo
  cases h : lowR b.data.toList a.data.toList with
  | true => rw [if_pos rfl]; exact ⟨.inr, fun hh => hh.elim (lowR_to_nil h) id⟩
  | false => rw [if_neg (by simp)]; exact ⟨.inl, fun hh => hh.elim id fun hb => by rw [lowR_nil hb] at h; cases h⟩
theorem jhi_nil {a b : ByteArray} : (jhi a b).data.toList.isEmpty = true ↔ a.data.toList.isEmpty = true ∨ b.data.toList.isEmpty = true := by
  unfold jhi
  cases h : highR b.data.toList a.data.toList with
  | true => rw [if_pos rfl]; exact ⟨.inr, fun hh => hh.elim (highR_to_nil h) id⟩
  | false => rw [if_neg (by simp)]; exact ⟨.inl, fun hh => hh.elim id fun hb => by rw [highR_nil hb] at h; cases h⟩
theorem jlo_low {a b : ByteArray} {v : Bs} : lowR (jlo a b).data.toList v = true ↔ lowR a.data.toList v = true ∨ lowR b.data.toList v = true := by
  constructor
  · unfold jlo; split
    · exact .inr
    · exact .inl
  · rintro (h | h)
    · exact lowR_trans (jlo_both a b).1 h
    · exact lowR_trans (jlo_both a b).2 h
theorem jhi_high {a b : ByteArray} {v : Bs} : highR (jhi a b).data.toList v = true ↔ highR a.data.toList v = true ∨ highR b.data.toList v = true := by
  constructor
  · unfold jhi; split
    · exact .inr
    · exact .inl
  · rintro (h | h)
    · exact highR_trans (jhi_both a b).1 h
    · exact highR_trans (jhi_both a b).2 h
/-- A version behind one span and ahead of another one, and the two meet: there is none. -/
theorem no_gap {l h : Bs} {v : Bs} (hv : v.isEmpty = false) (h1 : lowR l v = false) (h2 : highR h v = false) {u : Bs} (hu : u.isEmpty = false) (h3 : lowR l u = true) (h4 : highR h u = true) : False := by
  have a1 : lowR u v = false := by
    cases e : lowR u v with
    | false => rfl
    | true => rw [lowR_trans h3 e] at h1; cases h1
  have a2 : highR u v = false := by
    cases e : highR u v with
    | false => rfl
    | true => rw [highR_trans h4 e] at h2; cases h2
  rw [lowR_cmp hu hv] at a1
  rw [highR_cmp hu hv] at a2
  simp at a1 a2
  omega
theorem Spn.mem_join {a b : Spn} (ha : a.ok) (hb : b.ok) (hm : a.meets b = true) (p : Pnt) : (a.join b).mem p ↔ a.mem p ∨ b.mem p := by
  rw [Spn.join_eq ha hb]
  cases p with
  | bot => exact jlo_nil
  | top => exact jhi_nil
  | «at» v =>
    constructor
    · rintro ⟨h0, h1, h2⟩
      obtain ⟨q, q1, q2⟩ := (Spn.meets_iff ha hb).1 hm
      have hv := may_isEmpty h0
      have key : ∀ {l h : Bs}, (l.isEmpty = true ∨ h.isEmpty = true ∨ ∃ u, may u = true ∧ lowR l u = true ∧ highR h u = true) → lowR l v = true ∨ highR h v = true := by
        intro l h hh
        cases e1 : lowR l v with
        | true => exact .inl rfl
        | false =>
          cases e2 : highR h v with
          | true => exact .inr rfl
          | false =>
            exfalso
            rcases hh with hh | hh | ⟨u, u0, u1, u2⟩
            · rw [lowR_nil hh] at e1; cases e1
            · rw [highR_nil hh] at e2; cases e2
            · exact no_gap hv e1 e2 (may_isEmpty u0) u1 u2
      have k1 : lowR b.lo v = true ∨ highR a.hi v = true := key (by
        cases q with
        | bot => exact .inl q2
        | top => exact .inr (.inl q1)
        | «at» u => exact .inr (.inr ⟨u, q1.1, q2.2.1, q1.2.2⟩))
      have k2 : lowR a.lo v = true ∨ highR b.hi v = true := key (by
        cases q with
        | bot => exact .inl q1
        | top => exact .inr (.inl q2)
        | «at» u => exact .inr (.inr ⟨u, q1.1, q1.2.1, q2.2.2⟩))
      have h1 : lowR a.lo v = true ∨ lowR b.lo v = true := jlo_low.1 h1
      have h2 : highR a.hi v = true ∨ highR b.hi v = true := jhi_high.1 h2
      rcases h1 with h1 | h1
      · rcases h2 with h2 | h2
        · exact .inl ⟨h0, h1, h2⟩
        · rcases k1 with k1 | k1
          · exact .inr ⟨h0, k1, h2⟩
          · exact .inl ⟨h0, h1, k1⟩
      · rcases h2 with h2 | h2
        · rcases k2 with k2 | k2
          · exact .inl ⟨h0, k2, h2⟩
          · exact .inr ⟨h0, h1, k2⟩
        · exact .inr ⟨h0, h1, h2⟩
    · rintro (⟨h0, h1, h2⟩ | ⟨h0, h1, h2⟩)
      · exact ⟨h0, jlo_low.2 (.inl h1), jhi_high.2 (.inl h2)⟩
      · exact ⟨h0, jlo_low.2 (.inr h1), jhi_high.2 (.inr h2)⟩
theorem alike {a b : Bs} (ha : may a = true) (h1 : lowR a b = true) (h2 : lowR b a = true) (hb : b.isEmpty = false) : a = b := by
  rw [lowR_cmp (may_isEmpty ha) hb] at h1
  rw [lowR_cmp hb (may_isEmpty ha)] at h2
  have := compare_anti a b
  simp at h1 h2
  rcases compare_eq (a := a) (b := b) (by omega) with e | e
  · exact e
  · rw [ha] at e; cases e.1
theorem Spn.ext' {a b : Spn} (ha : a.ok) (hb : b.ok) (h : ∀ p, a.mem p ↔ b.mem p) : a = b := by
  have e1 : a.lo = b.lo := by
    cases ea : a.lo.isEmpty with
    | true =>
      have eb : b.lo.isEmpty = true := (h .bot).1 ea
      rw [List.isEmpty_iff.1 ea, List.isEmpty_iff.1 eb]
    | false =>
      cases eb : b.lo.isEmpty with
      | true => rw [(h .bot).2 eb] at ea; cases ea
      | false =>
        have m1 := (h _).1 (ha.lo_in ea)
        have m2 := (h _).2 (hb.lo_in eb)
        exact alike (ha.ok_lo ea) m2.2.1 m1.2.1 eb
  have e2 : a.hi = b.hi := by
    cases ea : a.hi.isEmpty with
    | true =>
      have eb : b.hi.isEmpty = true := (h .top).1 ea
      rw [List.isEmpty_iff.1 ea, List.isEmpty_iff.1 eb]
    | false =>
      cases eb : b.hi.isEmpty with
      | true => rw [(h .top).2 eb] at ea; cases ea
      | false =>
        have m1 := ((h _).1 (ha.hi_in ea)).2.2
        have m2 := ((h _).2 (hb.hi_in eb)).2.2
        rw [highR_cmp eb ea] at m1
        rw [highR_cmp ea eb] at m2
        have := compare_anti a.hi b.hi
        simp at m1 m2
        rcases compare_eq (a := a.hi) (b := b.hi) (by omega) with e | e
        · exact e
        · rw [ha.ok_hi ea] at e; cases e.1
  exact Prod.ext (ba_ext e1) (ba_ext e2)
theorem Spn.meets_at {a b : Spn} (ha : a.ok) (hb : b.ok) (h1 : lowR a.lo b.lo = true) (h2 : b.lo.isEmpty = false → highR a.hi b.lo = true) : a.meets b = true := by
  rw [Spn.meets_iff ha hb]
  cases e : b.lo.isEmpty with
  | true => exact ⟨.bot, lowR_to_nil h1 e, e⟩
  | false => exact ⟨.at b.lo, ⟨hb.ok_lo e, h1, h2 e⟩, hb.lo_in e⟩
def spanSp : Sp Spn Pnt where
  ok := Spn.ok
  mem := Spn.mem
  meets := Spn.meets
  join := Spn.join
  low := Spn.low
  meets_iff := Spn.meets_iff
  ok_join := fun {a b} ha hb _ => by rw [Spn.join_eq ha hb]; exact join_may ha hb
  mem_join := Spn.mem_join
  ext := Spn.ext'
  some_mem := fun {a} ha => by
    cases e : a.lo.isEmpty with
    | true => exact ⟨.bot, e⟩
    | false => exact ⟨_, ha.lo_in e⟩
  low_refl := fun a => lowR_self _
  low_total := fun _ _ h => lowR_total h
  low_trans := fun _ _ _ h1 h2 => lowR_trans h1 h2
  low_same := fun {a b} ha hb h1 h2 => Spn.meets_at ha hb h1 fun e => by
    cases ea : a.lo.isEmpty with
    | true => rw [lowR_to_nil h2 ea] at e; cases e
    | false => rw [← alike (ha.ok_lo ea) h1 h2 e]; exact (ha.lo_in ea).2.2
  low_join := fun {a b} ha hb _ h => by
    rw [Spn.join_eq ha hb]
    refine ⟨?_, (jlo_both a.1 b.1).1⟩
    show lowR a.lo (jlo a.1 b.1).data.toList = true
    unfold jlo; split
    · exact h
    · exact lowR_self _
  far := fun {a b c} ha hb hc h1 h2 hn => by
    cases hm : a.meets c with
    | false => rfl
    | true =>
      rw [← hn]
      symm
      refine Spn.meets_at ha hb h1 fun e => ?_
      obtain ⟨p, p1, p2⟩ := (Spn.meets_iff ha hc).1 hm
      cases p with
      | bot => rw [lowR_to_nil h2 p2] at e; cases e
      | top => exact highR_nil p1 _
      | «at» u => exact highR_trans p1.2.2 (high_low e (may_isEmpty p1.1) (lowR_trans h2 p2.2.1))
end Go.Proofs.YtdijkekglaimfaaGreatDoor.Ver

/- The document's words on rows of spans: what is too much, what is in them, whether they are the same. -/
namespace Go.Proofs.YtdijkekglaimfaaGreatDoor.Ver
open Go.RowKit Rc

theorem spn_at {w : World} {A : Option Addr} {L c : Nat} {l : List Spn} (h : RowD setK w (.slice A L c) l) {j : Nat} (hj : j < L) :
    ∃ b off, A = some ⟨b, off, none⟩ ∧ b < w.heap.size ∧ (Rc.nth l j).1.size ≤ maxLen ∧ (Rc.nth l j).2.size ≤ maxLen ∧ w.cell? ⟨b, off + j * 2, none⟩ = some (.string (Rc.nth l j).1) ∧ w.cell? ⟨b, off + j * 2 + 1, none⟩ = some (.string (Rc.nth l j).2) := by
  obtain ⟨b, off, cs, ha, hb, ⟨rfl, h1, h2⟩, hc⟩ := h.at hj
  exact ⟨b, off, ha, hb, h1, h2, hc 0 (by decide), hc 1 (by decide)⟩
def hasL (l : List Spn) (v : Bs) : Bool := l.any fun s => shas s.lo s.hi v
theorem retB {a b : Bool} (h : a = b) : Ending.returned (.bool a) = .returned (.bool b) := by rw [h]
def Small (l : List Spn) : Prop := l.length ≤ 30 ∧ ∀ s ∈ l, s.1.size ≤ 100 ∧ s.2.size ≤ 100

def GreatL (l : List Spn) (w : World) (e : Ending) (w' : World) : Prop := ∃ b, e = .returned (.bool b) ∧ (b = false → Small l) ∧ w = w'
end Go.Proofs.YtdijkekglaimfaaGreatDoor.Ver

/- The document's words on two spans: which one stands behind; the least span of two. -/
namespace Go.Proofs.YtdijkekglaimfaaGreatDoor.Ver
open Go.RowKit Rc

theorem low_less (a b : Bs) (ha : a.isEmpty = false) (hb : b.isEmpty = false) : lowR a b = !less b a := by
  rw [lowR_cmp ha hb]
  unfold less
  exact (cmp_not_less a b).symm
theorem behind_is (alo ahi blo bhi : ByteArray) (r : Bool) (h : lowR alo.data.toList blo.data.toList = !r) (w : World) :
    Calls Tryz.prog 32 #[.agg #[.string alo, .string ahi], .agg #[.string blo, .string bhi]] w fun e w' => e = .returned (.bool r) ∧ Below w.heap.size w w' := by
  obtain ⟨hb0, p0_0, p1_0⟩ := two_new w alo ahi blo bhi 31
  rcases empty_or alo with ⟨e1, e2, e3⟩ | ⟨e1, e2, e3⟩
  · have Hv := Lib.hid (show r = false by
      rw [lowR_nil (by rw [e3]; rfl)] at h
      cases r with
      | false => rfl
      | true => exact absurd h (by decide))
    clear e3 h
    go_enter Tryz.func32, Tryz.ntmps32
    go_wp2
    go_ret
    exact ⟨by rw [Hv.out]; rfl, hb0⟩
  rcases empty_or blo with ⟨f1, f2, f3⟩ | ⟨f1, f2, f3⟩
  · have Hv := Lib.hid (show r = true by
      cases r with
      | true => rfl
      | false => have := lowR_to_nil (a := alo.data.toList) (b := blo.data.toList) h (by rw [f3]; rfl); rw [e3] at this; cases this)
    clear e3 f3 h
    go_enter Tryz.func32, Tryz.ntmps32
    go_wp2
    go_ret
    exact ⟨by rw [Hv.out]; rfl, hb0⟩
  have Hv := Lib.hid (show less blo.data.toList alo.data.toList = r by
    rw [low_less _ _ e3 f3] at h
    generalize less blo.data.toList alo.data.toList = y at h ⊢
    revert h
    revert y r
    decide)
  clear e3 f3 h
  have c0 := p0_0.1
  have c1 := p1_0.1
  go_enter Tryz.func32, Tryz.ntmps32
  go_wp2_with fail
  refine (less_is blo alo _ Hv.out _).mono ?_
  rintro e w1 ⟨rfl, h1⟩
  have hb1 := hb0.trans (h1.mono hb0.size)
  go_wp2
  go_ret
  exact ⟨rfl, hb1⟩
end Go.Proofs.YtdijkekglaimfaaGreatDoor.Ver

/- How two spans' bounds below stand to each other. -/
namespace Go.Proofs.YtdijkekglaimfaaGreatDoor.Ver
open Go.RowKit Rc

def byLowI (a b : ByteArray) : Int := if a = b then 0 else if lowR a.data.toList b.data.toList = true then -1 else 1
theorem swithin_lo {a b : Bs} (ha : (a.isEmpty || may a) = true) (hb : (b.isEmpty || may b) = true) : swithin b [] a [] = lowR a b := by
  unfold swithin smay
  rw [ha, hb]
  simp [highR]
theorem byLow_is (alo ahi blo bhi : ByteArray) (ha : (alo.data.toList.isEmpty || may alo.data.toList) = true) (hb : (blo.data.toList.isEmpty || may blo.data.toList) = true) (n : Int) (h : byLowI alo blo = n) (w : World) :
    Calls Tryz.prog 44 #[.agg #[.string alo, .string ahi], .agg #[.string blo, .string bhi]] w fun e w' => e = .returned (.int .i64 n) ∧ Below w.heap.size w w' := by
  obtain ⟨hb0, p0_0, p1_0⟩ := two_new w alo ahi blo bhi 31
  by_cases he : alo = blo
  · subst he
    have Hv := Lib.hid (show n = 0 by rw [← h]; unfold byLowI; rw [if_pos rfl])
    clear h
    have f1 : (alo.toList == alo.toList) = true := by simp
    go_enter Tryz.func44, Tryz.ntmps44
    go_wp2
    go_ret
    exact ⟨by rw [Hv.out]; rfl, hb0⟩
  have f1 : (alo.toList == blo.toList) = false := by
    rw [beq_eq_false_iff_ne]; intro e; exact he (toList_eq.1 e)
  have f2 : ¬ alo.toList = blo.toList := fun e => he (toList_eq.1 e)
  obtain ⟨r, hr⟩ : ∃ r, lowR alo.data.toList blo.data.toList = r := ⟨_, rfl⟩
  have Hv := Lib.hid (show n = if r = true then -1 else 1 by rw [← h]; unfold byLowI; rw [if_neg he, hr])
  have HW := Lib.hid (show swithin blo.data.toList (⟨#[]⟩ : ByteArray).data.toList alo.data.toList (⟨#[]⟩ : ByteArray).data.toList = r by rw [← hr]; exact swithin_lo ha hb)
  clear h hr
  have c0 := p0_0.1
  have c1 := p1_0.1
  go_enter Tryz.func44, Tryz.ntmps44
  go_wp2_with fail
  refine (within_is blo ⟨#[]⟩ alo ⟨#[]⟩ r HW.out _).mono ?_
  rintro e w1 ⟨rfl, h1⟩
  have hb1 := hb0.trans (h1.mono hb0.size)
  cases r with
  | true =>
    have Hv := Lib.hid (show n = -1 by rw [Hv.out]; rfl)
    go_wp2
    go_ret
    exact ⟨by rw [Hv.out]; rfl, hb1⟩
  | false =>
    have Hv := Lib.hid (show n = 1 by rw [Hv.out]; rfl)
    go_wp2
    go_ret
    exact ⟨by rw [Hv.out]; rfl, hb1⟩
theorem low_antisymm {a b : Bs} (ha : (a.isEmpty || may a) = true) (h1 : lowR a b = true) (h2 : lowR b a = true) : a = b := by
  cases ea : a.isEmpty with
  | true =>
    have eb := lowR_to_nil h2 ea
    rw [List.isEmpty_iff.1 ea, List.isEmpty_iff.1 eb]
  | false =>
    cases eb : b.isEmpty with
    | true => rw [lowR_to_nil h1 eb] at ea; cases ea
    | false => rw [ea] at ha; exact alike (by simpa using ha) h1 h2 eb
/-- Spans whose bound below may be. -/
abbrev LoT := { s : Spn // (s.lo.isEmpty || may s.lo) = true }
instance : Inhabited LoT := ⟨⟨(⟨#[]⟩, ⟨#[]⟩), rfl⟩⟩
def byLowC (x y : LoT) : Int := byLowI x.1.1 y.1.1
theorem lt_iff {x y : LoT} : ltOf byLowC x y = true ↔ x.1.1 ≠ y.1.1 ∧ lowR x.1.lo y.1.lo = true := by
  unfold ltOf byLowC byLowI
  rw [decide_eq_true_iff]
  by_cases e : x.1.1 = y.1.1
  · rw [if_pos e]; exact ⟨fun h => absurd h (by decide), fun h => absurd e h.1⟩
  · rw [if_neg e]
    by_cases h : lowR x.1.1.data.toList y.1.1.data.toList = true
    · rw [if_pos h]; exact ⟨fun _ => ⟨e, h⟩, fun _ => by decide⟩
    · rw [if_neg h]; exact ⟨fun hh => absurd hh (by decide), fun hh => absurd hh.2 h⟩
theorem not_lt {x y : LoT} (h : ltOf byLowC x y = false) : lowR y.1.lo x.1.lo = true := by
  cases h1 : lowR y.1.lo x.1.lo with
  | true => rfl
  | false =>
    have h2 := lowR_total h1
    have h3 : ltOf byLowC x y = true := lt_iff.2 ⟨fun e => (by
      have e2 : x.1.lo = y.1.lo := by show x.1.1.data.toList = y.1.1.data.toList; rw [e]
      rw [e2, lowR_self] at h1
      cases h1), h2⟩
    rw [h] at h3; cases h3
theorem byLow_swo : Sort.SWO (ltOf byLowC) where
  irrefl x := by
    cases h : ltOf byLowC x x with
    | false => rfl
    | true => exact absurd rfl (lt_iff.1 h).1
  trans x y z h1 h2 := by
    obtain ⟨n1, l1⟩ := lt_iff.1 h1
    obtain ⟨n2, l2⟩ := lt_iff.1 h2
    refine lt_iff.2 ⟨fun e => n1 ?_, lowR_trans l1 l2⟩
    have e2 : z.1.lo = x.1.lo := by show z.1.1.data.toList = x.1.1.data.toList; rw [e]
    have l3 : lowR y.1.lo x.1.lo = true := by rw [← e2]; exact l2
    exact ba_ext (low_antisymm x.2 l1 l3)
  ntrans x y z h1 h2 := by
    have l := lowR_trans (not_lt h2) (not_lt h1)
    cases h : ltOf byLowC x z with
    | false => rfl
    | true =>
      obtain ⟨n, l2⟩ := lt_iff.1 h
      exact absurd (ba_ext (low_antisymm x.2 l2 l)) n
end Go.Proofs.YtdijkekglaimfaaGreatDoor.Ver
