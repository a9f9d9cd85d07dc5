/- Plain mathematics of versions: parts, ranks, and how versions stand to each other. No Go in sight. -/
import Derived.Lib.Bytealg
import Derived.Lib.Small
import Derived.Lib.IndexMore
import Derived.Lib.Strings
import GoSem.Op.String
namespace Go.Proofs.YtaahdhpljlkfjaaGreat.Ver

abbrev Bs := List UInt8
def letB (c : UInt8) : Bool := decide (97 ≤ (c.toNat : Int)) && decide ((c.toNat : Int) ≤ 122)
def digB (c : UInt8) : Bool := decide (48 ≤ (c.toNat : Int)) && decide ((c.toNat : Int) ≤ 57)
def word (l : Bs) : Bool := l.all letB && !l.isEmpty
def digits (l : Bs) : Bool := l.all digB && !l.isEmpty
def number (l : Bs) : Bool := digits l && decide (l.length ≤ 9) && (l == [48] || !(l.head? == some 48))
def part (l : Bs) : Bool := word l || number l

/-- A text at each place of a byte. -/
def cut (by_ : UInt8) : Bs → List Bs
  | [] => [[]]
  | c :: r => if c == by_ then [] :: cut by_ r else match cut by_ r with
    | [] => [[c]]
    | p :: ps => (c :: p) :: ps

theorem cut_ne (b : UInt8) (l : Bs) : cut b l ≠ [] := by
  cases l with
  | nil => simp [cut]
  | cons c r => rw [cut]; split; · simp
                split <;> simp

/-- What stands ahead of the first such byte, and what behind it. -/
theorem cut_of_cut (b : UInt8) (l : Bs) : cut b l = if (Lib.cut l [b]).2.2 then (Lib.cut l [b]).1 :: cut b (Lib.cut l [b]).2.1 else [l] := by
  induction l with
  | nil => simp [cut, Lib.cut, Lib.index]
  | cons c r ih =>
    rw [cut]
    by_cases h : c == b
    · rw [if_pos h]
      have h' : c = b := by simpa using h
      subst h'
      have hi : Lib.index (c :: r) [c] = 0 := by simp [Lib.index, List.isPrefixOf]
      simp [Lib.cut, hi]
    · rw [if_neg h]
      have h2 : ¬ b = c := fun e => h (by simp [e])
      have hp : ([b] : Bs).isPrefixOf (c :: r) = false := by simp [List.isPrefixOf, h2]
      by_cases h0 : 0 ≤ Lib.index r [b]
      · have hi : Lib.index (c :: r) [b] = Lib.index r [b] + 1 := by
          rw [Lib.index, hp]; simp; omega
        have hn : (Lib.index r [b] + 1).toNat = (Lib.index r [b]).toNat + 1 := by omega
        rw [ih]
        simp only [Lib.cut, hi, if_pos h0, if_pos (show 0 ≤ Lib.index r [b] + 1 by omega), hn]
        simp
      · have hi : Lib.index (c :: r) [b] = -1 := by
          have := Lib.index_ge r [b]
          rw [Lib.index, hp]
          have e : Lib.index r [b] = -1 := by omega
          simp [e]
        rw [ih]
        simp only [Lib.cut, hi, if_neg h0]
        simp

def may (l : Bs) : Bool := decide (l.length ≤ 40) && decide ((cut 46 l).length ≤ 8) && (cut 46 l).all part

def rank (p : Bs) : Int := if p.isEmpty then 1 else if word p then 0 else 2
def cmpPart (a b : Bs) : Int :=
  if rank a ≠ rank b then Lib.compareInt (rank a) (rank b)
  else if rank a = 2 ∧ a.length ≠ b.length then Lib.compareInt a.length b.length
  else Lib.compareBytes a b
/-- Part by part from the front; behind the last one an end. -/
def hd : List Bs → Bs
  | [] => []
  | q :: _ => q
def cmpParts : List Bs → List Bs → Int
  | [], [] => 0
  | [], b :: _ => cmpPart [] b
  | a :: as, bs => if cmpPart a (hd bs) = 0 then cmpParts as bs.tail else cmpPart a (hd bs)
theorem cps_zero {p : Bs} {s b : List Bs} (h : cmpPart p (hd b) = 0) : cmpParts (p :: s) b = cmpParts s b.tail := by rw [cmpParts, if_pos h]
theorem cps_part {p : Bs} {s b : List Bs} (h : cmpPart p (hd b) ≠ 0) : cmpParts (p :: s) b = cmpPart p (hd b) := by rw [cmpParts, if_neg h]
theorem cps_end (q : Bs) (r : List Bs) : cmpParts [] (q :: r) = cmpPart [] q := rfl
def mayI (l : Bs) : Int := if may l then 1 else 0
def compare (a b : Bs) : Int := if may a && may b then cmpParts (cut 46 a) (cut 46 b) else mayI a - mayI b

/-! ### Bytes stand in a row. -/
theorem cb_self : ∀ a : Bs, Lib.compareBytes a a = 0
  | [] => rfl
  | a :: as => by simp [Lib.compareBytes, cb_self as]
theorem cb_eq : ∀ a b : Bs, Lib.compareBytes a b = 0 → a = b
  | [], [], _ => rfl
  | [], _ :: _, h => by simp [Lib.compareBytes] at h
  | _ :: _, [], h => by simp [Lib.compareBytes] at h
  | a :: as, b :: bs, h => by
    simp only [Lib.compareBytes] at h
    split at h; · simp at h
    split at h; · simp at h
    rename_i h1 h2
    have : a = b := by
      apply UInt8.toNat_inj.1
      rw [UInt8.lt_iff_toNat_lt] at h1 h2; omega
    rw [this, cb_eq as bs h]
theorem cb_anti : ∀ a b : Bs, Lib.compareBytes b a = - Lib.compareBytes a b
  | [], [] => rfl
  | [], _ :: _ => rfl
  | _ :: _, [] => rfl
  | a :: as, b :: bs => by
    simp only [Lib.compareBytes, UInt8.lt_iff_toNat_lt]
    split
    · rw [if_neg (by omega)]
    · split
      · rfl
      · exact cb_anti as bs
theorem cb_range : ∀ a b : Bs, Lib.compareBytes a b = -1 ∨ Lib.compareBytes a b = 0 ∨ Lib.compareBytes a b = 1
  | [], [] => .inr (.inl rfl)
  | [], _ :: _ => .inl rfl
  | _ :: _, [] => .inr (.inr rfl)
  | a :: as, b :: bs => by
    simp only [Lib.compareBytes]
    split; · exact .inl rfl
    split; · exact .inr (.inr rfl)
    exact cb_range as bs
theorem cb_trans : ∀ a b c : Bs, Lib.compareBytes a b ≤ 0 → Lib.compareBytes b c ≤ 0 → Lib.compareBytes a c ≤ 0
  | [], _, [] => fun _ _ => by simp [Lib.compareBytes]
  | [], _, _ :: _ => fun _ _ => by simp [Lib.compareBytes]
  | _ :: _, [], _ => fun h _ => by simp [Lib.compareBytes] at h
  | _ :: _, _ :: _, [] => fun _ h => by simp [Lib.compareBytes] at h
  | a :: as, b :: bs, c :: cs => fun h1 h2 => by
    have ih := cb_trans as bs cs
    simp only [Lib.compareBytes, UInt8.lt_iff_toNat_lt] at *
    split at h1
    · split at h2
      · rw [if_pos (by omega)]; omega
      · split at h2
        · omega
        · rw [if_pos (by omega)]; omega
    · split at h1; · omega
      split at h2
      · rw [if_pos (by omega)]; omega
      · split at h2; · omega
        rw [if_neg (by omega), if_neg (by omega)]; exact ih h1 h2

/-! ### Ints. -/
theorem ci_eq {x y : Int} : Lib.compareInt x y = 0 ↔ x = y := by unfold Lib.compareInt; (repeat' split) <;> omega
theorem ci_anti (x y : Int) : Lib.compareInt y x = - Lib.compareInt x y := by unfold Lib.compareInt; (repeat' split) <;> omega
theorem ci_le {x y : Int} : Lib.compareInt x y ≤ 0 ↔ x ≤ y := by unfold Lib.compareInt; (repeat' split) <;> omega
theorem ci_range (x y : Int) : Lib.compareInt x y = -1 ∨ Lib.compareInt x y = 0 ∨ Lib.compareInt x y = 1 := by unfold Lib.compareInt; (repeat' split) <;> omega
theorem ci_lt {x y : Int} : Lib.compareInt x y = -1 ↔ x < y := by unfold Lib.compareInt; (repeat' split) <;> omega

/-! ### Parts stand in a row. -/
theorem cp_eq {a b : Bs} : cmpPart a b = 0 ↔ a = b := by
  constructor
  · intro h
    unfold cmpPart at h
    split at h
    · rename_i h1; exact absurd (ci_eq.1 h) h1
    · split at h
      · rename_i h1; have := ci_eq.1 h; omega
      · exact cb_eq _ _ h
  · rintro rfl
    simp [cmpPart, cb_self]
theorem cp_rank {a b : Bs} (h : rank a ≠ rank b) : cmpPart a b = Lib.compareInt (rank a) (rank b) := by unfold cmpPart; rw [if_pos h]
theorem cp_len {a b : Bs} (h : rank a = rank b) (h2 : rank a = 2 ∧ a.length ≠ b.length) : cmpPart a b = Lib.compareInt a.length b.length := by
  unfold cmpPart; rw [if_neg (fun c => c h), if_pos h2]
theorem cp_bytes {a b : Bs} (h : rank a = rank b) (h2 : ¬ (rank a = 2 ∧ a.length ≠ b.length)) : cmpPart a b = Lib.compareBytes a b := by
  unfold cmpPart; rw [if_neg (fun c => c h), if_neg h2]
theorem cp_anti (a b : Bs) : cmpPart b a = - cmpPart a b := by
  by_cases h : rank a = rank b
  · by_cases h2 : rank a = 2 ∧ a.length ≠ b.length
    · rw [cp_len h h2, cp_len h.symm ⟨h ▸ h2.1, fun e => h2.2 e.symm⟩, ci_anti]
    · rw [cp_bytes h h2, cp_bytes h.symm (fun c => h2 ⟨h ▸ c.1, fun e => c.2 e.symm⟩), cb_anti]
  · rw [cp_rank h, cp_rank (fun e => h e.symm), ci_anti]
theorem cp_range (a b : Bs) : cmpPart a b = -1 ∨ cmpPart a b = 0 ∨ cmpPart a b = 1 := by
  unfold cmpPart
  split; · exact ci_range _ _
  split; · exact ci_range _ _
  exact cb_range _ _
theorem cp_trans (a b c : Bs) (h1 : cmpPart a b ≤ 0) (h2 : cmpPart b c ≤ 0) : cmpPart a c ≤ 0 := by
  by_cases r1 : rank a = rank b
  · by_cases r2 : rank b = rank c
    · have r3 := r1.trans r2
      by_cases hr : rank a = 2
      · by_cases l1 : a.length = b.length
        · rw [cp_bytes r1 (fun x => x.2 l1)] at h1
          by_cases l2 : b.length = c.length
          · rw [cp_bytes r2 (fun x => x.2 l2)] at h2
            rw [cp_bytes r3 (fun x => x.2 (l1.trans l2))]; exact cb_trans _ _ _ h1 h2
          · rw [cp_len r2 ⟨by omega, l2⟩, ci_le] at h2
            rw [cp_len r3 ⟨hr, by omega⟩, ci_le]; omega
        · rw [cp_len r1 ⟨hr, l1⟩, ci_le] at h1
          by_cases l2 : b.length = c.length
          · rw [cp_len r3 ⟨hr, by omega⟩, ci_le]; omega
          · rw [cp_len r2 ⟨by omega, l2⟩, ci_le] at h2
            rw [cp_len r3 ⟨hr, by omega⟩, ci_le]; omega
      · rw [cp_bytes r1 (fun x => hr x.1)] at h1
        rw [cp_bytes r2 (fun x => hr (by omega))] at h2
        rw [cp_bytes r3 (fun x => hr x.1)]; exact cb_trans _ _ _ h1 h2
    · rw [cp_rank r2, ci_le] at h2; rw [cp_rank (by omega), ci_le]; omega
  · rw [cp_rank r1, ci_le] at h1
    by_cases r2 : rank b = rank c
    · rw [cp_rank (by omega), ci_le]; omega
    · rw [cp_rank r2, ci_le] at h2
      rw [cp_rank (by omega), ci_le]; omega

/-! ### Rows of parts: seen through an end behind the last one. -/
theorem cps_nil (b : List Bs) (hb : ∀ p ∈ b, p ≠ []) : cmpParts [] b = 0 ↔ b = [] := by
  cases b with
  | nil => simp [cmpParts]
  | cons p r =>
    rw [cps_end, cp_eq]
    exact ⟨fun e => absurd e.symm (hb p (by simp)), fun e => by cases e⟩

theorem cps_anti : ∀ a b : List Bs, (∀ p ∈ a, p ≠ []) → (∀ p ∈ b, p ≠ []) → cmpParts b a = - cmpParts a b
  | [], [], _, _ => rfl
  | [], q :: r, _, hb => by
    have hz : cmpPart q (hd []) ≠ 0 := fun e => hb q (by simp) (cp_eq.1 e)
    rw [cps_part hz, cps_end]; exact cp_anti [] q
  | p :: s, [], ha, _ => by
    have hz : cmpPart p (hd []) ≠ 0 := fun e => ha p (by simp) (cp_eq.1 e)
    rw [cps_part hz, cps_end]; exact cp_anti p []
  | p :: s, q :: r, ha, hb => by
    have ih := cps_anti s r (fun x hx => ha x (by simp [hx])) (fun x hx => hb x (by simp [hx]))
    have e := cp_anti p q
    by_cases h : cmpPart p q = 0
    · rw [cps_zero (b := q :: r) h, cps_zero (p := q) (b := p :: s) (by show cmpPart q p = 0; omega)]; exact ih
    · rw [cps_part (b := q :: r) h, cps_part (p := q) (b := p :: s) (by show cmpPart q p ≠ 0; omega)]; exact e

theorem cps_eq : ∀ a b : List Bs, (∀ p ∈ a, p ≠ []) → (∀ p ∈ b, p ≠ []) → cmpParts a b = 0 → a = b
  | [], [], _, _, _ => rfl
  | [], q :: r, _, hb, h => absurd ((cps_nil _ hb).1 h) (by simp)
  | p :: s, [], ha, hb, h => by
    have := cps_anti (p :: s) [] ha hb
    rw [h] at this
    exact absurd ((cps_nil _ ha).1 (by omega)) (by simp)
  | p :: s, q :: r, ha, hb, h => by
    by_cases h1 : cmpPart p q = 0
    · rw [cps_zero (b := q :: r) h1] at h
      rw [cp_eq.1 h1, cps_eq s r (fun x hx => ha x (by simp [hx])) (fun x hx => hb x (by simp [hx])) h]
    · rw [cps_part (b := q :: r) h1] at h; exact absurd h h1
theorem cps_self : ∀ a : List Bs, cmpParts a a = 0
  | [] => rfl
  | p :: s => by rw [cps_zero (p := p) (b := p :: s) (cp_eq.2 rfl)]; exact cps_self s
theorem cps_range : ∀ a b : List Bs, cmpParts a b = -1 ∨ cmpParts a b = 0 ∨ cmpParts a b = 1
  | [], [] => .inr (.inl rfl)
  | [], q :: _ => cp_range [] q
  | p :: s, b => by
    by_cases h : cmpPart p (hd b) = 0
    · rw [cps_zero h]; exact cps_range s b.tail
    · rw [cps_part h]; exact cp_range _ _
/-- b against c, read part by part, ends behind both. -/
theorem cps_split (b c : List Bs) (hc : ∀ p ∈ c, p ≠ []) (h : cmpParts b c ≤ 0) : cmpPart (hd b) (hd c) ≤ 0 ∧ (cmpPart (hd b) (hd c) = 0 → cmpParts b.tail c.tail ≤ 0) := by
  cases b with
  | nil => cases c with
    | nil => exact ⟨by rw [cp_eq.2 rfl]; omega, fun _ => h⟩
    | cons t u => exact ⟨h, fun e => absurd (cp_eq.1 e).symm (hc t (by simp))⟩
  | cons q r =>
    by_cases h1 : cmpPart q (hd c) = 0
    · rw [cps_zero h1] at h; exact ⟨by show cmpPart q (hd c) ≤ 0; omega, fun _ => h⟩
    · rw [cps_part h1] at h; exact ⟨h, fun e => absurd e h1⟩
theorem cps_trans : ∀ a b c : List Bs, (∀ p ∈ b, p ≠ []) → (∀ p ∈ c, p ≠ []) → cmpParts a b ≤ 0 → cmpParts b c ≤ 0 → cmpParts a c ≤ 0
  | [], [], _, _, _, _, h2 => h2
  | [], q :: r, [], _, _, _, _ => by simp [cmpParts]
  | [], q :: r, t :: u, _, hc, h1, h2 => by
    rw [cps_end] at h1 ⊢
    exact cp_trans _ _ _ h1 (cps_split _ _ hc h2).1
  | p :: s, b, c, hb, hc, h1, h2 => by
    have ih := cps_trans s b.tail c.tail (fun x hx => hb x (List.mem_of_mem_tail hx)) (fun x hx => hc x (List.mem_of_mem_tail hx))
    obtain ⟨g1, g2⟩ := cps_split b c hc h2
    by_cases e1 : cmpPart p (hd b) = 0
    · rw [cps_zero e1] at h1
      have e := cp_eq.1 e1
      subst e
      by_cases e2 : cmpPart (hd b) (hd c) = 0
      · rw [cps_zero e2]; exact ih h1 (g2 e2)
      · rw [cps_part e2]; exact g1
    · rw [cps_part e1] at h1
      have h3 := cp_trans _ _ _ h1 g1
      by_cases e2 : cmpPart p (hd c) = 0
      · exfalso
        have e := cp_eq.1 e2
        subst e
        have := cp_anti (hd c) (hd b)
        omega
      · rw [cps_part e2]; exact h3

end Go.Proofs.YtaahdhpljlkfjaaGreat.Ver

/- Plain mathematics: the document's 'before' and 'less', and what the row of versions is. -/
namespace Go.Proofs.YtaahdhpljlkfjaaGreat.Ver

theorem part_ne {p : Bs} (h : part p = true) : p ≠ [] := by
  rintro rfl; simp [part, word, number, digits] at h
theorem rank_word {p : Bs} (h : word p = true) : rank p = 0 := by
  unfold rank
  have : p.isEmpty = false := by unfold word at h; simp at h; simpa using h.2
  rw [this, h]; rfl
theorem word_not_digits {p : Bs} (h : word p = true) : digits p = false := by
  cases p with
  | nil => simp [word] at h
  | cons c r =>
    simp [word, letB] at h
    simp only [digits, List.all_cons, digB]
    have : decide ((c.toNat : Int) ≤ 57) = false := by simp; omega
    simp; omega
theorem number_digits {p : Bs} (h : number p = true) : digits p = true := by
  unfold number at h; simp only [Bool.and_eq_true] at h; exact h.1.1
theorem part_not_word {p : Bs} (h : part p = true) (hw : word p = false) : digits p = true := by
  unfold part at h; rw [hw, Bool.false_or] at h; exact number_digits h
theorem rank_digits {p : Bs} (h : digits p = true) : rank p = 2 ∧ word p = false := by
  have hw : word p = false := by
    cases e : word p with
    | false => rfl
    | true => rw [word_not_digits e] at h; exact absurd h (by simp)
  refine ⟨?_, hw⟩
  unfold rank
  have : p.isEmpty = false := by unfold digits at h; simp at h; simpa using h.2
  rw [this, hw]; rfl

theorem less_bytes : ∀ a b : Bs, Op.bytesLess a b = decide (Lib.compareBytes a b = -1)
  | [], [] => rfl
  | [], _ :: _ => rfl
  | _ :: _, [] => rfl
  | a :: as, b :: bs => by
    have ih := less_bytes as bs
    simp only [Op.bytesLess, Lib.compareBytes]
    by_cases h : a < b
    · simp [h]
    · by_cases h2 : b < a
      · have : ¬ a = b := by rintro rfl; exact h h2
        simp [h, h2, this]
      · have : a = b := by
          apply UInt8.toNat_inj.1
          rw [UInt8.lt_iff_toNat_lt] at h h2; omega
        subst this
        simp [h, ih]

/-- The document's 'before'. -/
def before (a b : Bs) : Bool :=
  if a = b then false else if a = [] then digits b else if b = [] then word a
  else if word a ≠ word b then word a else if digits a = true ∧ a.length ≠ b.length then decide (a.length < b.length) else Op.bytesLess a b
/-- A part, or an end. -/
def pe (p : Bs) : Prop := p = [] ∨ part p = true

theorem rank_nil : rank [] = 1 := rfl
theorem before_eq {a b : Bs} (ha : pe a) (hb : pe b) : before a b = decide (cmpPart a b = -1) := by
  unfold before
  by_cases h : a = b
  · rw [if_pos h, cp_eq.2 h]; rfl
  rw [if_neg h]
  by_cases h1 : a = []
  · rw [if_pos h1]; subst h1
    have hb' : part b = true := hb.resolve_left (fun e => h e.symm)
    cases hw : word b with
    | true => rw [word_not_digits hw, cp_rank (by rw [rank_nil, rank_word hw]; omega), rank_nil, rank_word hw]; rfl
    | false =>
      have hd := part_not_word hb' hw
      rw [hd, cp_rank (by rw [rank_nil, (rank_digits hd).1]; omega), rank_nil, (rank_digits hd).1]; rfl
  rw [if_neg h1]
  have ha' : part a = true := ha.resolve_left h1
  by_cases h2 : b = []
  · rw [if_pos h2]; subst h2
    cases hw : word a with
    | true => rw [cp_rank (by rw [rank_nil, rank_word hw]; omega), rank_nil, rank_word hw]; rfl
    | false =>
      have hd := part_not_word ha' hw
      rw [cp_rank (by rw [rank_nil, (rank_digits hd).1]; omega), rank_nil, (rank_digits hd).1]; rfl
  rw [if_neg h2]
  have hb' : part b = true := hb.resolve_left h2
  cases hwa : word a with
  | true =>
    cases hwb : word b with
    | true =>
      rw [if_neg (by simp), if_neg (by rw [word_not_digits hwa]; simp), less_bytes, cp_bytes (by rw [rank_word hwa, rank_word hwb]) (by rw [rank_word hwa]; omega)]
    | false =>
      have hd := part_not_word hb' hwb
      rw [if_pos (by simp), cp_rank (by rw [rank_word hwa, (rank_digits hd).1]; omega), rank_word hwa, (rank_digits hd).1]; rfl
  | false =>
    have hda := part_not_word ha' hwa
    cases hwb : word b with
    | true =>
      rw [if_pos (by simp), cp_rank (by rw [rank_word hwb, (rank_digits hda).1]; omega), rank_word hwb, (rank_digits hda).1]; rfl
    | false =>
      have hdb := part_not_word hb' hwb
      rw [if_neg (by simp)]
      have hr : rank a = rank b := by rw [(rank_digits hda).1, (rank_digits hdb).1]
      by_cases hl : a.length = b.length
      · rw [if_neg (fun c => c.2 hl), less_bytes, cp_bytes hr (fun c => c.2 hl)]
      · rw [if_pos ⟨hda, hl⟩, cp_len hr ⟨(rank_digits hda).1, hl⟩, decide_eq_decide, ci_lt]; omega

/-! ### Versions. -/
theorem may_parts {a : Bs} (h : may a = true) : ∀ p ∈ cut 46 a, p ≠ [] := by
  intro p hp
  unfold may at h
  simp only [Bool.and_eq_true, List.all_eq_true] at h
  exact part_ne (h.2 p hp)
theorem cmp_both {a b : Bs} (h : may a = true) (h2 : may b = true) : compare a b = cmpParts (cut 46 a) (cut 46 b) := by unfold compare; rw [h, h2]; rfl
theorem cmp_none {a b : Bs} (h : (may a && may b) = false) : compare a b = mayI a - mayI b := by unfold compare; rw [h]; rfl
theorem mayI_true {a : Bs} (h : may a = true) : mayI a = 1 := by unfold mayI; rw [if_pos h]
theorem mayI_false {a : Bs} (h : may a = false) : mayI a = 0 := by unfold mayI; rw [if_neg (by simp [h])]

theorem compare_anti (a b : Bs) : compare b a = - compare a b := by
  cases ha : may a with
  | false => rw [cmp_none (a := b) (b := a) (by rw [ha]; simp), cmp_none (by rw [ha]; rfl)]; omega
  | true => cases hb : may b with
    | false => rw [cmp_none (a := b) (b := a) (by rw [hb]; simp), cmp_none (a := a) (b := b) (by rw [hb]; simp)]; omega
    | true => rw [cmp_both ha hb, cmp_both hb ha]; exact cps_anti _ _ (may_parts ha) (may_parts hb)
theorem compare_range (a b : Bs) : compare a b = -1 ∨ compare a b = 0 ∨ compare a b = 1 := by
  cases ha : may a with
  | false =>
    rw [cmp_none (by rw [ha]; rfl), mayI_false ha]
    cases hb : may b with
    | false => rw [mayI_false hb]; omega
    | true => rw [mayI_true hb]; omega
  | true => cases hb : may b with
    | false => rw [cmp_none (a := a) (b := b) (by rw [hb]; simp), mayI_true ha, mayI_false hb]; omega
    | true => rw [cmp_both ha hb]; exact cps_range _ _
theorem compare_trans (a b c : Bs) (h1 : compare a b ≤ 0) (h2 : compare b c ≤ 0) : compare a c ≤ 0 := by
  cases ha : may a with
  | false =>
    rw [cmp_none (by rw [ha]; rfl), mayI_false ha]
    cases hc : may c with
    | false => rw [mayI_false hc]; omega
    | true => rw [mayI_true hc]; omega
  | true => cases hb : may b with
    | false => rw [cmp_none (a := a) (b := b) (by rw [hb]; simp), mayI_true ha, mayI_false hb] at h1; omega
    | true => cases hc : may c with
      | false => rw [cmp_none (a := b) (b := c) (by rw [hc]; simp), mayI_true hb, mayI_false hc] at h2; omega
      | true =>
        rw [cmp_both ha hb] at h1; rw [cmp_both hb hc] at h2; rw [cmp_both ha hc]
        exact cps_trans _ _ _ (may_parts hb) (may_parts hc) h1 h2
/-- A text is its parts, put together. -/
def join (b : UInt8) : List Bs → Bs
  | [] => []
  | [p] => p
  | p :: q :: r => p ++ b :: join b (q :: r)
theorem join_cut (b : UInt8) : ∀ l : Bs, join b (cut b l) = l
  | [] => rfl
  | c :: r => by
    have ih := join_cut b r
    have hne := cut_ne b r
    rw [cut]
    by_cases h : c == b
    · rw [if_pos h]
      cases hc : cut b r with
      | nil => exact absurd hc hne
      | cons p ps =>
        rw [join, ← hc, ih]
        have : c = b := by simpa using h
        simp [this]
    · rw [if_neg h]
      cases hc : cut b r with
      | nil => exact absurd hc hne
      | cons p ps =>
        rw [hc] at ih
        simp only
        cases ps with
        | nil => simp only [join] at ih ⊢; rw [ih]
        | cons q qs => simp only [join] at ih ⊢; rw [List.cons_append, ih]
theorem compare_eq {a b : Bs} (h : compare a b = 0) : a = b ∨ (may a = false ∧ may b = false) := by
  cases ha : may a with
  | false =>
    rw [cmp_none (by rw [ha]; rfl), mayI_false ha] at h
    cases hb : may b with
    | false => exact .inr ⟨rfl, rfl⟩
    | true => rw [mayI_true hb] at h; omega
  | true => cases hb : may b with
    | false => rw [cmp_none (a := a) (b := b) (by rw [hb]; simp), mayI_true ha, mayI_false hb] at h; omega
    | true =>
      rw [cmp_both ha hb] at h
      left
      rw [← join_cut 46 a, ← join_cut 46 b, cps_eq _ _ (may_parts ha) (may_parts hb) h]
theorem compare_self (a : Bs) : compare a a = 0 := by
  cases ha : may a with
  | false => rw [cmp_none (by rw [ha]; rfl)]; omega
  | true => rw [cmp_both ha ha]; exact cps_self _
theorem compare_eq_trans {a b c : Bs} (h1 : compare a b = 0) (h2 : compare b c = 0) : compare a c = 0 := by
  have h3 := compare_trans a b c (by omega) (by omega)
  have h4 := compare_trans c b a (by have := compare_anti b c; omega) (by have := compare_anti a b; omega)
  have := compare_anti a c
  omega

end Go.Proofs.YtaahdhpljlkfjaaGreat.Ver

/- Plain mathematics of versions: a version behind another one's parts. -/
namespace Go.Proofs.YtaahdhpljlkfjaaGreat.Ver

theorem cut_append (b : UInt8) (r : Bs) : ∀ l : Bs, cut b (l ++ b :: r) = cut b l ++ cut b r
  | [] => by
    rw [List.nil_append]
    simp [cut]
  | c :: l => by
    have ih := cut_append b r l
    rw [List.cons_append, cut, cut]
    by_cases h : (c == b) = true
    · rw [if_pos h, if_pos h, ih]; rfl
    · rw [if_neg h, if_neg h, ih]
      cases hc : cut b l with
      | nil => exact absurd hc (cut_ne b l)
      | cons p ps => rfl

theorem cps_append (x y : List Bs) : ∀ h : List Bs, cmpParts (h ++ x) (h ++ y) = cmpParts x y
  | [] => rfl
  | p :: h => by
    rw [List.cons_append, List.cons_append, cps_zero (by exact cp_eq.2 rfl)]
    exact cps_append x y h

theorem may_tail {h a : Bs} (hm : may (h ++ 46 :: a) = true) : may a = true := by
  unfold may at hm ⊢
  simp only [Bool.and_eq_true, decide_eq_true_eq] at hm ⊢
  obtain ⟨⟨h1, h2⟩, h3⟩ := hm
  rw [cut_append] at h2 h3
  rw [List.length_append] at h1 h2
  rw [List.all_append, Bool.and_eq_true] at h3
  exact ⟨⟨by simp at h1; omega, by omega⟩, h3.2⟩

theorem compare_tails {h a b : Bs} (ha : may (h ++ 46 :: a) = true) (hb : may (h ++ 46 :: b) = true) : compare (h ++ 46 :: a) (h ++ 46 :: b) = compare a b := by
  rw [cmp_both ha hb, cut_append, cut_append, cps_append, cmp_both (may_tail ha) (may_tail hb)]

/-- A version behind another one's parts: how it stands to it says its first new part's rank. -/
theorem compare_more {a r : Bs} (ha : may a = true) (hm : may (a ++ 46 :: r) = true) : compare (a ++ 46 :: r) a = cmpPart (hd (cut 46 r)) [] := by
  rw [cmp_both hm ha, cut_append]
  have h := cps_append (cut 46 r) [] (cut 46 a)
  rw [List.append_nil] at h
  rw [h]
  have hp := may_parts (may_tail hm)
  cases hc : cut 46 r with
  | nil => exact absurd hc (cut_ne 46 r)
  | cons p ps =>
    rw [hc] at hp
    exact cps_part (fun e => hp p (by simp) (cp_eq.1 e))

theorem part_first {p : Bs} (hp : part p = true) (h : cmpPart p [] ≠ -1) : digits p = true := by
  cases hw : word p with
  | false => exact part_not_word hp hw
  | true =>
    exfalso; apply h
    rw [cp_rank (by rw [rank_word hw, rank_nil]; omega), rank_word hw, rank_nil]; rfl

theorem digits_more {p : Bs} (hp : digits p = true) : cmpPart p [] = 1 := by
  have := (rank_digits hp).1
  rw [cp_rank (by rw [this, rank_nil]; omega), this, rank_nil]; rfl

theorem cut_none (b : UInt8) : ∀ l : Bs, (∀ c ∈ l, (c == b) = false) → cut b l = [l]
  | [], _ => rfl
  | c :: l, h => by
    rw [cut, if_neg (by rw [h c (by simp)]; simp), cut_none b l (fun d hd => h d (by simp [hd]))]

theorem cut_digits {p : Bs} (hp : digits p = true) : cut 46 p = [p] := by
  refine cut_none 46 p fun c hc => ?_
  unfold digits at hp
  rw [Bool.and_eq_true, List.all_eq_true] at hp
  have h := hp.1 c hc
  rw [beq_eq_false_iff_ne]
  rintro rfl
  revert h; decide

theorem may_first {r : Bs} (h : may r = true) : part (hd (cut 46 r)) = true := by
  unfold may at h
  simp only [Bool.and_eq_true] at h
  cases hc : cut 46 r with
  | nil => exact absurd hc (cut_ne 46 r)
  | cons p ps => rw [hc] at h; simp at h; exact h.2.1

/-- Behind a version a part that stands not ahead of the end is a number. -/
theorem around_low {a r : Bs} (ha : may a = true) (hm : may (a ++ 46 :: r) = true) (h : compare (a ++ 46 :: r) a ≠ -1) : digits (hd (cut 46 r)) = true := by
  rw [compare_more ha hm] at h
  exact part_first (may_first (may_tail hm)) h
theorem around_high {a r : Bs} (ha : may a = true) (hm : may (a ++ 46 :: r) = true) (hr : digits r = true) : compare (a ++ 46 :: r) a = 1 := by
  rw [compare_more ha hm, cut_digits hr]
  exact digits_more hr

end Go.Proofs.YtaahdhpljlkfjaaGreat.Ver

/- Plain mathematics of spans. No Go in sight. -/
namespace Go.Proofs.YtaahdhpljlkfjaaGreat.Ver

theorem may_nil : may [] = false := by decide
theorem may_ne {v : Bs} (h : may v = true) : v ≠ [] := by rintro rfl; rw [may_nil] at h; cases h

def smay (lo hi : Bs) : Bool := (lo.isEmpty || may lo) && (hi.isEmpty || may hi) && (lo.isEmpty || hi.isEmpty || decide (compare lo hi ≤ 0))
def lowR (lo o : Bs) : Bool := lo.isEmpty || (!o.isEmpty && decide (compare lo o ≤ 0))
def highR (hi o : Bs) : Bool := hi.isEmpty || (!o.isEmpty && decide (0 ≤ compare hi o))
def shas (lo hi v : Bs) : Bool := smay lo hi && may v && lowR lo v && highR hi v

theorem cmp_not_less (a b : Bs) : (!decide (compare b a = -1)) = decide (compare a b ≤ 0) := by
  have h := compare_anti a b
  have r := compare_range a b
  rw [Bool.eq_iff_iff]; simp; omega
theorem cmp_not_less' (a b : Bs) : (!decide (compare a b = -1)) = decide (0 ≤ compare a b) := by
  have r := compare_range a b
  rw [Bool.eq_iff_iff]; simp; omega

end Go.Proofs.YtaahdhpljlkfjaaGreat.Ver
