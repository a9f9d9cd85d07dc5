/- Plain mathematics of lines and words. No Go in sight. -/
import Derived.Lib.Bytealg
import Derived.Lib.Small
namespace Go.Proofs.YtbgamneoghhfpaaDoor.Lx

abbrev Bs := List UInt8
def partB (c : UInt8) : Bool := decide (32 < (c.toNat : Int)) && decide ((c.toNat : Int) < 127) && !decide ((c.toNat : Int) = 35)
def badB (c : UInt8) : Bool := decide ((c.toNat : Int) < 32) || decide (126 < (c.toNat : Int))

/-- How many bytes of words a text begins with. -/
def tw : Bs → Nat
  | [] => 0
  | c :: r => if partB c then tw r + 1 else 0
theorem tw_le : ∀ l : Bs, tw l ≤ l.length
  | [] => Nat.le_refl _
  | c :: r => by
    have := tw_le r
    unfold tw; split <;> simp <;> omega
theorem tw_in : ∀ (l : Bs) (j : Nat) (c : UInt8), j < tw l → l[j]? = some c → partB c = true
  | [], j, c, h, _ => by simp [tw] at h
  | a :: r, j, c, h, e => by
    unfold tw at h
    split at h
    · rename_i ha
      cases j with
      | zero => simp at e; rw [← e]; exact ha
      | succ j => exact tw_in r j c (by omega) (by simpa using e)
    · omega
theorem tw_out : ∀ (l : Bs) (c : UInt8), l[tw l]? = some c → partB c = false
  | [], c, e => by simp at e
  | a :: r, c, e => by
    unfold tw at e
    split at e
    · exact tw_out r c (by simpa using e)
    · rename_i ha
      simp at e; rw [← e]; simpa using ha

/-- Where the word that begins at c ends. -/
def re (l : Bs) (c : Nat) : Nat := c + tw (l.drop c)
theorem re_ge (l : Bs) (c : Nat) : c ≤ re l c := by unfold re; omega
theorem re_le {l : Bs} {c : Nat} (h : c ≤ l.length) : re l c ≤ l.length := by
  have := tw_le (l.drop c)
  rw [List.length_drop] at this
  unfold re; omega
theorem re_next {l : Bs} {c j : Nat} {b : UInt8} (_h1 : c ≤ j) (h2 : j ≤ re l c) (hb : l[j]? = some b) (hp : partB b = true) : j + 1 ≤ re l c := by
  by_cases e : j = re l c
  · have := tw_out (l.drop c) b (by rw [List.getElem?_drop]; rw [e] at hb; exact hb)
    rw [hp] at this; cases this
  · omega
theorem re_stop {l : Bs} {c j : Nat} {b : UInt8} (h1 : c ≤ j) (h2 : j ≤ re l c) (hb : l[j]? = some b) (hp : partB b = false) : j = re l c := by
  by_cases e : j < re l c
  · have := tw_in (l.drop c) (j - c) b (by unfold re at e; omega) (by rw [List.getElem?_drop, show c + (j - c) = j by omega]; exact hb)
    rw [hp] at this; cases this
  · omega
theorem re_before {l : Bs} {c j : Nat} {b : UInt8} (h1 : c ≤ j) (hb : l[j]? = some b) (hp : partB b = false) : re l c ≤ j := by
  by_cases e : j ≤ re l c
  · exact Nat.le_of_eq (re_stop h1 e hb hp).symm
  · omega

structure St where
  cols : List Nat
  inw : Bool
  rem : Bool

def stepS (most : Nat) (c : UInt8) (i : Nat) (st : St) : Sum (Nat × Nat) St :=
  if badB c then .inl (i + 1, 3)
  else if st.rem || decide ((c.toNat : Int) = 35) || decide ((c.toNat : Int) = 32) then .inr ⟨st.cols, false, st.rem || decide ((c.toNat : Int) = 35)⟩
  else if st.inw then .inr st
  else if most ≤ st.cols.length then .inl (i + 1, 4)
  else .inr ⟨st.cols ++ [i], true, st.rem⟩
def runS (most : Nat) : Bs → Nat → St → Sum (Nat × Nat) St
  | [], _, st => .inr st
  | c :: r, i, st => match stepS most c i st with
    | .inl e => .inl e
    | .inr st' => runS most r (i + 1) st'
def st0 : St := ⟨[], false, false⟩
def lineS (most : Nat) (l : Bs) : Sum (Nat × Nat) St := runS most l 0 st0

theorem runS_at {most : Nat} {l : Bs} {i : Nat} {c : UInt8} (hc : l[i]? = some c) (st : St) : runS most (l.drop i) i st = match stepS most c i st with
    | .inl e => .inl e
    | .inr st' => runS most (l.drop (i + 1)) (i + 1) st' := by
  have hi := (List.getElem?_eq_some_iff.1 hc)
  obtain ⟨hlt, he⟩ := hi
  rw [List.drop_eq_getElem_cons hlt, he]; rfl
theorem runS_end {most : Nat} {l : Bs} {i : Nat} (h : l.length ≤ i) (st : St) : runS most (l.drop i) i st = .inr st := by
  rw [List.drop_eq_nil_of_le h]; rfl

/-- What holds of a state ahead of byte i. -/
structure Inv (most : Nat) (l : Bs) (i : Nat) (st : St) : Prop where
  lt : ∀ c ∈ st.cols, c < i
  out : st.inw = false → ∀ c ∈ st.cols, re l c ≤ i
  inn : st.inw = true → ∃ pre c, st.cols = pre ++ [c] ∧ (∀ d ∈ pre, re l d ≤ i) ∧ i ≤ re l c
  rem : st.rem = true → st.inw = false
  prev : st.rem = false → (st.inw = true ↔ 0 < i ∧ ∃ b, l[i - 1]? = some b ∧ partB b = true)
  most : st.cols.length ≤ most
  le : st.cols.length ≤ i

theorem Inv.start (most : Nat) (l : Bs) : Inv most l 0 st0 :=
  ⟨(fun c h => by cases h), (fun _ c h => by cases h), (fun h => by cases h), (fun _ => rfl), (fun _ => ⟨(fun h => by cases h), (fun h => by omega)⟩), Nat.zero_le _, Nat.zero_le _⟩

theorem part_of {c : UInt8} (hb : badB c = false) (h35 : decide ((c.toNat : Int) = 35) = false) (h32 : decide ((c.toNat : Int) = 32) = false) : partB c = true := by
  unfold badB at hb
  unfold partB
  simp at hb h35 h32 ⊢
  refine ⟨⟨?_, ?_⟩, ?_⟩ <;> omega
theorem not_part {c : UInt8} (h : decide ((c.toNat : Int) = 35) = true ∨ decide ((c.toNat : Int) = 32) = true) : partB c = false := by
  unfold partB
  simp at h ⊢
  omega

/-- A byte that no word has. -/
theorem Inv.skip {most : Nat} {l : Bs} {i : Nat} {c : UInt8} {st : St} (h : Inv most l i st) (hc : l[i]? = some c)
    (hs : (st.rem || decide ((c.toNat : Int) = 35) || decide ((c.toNat : Int) = 32)) = true) : Inv most l (i + 1) ⟨st.cols, false, st.rem || decide ((c.toNat : Int) = 35)⟩ := by
  refine ⟨fun d hd => Nat.lt_succ_of_lt (h.lt d hd), fun _ d hd => ?_, (fun e => by cases e), fun _ => rfl, fun hr => ?_, h.most, Nat.le_succ_of_le h.le⟩
  · cases hi : st.inw with
    | false => exact Nat.le_succ_of_le (h.out hi d hd)
    | true =>
      have hrf : st.rem = false := by
        cases hr : st.rem with
        | false => rfl
        | true => rw [h.rem hr] at hi; cases hi
      have hp : partB c = false := not_part (by rw [hrf] at hs; simpa using hs)
      exact Nat.le_succ_of_le (re_before (Nat.le_of_lt (h.lt d hd)) hc hp)
  · refine ⟨(fun e => by simp at e), fun ⟨_, b, hb, hp⟩ => ?_⟩
    simp only [Nat.add_sub_cancel] at hb
    rw [hc] at hb
    injection hb with hb
    subst hb
    simp only [Bool.or_eq_false_iff] at hr
    obtain ⟨hr1, hr2⟩ := hr
    rw [hr1, hr2] at hs
    have h32 : decide ((c.toNat : Int) = 32) = true := by simpa using hs
    have := not_part (c := c) (.inr h32)
    rw [hp] at this; cases this

theorem Inv.skip_le {most : Nat} {l : Bs} {i : Nat} {c : UInt8} {st : St} (h : Inv most l i st) (hc : l[i]? = some c)
    (hs : (st.rem || decide ((c.toNat : Int) = 35) || decide ((c.toNat : Int) = 32)) = true) : ∀ d ∈ st.cols, re l d ≤ i := by
  intro d hd
  cases hi : st.inw with
  | false => exact h.out hi d hd
  | true =>
    have hrf : st.rem = false := by
      cases hr : st.rem with
      | false => rfl
      | true => rw [h.rem hr] at hi; cases hi
    have hp : partB c = false := not_part (by rw [hrf] at hs; simpa using hs)
    exact re_before (Nat.le_of_lt (h.lt d hd)) hc hp

/-- A byte more of the word. -/
theorem Inv.more {most : Nat} {l : Bs} {i : Nat} {c : UInt8} {st : St} (h : Inv most l i st) (hc : l[i]? = some c) (hp : partB c = true) (hi : st.inw = true) : Inv most l (i + 1) st := by
  have hrf : st.rem = false := by
    cases hr : st.rem with
    | false => rfl
    | true => rw [h.rem hr] at hi; cases hi
  refine ⟨fun d hd => Nat.lt_succ_of_lt (h.lt d hd), (fun e => by rw [hi] at e; cases e), fun _ => ?_, (fun hr => by rw [hrf] at hr; cases hr), fun _ => ⟨fun _ => ⟨by omega, c, by simpa using hc, hp⟩, fun _ => hi⟩, h.most, Nat.le_succ_of_le h.le⟩
  obtain ⟨pre, d, e, h1, h2⟩ := h.inn hi
  exact ⟨pre, d, e, fun x hx => Nat.le_succ_of_le (h1 x hx), re_next (Nat.le_of_lt (h.lt d (by rw [e]; simp))) h2 hc hp⟩

/-- A new word. -/
theorem Inv.new {most : Nat} {l : Bs} {i : Nat} {c : UInt8} {st : St} (h : Inv most l i st) (hc : l[i]? = some c) (hp : partB c = true) (hi : st.inw = false) (hr : st.rem = false) (hm : st.cols.length < most) :
    Inv most l (i + 1) ⟨st.cols ++ [i], true, st.rem⟩ := by
  refine ⟨fun d hd => ?_, (fun e => by cases e), fun _ => ⟨st.cols, i, rfl, fun d hd => Nat.le_succ_of_le (h.out hi d hd), re_next (Nat.le_refl _) (re_ge _ _) hc hp⟩, (fun e => by rw [hr] at e; cases e), fun _ => ⟨fun _ => ⟨by omega, c, by simpa using hc, hp⟩, fun _ => rfl⟩, by simp; omega, by simp; have := h.le; omega⟩
  rcases List.mem_append.1 hd with hd | hd
  · exact Nat.lt_succ_of_lt (h.lt d hd)
  · simp at hd; omega

abbrev Word := Nat × ByteArray
/-- The words as far as byte i. -/
def wordsTo (p : ByteArray) (i : Nat) (cols : List Nat) : List Word := cols.map fun c => (c + 1, p.extract c (min i (re p.data.toList c)))
def wordsB (p : ByteArray) (cols : List Nat) : List Word := cols.map fun c => (c + 1, p.extract c (re p.data.toList c))

theorem wordsTo_end {most : Nat} {p : ByteArray} {st : St} (h : Inv most p.data.toList p.size st) : wordsTo p p.size st.cols = wordsB p st.cols := by
  unfold wordsTo wordsB
  refine List.map_congr_left fun c hc => ?_
  have hl : p.data.toList.length = p.size := by simp
  have := re_le (l := p.data.toList) (c := c) (by have := h.lt c hc; omega)
  rw [Nat.min_eq_right (by omega)]
theorem wordsTo_skip {p : ByteArray} {i : Nat} {cols : List Nat} (h : ∀ c ∈ cols, re p.data.toList c ≤ i) : wordsTo p (i + 1) cols = wordsTo p i cols := by
  unfold wordsTo
  refine List.map_congr_left fun c hc => ?_
  have := h c hc
  rw [Nat.min_eq_right (by omega), Nat.min_eq_right (by omega)]
theorem wordsTo_last {p : ByteArray} {i : Nat} {pre : List Nat} {c : Nat} (h : ∀ d ∈ pre, re p.data.toList d ≤ i) (h2 : i + 1 ≤ re p.data.toList c) : wordsTo p (i + 1) (pre ++ [c]) = wordsTo p i pre ++ [(c + 1, p.extract c (i + 1))] := by
  have := wordsTo_skip h
  unfold wordsTo at this ⊢
  rw [List.map_append, this]
  simp only [List.map_cons, List.map_nil]
  rw [Nat.min_eq_left h2]

/-- All lines. -/
abbrev Line := Nat × List Word
def linesS : List ByteArray → Nat → List Line → Sum (Nat × Nat × Nat) (List Line)
  | [], _, out => .inr out
  | p :: r, n, out => match lineS (if out.length = 2000 then 0 else 40) p.data.toList with
    | .inl (c, e) => .inl (n, c, e)
    | .inr st => linesS r (n + 1) (if st.cols.length = 0 then out else out ++ [(n, wordsB p st.cols)])

def cut (b : UInt8) : Bs → List Bs
  | [] => [[]]
  | c :: r => if c == b then [] :: cut b r else match cut b r with
    | [] => [[c]]
    | p :: ps => (c :: p) :: ps
def mk (l : Bs) : ByteArray := ⟨l.toArray⟩
def pieces (l : Bs) : List ByteArray := (cut 10 l).map mk
def lexS (s : ByteArray) : Sum (Nat × Nat × Nat) (List Line) := if 65536 < s.size then .inl (0, 0, 4) else linesS (pieces s.data.toList) 1 []

theorem step_err {most : Nat} {c : UInt8} {i : Nat} {st : St} {a b : Nat} (h : stepS most c i st = .inl (a, b)) : b = 3 ∨ b = 4 := by
  unfold stepS at h
  split at h
  · injection h with h; injection h with _ h; exact .inl h.symm
  · split at h
    · cases h
    · split at h
      · cases h
      · split at h
        · injection h with h; injection h with _ h; exact .inr h.symm
        · cases h
theorem runS_nil (most i : Nat) (st : St) : runS most [] i st = .inr st := rfl
theorem runS_cons (most i : Nat) (c : UInt8) (r : Bs) (st : St) : runS most (c :: r) i st = match stepS most c i st with
    | .inl e => .inl e
    | .inr st' => runS most r (i + 1) st' := by
  have h := runS_at (most := most) (l := List.replicate i 0 ++ c :: r) (i := i) (c := c) (by simp) st
  have e1 : (List.replicate i (0 : UInt8) ++ c :: r).drop i = c :: r := by simp
  have e2 : (List.replicate i (0 : UInt8) ++ c :: r).drop (i + 1) = r := by
    rw [show List.replicate i (0 : UInt8) ++ c :: r = (List.replicate i 0 ++ [c]) ++ r by simp, List.drop_left' (by simp)]
  rw [e1, e2] at h
  exact h
theorem run_err {most : Nat} (l : Bs) (i : Nat) (st : St) (a b : Nat) (h : runS most l i st = .inl (a, b)) : b = 3 ∨ b = 4 := by
  induction l generalizing i st with
  | nil =>
    rw [runS_nil] at h
    exact absurd h (by simp)
  | cons c r ih =>
    rw [runS_cons] at h
    cases hs : stepS most c i st with
    | inl e =>
      rw [hs] at h
      have he : e = (a, b) := Sum.inl.inj h
      rw [he] at hs
      exact step_err hs
    | inr s2 =>
      rw [hs] at h
      exact ih _ _ h
theorem step_most {most : Nat} {c : UInt8} {i : Nat} {st st' : St} (h : stepS most c i st = .inr st') (hm : st.cols.length ≤ most) : st'.cols.length ≤ most := by
  unfold stepS at h
  split at h
  · cases h
  · split at h
    · injection h with h; subst h; exact hm
    · split at h
      · injection h with h; subst h; exact hm
      · split at h
        · cases h
        · injection h with h; subst h; simp; omega
theorem run_most {most : Nat} (l : Bs) (i : Nat) (st st' : St) (h : runS most l i st = .inr st') (hm : st.cols.length ≤ most) : st'.cols.length ≤ most := by
  induction l generalizing i st with
  | nil =>
    rw [runS_nil] at h
    have he : st = st' := Sum.inr.inj h
    rw [← he]; exact hm
  | cons c r ih =>
    rw [runS_cons] at h
    cases hs : stepS most c i st with
    | inl e =>
      rw [hs] at h
      exact absurd h (by simp)
    | inr s2 =>
      rw [hs] at h
      exact ih _ _ h (step_most hs hm)

theorem cut_le (c : UInt8) (l : Bs) : ∀ p ∈ cut c l, p.length ≤ l.length := by
  induction l with
  | nil =>
    intro p h
    rw [cut, List.mem_singleton] at h
    subst h; exact Nat.le_refl _
  | cons b l ih =>
    intro p h
    rw [cut] at h
    rw [List.length_cons]
    split at h
    · rcases List.mem_cons.1 h with h | h
      · subst h; exact Nat.zero_le _
      · exact Nat.le_succ_of_le (ih p h)
    · cases hc : cut c l with
      | nil =>
        rw [hc, List.mem_singleton] at h
        subst h; simp
      | cons q ps =>
        rw [hc] at h ih
        rcases List.mem_cons.1 h with h | h
        · subst h
          rw [List.length_cons]
          exact Nat.succ_le_succ (ih q (by simp))
        · exact Nat.le_succ_of_le (ih p (by simp [h]))

end Go.Proofs.YtbgamneoghhfpaaDoor.Lx
