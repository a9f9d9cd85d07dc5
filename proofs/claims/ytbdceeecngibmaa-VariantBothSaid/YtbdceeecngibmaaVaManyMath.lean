/- Plain mathematics: how many settings meet a wish. -/
import Derived.Test.YtbdceeecngibmaaVaAmong
import Derived.Test.YtbdceeecngibmaaVaPick
namespace Go.Proofs.Ytbdceeecngibmaa.Va
open Go.RowKit

def okx (n y : ByteArray) (x : Set1) : Bool := !eqS x.1 n || eqS x.2 y
def okval (wish : List Set1) (n y : ByteArray) : Bool := wish.all (okx n y)
def cntV (wish : List Set1) (v : Var) : Nat := v.2.countP (okval wish v.1)
def prodC (wish : List Set1) : List Var → Nat
  | [] => 1
  | v :: r => cntV wish v * prodC wish r
def nmV (wish : List Set1) (v : Var) : Nat := wish.countP fun x => eqS x.1 v.1
def sumN (wish : List Set1) : List Var → Nat
  | [] => 0
  | v :: r => nmV wish v + sumN wish r

theorem prodC_app (wish : List Set1) : ∀ (a b : List Var), prodC wish (a ++ b) = prodC wish a * prodC wish b
  | [], b => by simp [prodC]
  | v :: r, b => by simp only [List.cons_append, prodC]; rw [prodC_app wish r b, Nat.mul_assoc]
theorem prodC_snoc (wish : List Set1) {l : List Var} {k : Nat} (hk : k < l.length) : prodC wish (l.take (k + 1)) = prodC wish (l.take k) * cntV wish (nthV l k) := by
  rw [List.take_succ_eq_append_getElem hk, prodC_app, nthV_lt hk]; simp [prodC]
theorem sumN_app (wish : List Set1) : ∀ (a b : List Var), sumN wish (a ++ b) = sumN wish a + sumN wish b
  | [], b => by simp [sumN]
  | v :: r, b => by simp only [List.cons_append, sumN]; rw [sumN_app wish r b, Nat.add_assoc]
theorem sumN_snoc (wish : List Set1) {l : List Var} {k : Nat} (hk : k < l.length) : sumN wish (l.take (k + 1)) = sumN wish (l.take k) + nmV wish (nthV l k) := by
  rw [List.take_succ_eq_append_getElem hk, sumN_app, nthV_lt hk]; simp [sumN]
theorem nm_le (wish : List Set1) (v : Var) : nmV wish v ≤ wish.length := List.countP_le_length
theorem cnt_le (wish : List Set1) (v : Var) : cntV wish v ≤ v.2.length := List.countP_le_length
theorem sum_le (wish : List Set1) {l : List Var} : ∀ k, k ≤ l.length → sumN wish (l.take k) ≤ k * wish.length := by
  intro k
  induction k with
  | zero => intro _; simp [sumN]
  | succ k ih =>
    intro hk
    rw [sumN_snoc wish (by omega), Nat.succ_mul]
    exact Nat.add_le_add (ih (by omega)) (nm_le _ _)
theorem prodC_le (wish : List Set1) {l : List Var} (h : mayB l = true) : ∀ k, k ≤ l.length → prodC wish (l.take k) ≤ 4 ^ k := by
  intro k
  induction k with
  | zero => intro _; simp [prodC]
  | succ k ih =>
    intro hk
    rw [prodC_snoc wish (by omega), Nat.pow_succ]
    exact Nat.mul_le_mul (ih (by omega)) (Nat.le_trans (cnt_le _ _) (mayB_vals h (by omega)).2)

/-- The rows of which nothing that is wished is otherwise. -/
def okrow (wish s : List Set1) : Bool := s.all fun t => okval wish t.1 t.2
theorem count_step (wish : List Set1) (rows : List (List Set1)) (v : Var) : (stepR rows v).countP (okrow wish) = rows.countP (okrow wish) * cntV wish v := by
  unfold stepR cntV
  induction v.2 with
  | nil => simp
  | cons y r ih =>
    rw [List.flatMap_cons, List.countP_append, ih, List.countP_cons, List.countP_map]
    have e : ∀ z, (okrow wish ∘ fun x => x ++ [(v.1, y)]) z = (okrow wish z && okval wish v.1 y) := by
      intro z; simp [okrow, Function.comp]
    cases h : okval wish v.1 y with
    | true =>
      have e2 : (okrow wish ∘ fun x => x ++ [(v.1, y)]) = okrow wish := by funext z; rw [e, h, Bool.and_true]
      rw [e2]; simp only [if_true, Nat.mul_add, Nat.mul_one]; omega
    | false =>
      have e2 : (okrow wish ∘ fun x => x ++ [(v.1, y)]) = fun _ => false := by funext z; rw [e, h, Bool.and_false]
      rw [e2]; simp
theorem count_fold (wish : List Set1) : ∀ (l : List Var) (rows : List (List Set1)), (l.foldl stepR rows).countP (okrow wish) = rows.countP (okrow wish) * prodC wish l
  | [], rows => by simp [prodC]
  | v :: r, rows => by rw [List.foldl_cons, count_fold wish r, count_step]; simp only [prodC]; rw [Nat.mul_assoc]
theorem count_all (wish : List Set1) (l : List Var) : (foldR l).countP (okrow wish) = prodC wish l := by
  unfold foldR; rw [count_fold]; simp [okrow]

/-- The names of a row are the variants'. -/
theorem fold_names : ∀ (l : List Var) (rows : List (List Set1)) (s : List Set1), s ∈ l.foldl stepR rows → ∃ r ∈ rows, s.map (·.1) = r.map (·.1) ++ l.map (·.1)
  | [], rows, s, h => ⟨s, h, by simp⟩
  | v :: r, rows, s, h => by
    rw [List.foldl_cons] at h
    obtain ⟨z, hz, e⟩ := fold_names r _ s h
    unfold stepR at hz
    rw [List.mem_flatMap] at hz
    obtain ⟨y, _, hz⟩ := hz
    rw [List.mem_map] at hz
    obtain ⟨q, hq, rfl⟩ := hz
    exact ⟨q, hq, by rw [e]; simp⟩
theorem all_names {l : List Var} {s : List Set1} (h : s ∈ foldR l) : s.map (·.1) = l.map (·.1) := by
  obtain ⟨r, hr, e⟩ := fold_names l [[]] s h
  simp at hr; subst hr; simpa using e

theorem hasN_iff {l : List Var} {x : ByteArray} : hasN l x = true ↔ x ∈ l.map (·.1) := by
  unfold hasN
  rw [List.any_eq_true, List.mem_map]
  exact ⟨fun ⟨v, hv, e⟩ => ⟨v, hv, eqS_iff.1 e⟩, fun ⟨v, hv, e⟩ => ⟨v, hv, eqS_iff.2 e⟩⟩

theorem mayB_names {l : List Var} (h : mayB l = true) {k : Nat} (hk : k < l.length) : hasN (l.take k) (nthV l k).1 = false := by
  unfold mayB at h
  rw [Bool.and_eq_true, List.all_eq_true] at h
  have := h.2 k (by simpa using hk)
  rw [Bool.and_eq_true] at this
  simpa using this.2
theorem names_nodup {l : List Var} (h : mayB l = true) : ∀ k, k ≤ l.length → ((l.take k).map (·.1)).Nodup := by
  intro k
  induction k with
  | zero => intro _; simp
  | succ k ih =>
    intro hk
    rw [List.take_succ_eq_append_getElem (by omega), List.map_append, List.nodup_append]
    refine ⟨ih (by omega), by simp, fun a ha b hb => ?_⟩
    simp only [List.map_cons, List.map_nil, List.mem_singleton] at hb
    subst hb
    intro e
    have hn := mayB_names h (k := k) (by omega)
    rw [nthV_lt (by omega)] at hn
    have : hasN (l.take k) l[k].1 = true := hasN_iff.2 (e ▸ ha)
    rw [hn] at this
    cases this

theorem countP_or {α : Type} (p q : α → Bool) : ∀ (l : List α), (∀ x ∈ l, ¬ (p x = true ∧ q x = true)) → l.countP (fun x => p x || q x) = l.countP p + l.countP q
  | [], _ => by simp
  | a :: r, h => by
    have ih := countP_or p q r (fun x hx => h x (by simp [hx]))
    have ha := h a (by simp)
    rw [List.countP_cons, List.countP_cons, List.countP_cons, ih]
    cases hp : p a <;> cases hq : q a <;> simp [hp, hq] at ha ⊢ <;> omega
theorem sum_count {l : List Var} (h : mayB l = true) (wish : List Set1) : ∀ k, k ≤ l.length → sumN wish (l.take k) = wish.countP fun x => hasN (l.take k) x.1 := by
  intro k
  induction k with
  | zero => intro _; simp [sumN, hasN]
  | succ k ih =>
    intro hk
    rw [sumN_snoc wish (by omega), ih (by omega)]
    unfold nmV
    rw [← countP_or]
    · congr 1
      funext x
      unfold hasN
      rw [any_snocV (by omega), eqS_comm x.1]
    · intro x _ ⟨h1, h2⟩
      have e := eqS_iff.1 h2
      rw [e, mayB_names h (by omega)] at h1
      cases h1

theorem hasT_iff {s : List Set1} {x : Set1} : hasT s x = true ↔ x ∈ s := by
  unfold hasT eqT
  rw [List.any_eq_true]
  refine ⟨fun ⟨t, ht, e⟩ => ?_, fun hx => ⟨x, hx, by rw [eqS_iff.2 rfl, eqS_iff.2 rfl]; rfl⟩⟩
  rw [Bool.and_eq_true, eqS_iff, eqS_iff] at e
  have : x = t := Prod.ext e.1 e.2
  rw [this]; exact ht

theorem nodup_snd {s : List Set1} (h : (s.map (·.1)).Nodup) {a b : Set1} (ha : a ∈ s) (hb : b ∈ s) (e : a.1 = b.1) : a = b := by
  induction s with
  | nil => cases ha
  | cons x r ih =>
    simp only [List.map_cons, List.nodup_cons] at h
    rcases List.mem_cons.1 ha with rfl | ha' <;> rcases List.mem_cons.1 hb with rfl | hb'
    · rfl
    · exact absurd (List.mem_map.2 ⟨b, hb', e.symm⟩) h.1
    · exact absurd (List.mem_map.2 ⟨a, ha', e⟩) h.1
    · exact ih h.2 ha' hb'

theorem many {l : List Var} (h : mayB l = true) (wish : List Set1) : (allB l).countP (fun s => meetsB s wish) = if sumN wish l < wish.length then 0 else prodC wish l := by
  have hs := sum_count h wish l.length (Nat.le_refl _)
  have hnd := names_nodup h l.length (Nat.le_refl _)
  rw [List.take_length] at hs hnd
  unfold allB
  rw [if_pos h]
  split
  · rename_i hlt
    rw [List.countP_eq_zero]
    intro s hm hmeet
    -- some wish has a name that no variant has
    have : ¬ ∀ x ∈ wish, hasN l x.1 = true := by
      intro hall
      have : wish.countP (fun x => hasN l x.1) = wish.length := List.countP_eq_length.2 hall
      omega
    apply this
    intro x hx
    unfold meetsB at hmeet
    have := List.all_eq_true.1 hmeet x hx
    have hxs := hasT_iff.1 this
    rw [hasN_iff, ← all_names hm]
    exact List.mem_map.2 ⟨x, hxs, rfl⟩
  · rename_i hge
    rw [← count_all wish l]
    have hall : ∀ x ∈ wish, hasN l x.1 = true := by
      have h1 : wish.countP (fun x => hasN l x.1) = wish.length := by
        have := List.countP_le_length (p := fun x : Set1 => hasN l x.1) (l := wish)
        omega
      exact List.countP_eq_length.1 h1
    refine List.countP_congr fun s hm => ?_
    have hn := all_names hm
    have hnd' : (s.map (·.1)).Nodup := by rw [hn]; exact hnd
    unfold meetsB okrow okval
    rw [List.all_eq_true, List.all_eq_true]
    constructor
    · intro hmeet t ht
      rw [List.all_eq_true]
      intro x hx
      unfold okx
      cases he : eqS x.1 t.1 with
      | false => rfl
      | true =>
        have hxs := hasT_iff.1 (hmeet x hx)
        have := nodup_snd hnd' hxs ht (eqS_iff.1 he)
        rw [this, eqS_iff.2 rfl]; rfl
    · intro hok x hx
      have h1 := hasN_iff.1 (hall x hx)
      rw [← hn, List.mem_map] at h1
      obtain ⟨t, ht, e⟩ := h1
      have h2 := List.all_eq_true.1 (hok t ht) x hx
      unfold okx at h2
      rw [eqS_iff.2 e.symm] at h2
      simp at h2
      have h3 := eqS_iff.1 h2
      have : x = t := Prod.ext e.symm h3
      rw [this]; exact hasT_iff.2 ht

end Go.Proofs.Ytbdceeecngibmaa.Va
