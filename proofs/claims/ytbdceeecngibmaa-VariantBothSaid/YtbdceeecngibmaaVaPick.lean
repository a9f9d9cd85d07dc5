/- Plain mathematics: the i-th of all settings. -/
import Derived.Test.YtbdceeecngibmaaVaLegal
import Derived.Test.YtbdceeecngibmaaVaFixed
namespace Go.Proofs.Ytbdceeecngibmaa.Va
open Go.RowKit

def prodV : List Var → Nat
  | [] => 1
  | v :: r => v.2.length * prodV r
def pick : List Var → Nat → List Set1
  | [], _ => []
  | v :: r, i => (v.1, nthS v.2 (i % v.2.length)) :: pick r (i / v.2.length)

theorem pick_len : ∀ (l : List Var) (i : Nat), (pick l i).length = l.length
  | [], _ => rfl
  | v :: r, i => by simp [pick, pick_len r]

theorem nthG_app_left {a b : List (List Set1)} {i : Nat} (h : i < a.length) : nthG (a ++ b) i = nthG a i := by unfold nthG; rw [List.getElem?_append_left h]
theorem nthG_app_right {a b : List (List Set1)} {i : Nat} (h : a.length ≤ i) : nthG (a ++ b) i = nthG b (i - a.length) := by unfold nthG; rw [List.getElem?_append_right h]
theorem nthG_map {a : List (List Set1)} {f : List Set1 → List Set1} {i : Nat} (h : i < a.length) : nthG (a.map f) i = f (nthG a i) := by
  unfold nthG; rw [List.getElem?_map, List.getElem?_eq_getElem h]; rfl

theorem step_get (rows : List (List Set1)) (a : ByteArray) (h0 : 0 < rows.length) : ∀ (vs : List ByteArray) (m : Nat), m < vs.length * rows.length →
    nthG (vs.flatMap fun x => rows.map (· ++ [(a, x)])) m = nthG rows (m % rows.length) ++ [(a, nthS vs (m / rows.length))]
  | [], m, h => by simp at h
  | x :: r, m, h => by
    rw [List.flatMap_cons]
    by_cases hm : m < rows.length
    · rw [nthG_app_left (by simpa using hm), nthG_map hm, Nat.mod_eq_of_lt hm, Nat.div_eq_of_lt hm]
      rfl
    · have hm' : rows.length ≤ m := by omega
      rw [nthG_app_right (by simpa using hm'), List.length_map, step_get rows a h0 r (m - rows.length) (by rw [List.length_cons, Nat.succ_mul] at h; omega)]
      have e1 : (m - rows.length) % rows.length = m % rows.length := by
        conv => rhs; rw [show m = (m - rows.length) + rows.length by omega]
        rw [Nat.add_mod_right]
      have e2 : m / rows.length = (m - rows.length) / rows.length + 1 := by
        conv => lhs; rw [show m = (m - rows.length) + rows.length by omega]
        rw [Nat.add_div_right _ h0]
      rw [e1, e2]
      simp [nthS]

theorem step_len (rows : List (List Set1)) (v : Var) : (stepR rows v).length = v.2.length * rows.length := by
  unfold stepR
  exact flatMap_le _ _ (fun x => by simp) _

theorem fold_get : ∀ (l : List Var), (∀ v ∈ l, 0 < v.2.length) → ∀ (rows : List (List Set1)), 0 < rows.length →
    (l.foldl stepR rows).length = rows.length * prodV l ∧ ∀ i, i < rows.length * prodV l → nthG (l.foldl stepR rows) i = nthG rows (i % rows.length) ++ pick l (i / rows.length)
  | [], _, rows, h0 => by
    refine ⟨by simp [prodV], fun i hi => ?_⟩
    simp [prodV] at hi
    rw [Nat.mod_eq_of_lt hi]; simp [pick]
  | v :: r, h, rows, h0 => by
    have hv := h v (by simp)
    have hl := step_len rows v
    have hp : 0 < (stepR rows v).length := by rw [hl]; exact Nat.mul_pos hv h0
    obtain ⟨i1, i2⟩ := fold_get r (fun x hx => h x (by simp [hx])) (stepR rows v) hp
    have e : (stepR rows v).length * prodV r = rows.length * prodV (v :: r) := by
      rw [hl]; simp only [prodV]; rw [Nat.mul_comm v.2.length, Nat.mul_assoc]
    refine ⟨by rw [List.foldl_cons, i1, e], fun i hi => ?_⟩
    rw [List.foldl_cons, i2 i (by rw [e]; exact hi), hl]
    have hm : i % (v.2.length * rows.length) < v.2.length * rows.length := Nat.mod_lt _ (Nat.mul_pos hv h0)
    have hs := step_get rows v.1 h0 v.2 _ hm
    unfold stepR
    rw [hs]
    have e1 : i % (v.2.length * rows.length) % rows.length = i % rows.length := Nat.mod_mul_left_mod _ _ _
    have e2 : i % (v.2.length * rows.length) / rows.length = i / rows.length % v.2.length := Nat.mod_mul_left_div_self _ _ _
    have e3 : i / (v.2.length * rows.length) = i / rows.length / v.2.length := by rw [Nat.mul_comm, Nat.div_div_eq_div_mul]
    rw [e1, e2, e3, List.append_assoc]
    rfl

theorem mayB_pos {l : List Var} (h : mayB l = true) : ∀ v ∈ l, 0 < v.2.length := by
  intro v hv
  obtain ⟨j, hj, rfl⟩ := mem_nthV hv
  exact (mayB_vals h hj).1
theorem all_get {l : List Var} (h : mayB l = true) : (allB l).length = prodV l ∧ ∀ i, i < prodV l → nthG (allB l) i = pick l i := by
  unfold allB foldR
  rw [if_pos h]
  obtain ⟨h1, h2⟩ := fold_get l (mayB_pos h) [[]] (by simp)
  simp at h1 h2
  refine ⟨h1, fun i hi => ?_⟩
  rw [h2 i hi, Nat.mod_one]; simp [nthG]

theorem prod_app : ∀ (a b : List Var), prodV (a ++ b) = prodV a * prodV b
  | [], b => by simp [prodV]
  | v :: r, b => by simp only [List.cons_append, prodV]; rw [prod_app r b, Nat.mul_assoc]
theorem prod_snoc {l : List Var} {k : Nat} (hk : k < l.length) : prodV (l.take (k + 1)) = prodV (l.take k) * (nthV l k).2.length := by
  rw [List.take_succ_eq_append_getElem hk, prod_app, nthV_lt hk]; simp [prodV]
theorem prod_le {l : List Var} (h : mayB l = true) : ∀ k, k ≤ l.length → prodV (l.take k) ≤ 4 ^ k := by
  intro k
  induction k with
  | zero => intro _; simp [prodV]
  | succ k ih =>
    intro hk
    rw [prod_snoc (by omega), Nat.pow_succ]
    exact Nat.mul_le_mul (ih (by omega)) (mayB_vals h (by omega)).2
theorem pick_get : ∀ (l : List Var) (i j : Nat), j < l.length → nthT (pick l i) j = ((nthV l j).1, nthS (nthV l j).2 (i / prodV (l.take j) % (nthV l j).2.length))
  | [], _, _, h => by simp at h
  | v :: r, i, 0, _ => by simp [pick, nthT, nthV, prodV]
  | v :: r, i, j + 1, h => by
    have := pick_get r (i / v.2.length) j (by simpa using h)
    have e1 : nthT (pick (v :: r) i) (j + 1) = nthT (pick r (i / v.2.length)) j := by simp [pick, nthT]
    have e2 : nthV (v :: r) (j + 1) = nthV r j := by simp [nthV]
    rw [e1, e2, this, Nat.div_div_eq_div_mul]
    simp [prodV]
theorem pick_legal {l : List Var} (h : ∀ v ∈ l, 0 < v.2.length) (i : Nat) : legalB l (pick l i) = true := by
  unfold legalB
  rw [pick_len]
  simp only [decide_true, Bool.true_and]
  refine List.all_eq_true.2 fun j hj => ?_
  have hj' : j < l.length := by simpa using hj
  unfold legalP
  rw [pick_get l i j hj', eqS_iff.2 rfl, Bool.true_and]
  have hp := h _ (nthV_mem hj')
  exact any_atS (Nat.mod_lt _ hp) (eqS_iff.2 rfl)

theorem small_all {l : List Var} (h : SmallV l) : Small (allB l) := by
  unfold allB
  split
  · have := small_fold h l.length (Nat.le_refl _)
    rwa [List.take_length] at this
  · intro z hz; simp at hz

end Go.Proofs.Ytbdceeecngibmaa.Va
