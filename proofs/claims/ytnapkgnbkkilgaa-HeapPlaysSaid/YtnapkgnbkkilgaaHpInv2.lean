/- What Bump, Push and Pop make of a heap, as plain lists. -/
import Derived.Test.YtnapkgnbkkilgaaHpInv
import Derived.Test.YtnapkgnbkkilgaaHpOps
namespace Go.Proofs.Ytnapkgnbkkilgaa.Hp

theorem at_dropLast {l : List Nat} {p : Nat} (h : p + 1 < l.length) : at' l.dropLast p = at' l p := by
  unfold at'
  rw [List.getD_eq_getElem?_getD, List.getD_eq_getElem?_getD, List.getElem?_dropLast, if_pos (by omega)]

theorem at_append {l : List Nat} {a p : Nat} : at' (l ++ [a]) p = if p < l.length then at' l p else if p = l.length then a else 0 := by
  unfold at'
  rw [List.getD_eq_getElem?_getD, List.getD_eq_getElem?_getD, List.getElem?_append]
  split
  · rfl
  · split
    · subst_vars; simp
    · rw [List.getElem?_eq_none (by simp; omega)]; rfl

theorem at_swR {row : List Nat} {p q r : Nat} (hp : p < row.length) (hq : q < row.length) : at' (swR row p q) r = if r = q then at' row p else if r = p then at' row q else at' row r := by
  unfold swR
  rw [at_set (by simp; omega), at_set (by omega)]

theorem mem_at {l : List Nat} {a : Nat} (h : a ∈ l) : ∃ p, p < l.length ∧ at' l p = a := by
  obtain ⟨p, hp, e⟩ := List.getElem_of_mem h
  refine ⟨p, hp, ?_⟩
  have := at_get hp
  rw [List.getElem?_eq_getElem hp, e] at this
  exact (Option.some.inj this).symm

theorem snoc_of {l : List Nat} (h : 0 < l.length) : l = l.dropLast ++ [at' l (l.length - 1)] := by
  have hne : l ≠ [] := by rintro rfl; simp at h
  conv => lhs; rw [← List.dropLast_concat_getLast hne]
  congr 2
  rw [List.getLast_eq_getElem]
  have := at_get (l := l) (p := l.length - 1) (by omega)
  rw [List.getElem?_eq_getElem (by omega)] at this
  exact Option.some.inj this

theorem pop_inv {sc row pl : List Nat} (h : Inv sc row pl) (h1 : 1 ≤ row.length) : Inv sc (popRow sc row pl).1 (popRow sc row pl).2 ∧ row.Perm (at' row 0 :: (popRow sc row pl).1) := by
  obtain ⟨hv, hp, ho⟩ := h
  obtain ⟨n, hn⟩ : ∃ n, row.length = n + 1 := ⟨row.length - 1, by omega⟩
  have e0 : row.length - 1 = n := by omega
  have hv1 := hv.swap (p := 0) (q := n) (by omega) (by omega)
  have hp1 := hp.swap hv (p := 0) (q := n) (by omega) (by omega)
  have l1 : (swR row 0 n).length = n + 1 := by rw [swR_length, hn]
  have el1 : at' (swR row 0 n) n = at' row 0 := by rw [at_swR (by omega) (by omega), if_pos rfl]
  have hs : swR row 0 n = (swR row 0 n).dropLast ++ [at' row 0] := by
    have := snoc_of (l := swR row 0 n) (by omega)
    rw [l1, Nat.add_sub_cancel, el1] at this
    exact this
  have l2 : (swR row 0 n).dropLast.length = n := by rw [List.length_dropLast, l1]; omega
  have hv2 : Valid sc (swR row 0 n).dropLast := ⟨fun x hx => hv1.1 x ((List.dropLast_sublist _).subset hx), hv1.2.sublist (List.dropLast_sublist _)⟩
  have la : at' row 0 < (swP row pl 0 n).length := by rw [swP_length, hp.1]; exact hv.at_lt h1
  have hp2 : Pla sc (swR row 0 n).dropLast ((swP row pl 0 n).set (at' row 0) 0) := by
    refine ⟨by rw [List.length_set]; exact hp1.1, ?_, ?_⟩
    · intro p hpl
      rw [l2] at hpl
      rw [at_dropLast (by omega), at_set la, if_neg]
      · exact hp1.2.1 p (by omega)
      · rw [← el1]; exact hv1.at_ne (by omega) (by omega) (by omega)
    · intro a ha hna
      rw [at_set la]
      by_cases e : a = at' row 0
      · rw [if_pos e]
      · rw [if_neg e]
        refine hp1.2.2 a ha (fun hm => ?_)
        rw [hs] at hm
        rcases List.mem_append.1 hm with hm | hm
        · exact hna hm
        · exact e (by simpa using hm)
  have hd : DownInv sc (swR row 0 n).dropLast 1 := by
    refine ⟨?_, fun _ _ _ _ h => absurd h (by omega)⟩
    intro c c1 c2 c3
    rw [l2] at c2
    unfold el
    rw [at_dropLast (by omega), at_dropLast (by omega), at_swR (by omega) (by omega), at_swR (by omega) (by omega), if_neg (by omega), if_neg (by omega), if_neg (by omega), if_neg (by omega)]
    exact ho c c1 (by omega)
  have hS := down_same hv2 hp2 (k := 1) (Nat.le_refl _)
  have hpr : popRow sc row pl = downF sc (swR row 0 n).dropLast ((swP row pl 0 n).set (at' row 0) 0) 1 := by unfold popRow; rw [e0]
  rw [hpr]
  refine ⟨⟨hS.2.1, hS.2.2, downF_ord sc _ 1 _ _ (Nat.le_refl _) (Nat.le_refl _) hd⟩, ?_⟩
  have q1 : row.Perm (swR row 0 n) := (swR_perm (by omega) (by omega)).symm
  rw [hs] at q1
  exact q1.trans ((List.perm_append_comm).trans ((List.Perm.cons _ hS.1.symm)))

/-- What a bump makes of the row and its places. -/
def bumped (sc row pl : List Nat) (z : Nat) : List Nat × List Nat := if 0 < z then upF sc row pl z else (row, pl)

theorem bump_inv {sc row pl : List Nat} (h : Inv sc row pl) {a d : Nat} (ha : a < sc.length) :
    Inv (sc.set a (at' sc a + d)) (bumped (sc.set a (at' sc a + d)) row pl (at' pl a)).1 (bumped (sc.set a (at' sc a + d)) row pl (at' pl a)).2 ∧ (bumped (sc.set a (at' sc a + d)) row pl (at' pl a)).1.Perm row := by
  obtain ⟨hv, hp, ho⟩ := h
  have A : ∀ b, at' (sc.set a (at' sc a + d)) b = if b = a then at' sc a + d else at' sc b := fun b => at_set ha
  have hv' : Valid (sc.set a (at' sc a + d)) row := ⟨fun x hx => by simpa using hv.1 x hx, hv.2⟩
  have hp' : Pla (sc.set a (at' sc a + d)) row pl := ⟨by simpa using hp.1, hp.2.1, fun b hb => hp.2.2 b (by simpa using hb)⟩
  unfold bumped
  by_cases hz : 0 < at' pl a
  · rw [if_pos hz]
    have hm : a ∈ row := by
      rcases Classical.em (a ∈ row) with h | h
      · exact h
      · have := hp.2.2 a ha h; omega
    obtain ⟨p, hpl, hpe⟩ := mem_at hm
    have hz2 : at' pl a = p + 1 := by rw [← hpe]; exact hp.2.1 p hpl
    rw [hz2]
    have ne : ∀ c, 1 ≤ c → c ≤ row.length → c ≠ p + 1 → el row c ≠ a := fun c c1 c2 c3 => by rw [← hpe]; exact hv.at_ne (by omega) hpl (by omega)
    have hu : UpInv (sc.set a (at' sc a + d)) row (p + 1) := by
      constructor
      · intro c c1 c2 c3
        have n1 := ne c (by omega) c2 c3
        have h0 := ho c c1 c2
        unfold Lt at h0 ⊢
        rw [A, A, if_neg n1]
        by_cases e : el row (c / 2) = a
        · rw [if_pos e]; rw [e] at h0; rw [e]; omega
        · rw [if_neg e]; exact h0
      · intro c c1 c2 c3 c4
        have n1 := ne c (by omega) c2 (by omega)
        have n2 := ne ((p + 1) / 2) (by omega) (by omega) (by omega)
        have h0 := ho c c1 c2
        have h3 := ho (p + 1) c4 (by omega)
        rw [c3] at h0
        have h4 := Lt.ntrans h0 h3
        unfold Lt at h4 ⊢
        rw [A, A, if_neg n1, if_neg n2]
        exact h4
    have hS := up_same hv' hp' (k := p + 1) (by omega)
    exact ⟨⟨hS.2.1, hS.2.2, upF_ord _ (p + 1) row pl (by omega) (by omega) hu⟩, hS.1⟩
  · rw [if_neg hz]
    refine ⟨⟨hv', hp', ?_⟩, List.Perm.refl _⟩
    have ne : ∀ c, 1 ≤ c → c ≤ row.length → el row c ≠ a := by
      intro c c1 c2 e
      have := hp.2.1 (c - 1) (by omega)
      unfold el at e
      rw [e] at this
      omega
    intro c c1 c2'
    have c2 : c ≤ row.length := c2'
    have h0 := ho c c1 c2
    unfold Lt at h0 ⊢
    rw [A, A, if_neg (ne c (by omega) c2), if_neg (ne (c / 2) (by omega) (by omega))]
    exact h0

theorem push_inv {sc row pl : List Nat} (h : Inv sc row pl) {a : Nat} (ha : a < sc.length) (hn : a ∉ row) :
    Inv sc (upF sc (row ++ [a]) (pl.set a (row.length + 1)) (row.length + 1)).1 (upF sc (row ++ [a]) (pl.set a (row.length + 1)) (row.length + 1)).2 ∧
      (upF sc (row ++ [a]) (pl.set a (row.length + 1)) (row.length + 1)).1.Perm (row ++ [a]) := by
  obtain ⟨hv, hp, ho⟩ := h
  have la : a < pl.length := by rw [hp.1]; exact ha
  have hv' : Valid sc (row ++ [a]) := by
    refine ⟨fun x hx => ?_, ?_⟩
    · rcases List.mem_append.1 hx with hx | hx
      · exact hv.1 x hx
      · rw [List.mem_singleton.1 hx]; exact ha
    · rw [List.nodup_append]
      refine ⟨hv.2, by simp, ?_⟩
      intro x hx y hy
      rw [List.mem_singleton.1 hy]
      rintro rfl
      exact hn hx
  have hp' : Pla sc (row ++ [a]) (pl.set a (row.length + 1)) := by
    refine ⟨by simpa using hp.1, ?_, ?_⟩
    · intro p hpl
      rw [List.length_append, List.length_singleton] at hpl
      rw [at_append, at_set la]
      by_cases e : p < row.length
      · rw [if_pos e, if_neg (fun e2 => hn (by rw [← e2]; exact at_mem e))]
        exact hp.2.1 p e
      · obtain rfl : p = row.length := by omega
        simp
    · intro b hb hnb
      rw [at_set la, if_neg (fun e => hnb (by rw [e]; simp))]
      exact hp.2.2 b hb (fun hm => hnb (by simp [hm]))
  have hu : UpInv sc (row ++ [a]) (row.length + 1) := by
    constructor
    · intro c c1 c2 c3
      rw [List.length_append, List.length_singleton] at c2
      unfold el
      rw [at_append, at_append, if_pos (by omega), if_pos (by omega)]
      exact ho c c1 (by omega)
    · intro c c1 c2 c3 c4
      rw [List.length_append, List.length_singleton] at c2
      omega
  have hS := up_same hv' hp' (k := row.length + 1) (by simp)
  exact ⟨⟨hS.2.1, hS.2.2, upF_ord _ _ _ _ (by omega) (by simp) hu⟩, hS.1⟩

/-- A new heap. -/
theorem new_inv (n : Nat) : Inv (List.replicate (n + 1) 0) (List.range' 1 n) (List.range (n + 1)) := by
  have hr : ∀ p, p < n → at' (List.range' 1 n) p = p + 1 := fun p hp => by
    unfold at'
    rw [List.getD_eq_getElem?_getD, List.getElem?_range' (by omega)]
    simp; omega
  refine ⟨⟨fun x hx => ?_, List.nodup_range'⟩, ⟨by simp, ?_, ?_⟩, ?_⟩
  · simp at hx ⊢; omega
  · intro p hp
    simp at hp
    rw [hr p hp]
    unfold at'
    rw [List.getD_eq_getElem?_getD, List.getElem?_range (by omega)]
    rfl
  · intro a ha hna
    simp at ha hna
    obtain rfl : a = 0 := by omega
    unfold at'
    rw [List.getD_eq_getElem?_getD, List.getElem?_range (by omega)]
    rfl
  · intro k k1 k2
    simp at k2
    have z : ∀ b, at' (List.replicate (n + 1) 0) b = 0 := fun b => by
      unfold at'; simp [List.getD_eq_getElem?_getD, List.getElem?_replicate]; split <;> rfl
    unfold Lt el
    rw [z, z, hr _ (by omega), hr _ (by omega)]
    omega

end Go.Proofs.Ytnapkgnbkkilgaa.Hp
