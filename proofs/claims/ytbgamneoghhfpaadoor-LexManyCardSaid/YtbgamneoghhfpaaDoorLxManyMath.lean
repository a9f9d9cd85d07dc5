/- Many words in a line; many lines. -/
import Derived.Test.YtbgamneoghhfpaaDoorLxMath
namespace Go.Proofs.YtbgamneoghhfpaaDoor.Lx

/-- n words of a letter. -/
def rowB : Nat → ByteArray
  | 0 => ⟨#[]⟩
  | k + 1 => rowB k ++ ⟨#[97, 32]⟩
/-- n times an empty line and one with a word. -/
def allB : Nat → ByteArray
  | 0 => ⟨#[]⟩
  | k + 1 => allB k ++ ⟨#[10, 32, 98, 10]⟩
theorem rowB_size : ∀ k, (rowB k).size = 2 * k
  | 0 => rfl
  | k + 1 => by rw [rowB, ByteArray.size_append, rowB_size k]; show 2 * k + 2 = _; omega
theorem allB_size : ∀ k, (allB k).size = 4 * k
  | 0 => rfl
  | k + 1 => by rw [allB, ByteArray.size_append, allB_size k]; show 4 * k + 4 = _; omega

/-- A result, in numbers: the place, the error, how many lines, how many words in the first. -/
def sumR : Sum (Nat × Nat × Nat) (List Line) → Nat × Nat × Nat × Nat × Nat
  | .inl (a, c, x) => (a, c, x, 0, 0)
  | .inr ls => (0, 0, 0, ls.length, (ls.head?.map (·.2.length)).getD 0)
def rowWant (n : Nat) : Nat × Nat × Nat × Nat × Nat := if 40 < n then (1, 81, 4, 0, 0) else (0, 0, 0, if n = 0 then 0 else 1, n)
theorem row_all : ((List.range 50).all fun n => decide (sumR (lexS (rowB n)) = rowWant n)) = true := by decide +kernel
theorem row_sum {n : Nat} (h : n < 50) : sumR (lexS (rowB n)) = rowWant n := by
  have := List.all_eq_true.1 row_all n (List.mem_range.2 h)
  simpa using this

def allF : Nat → Bs
  | 0 => []
  | k + 1 => 10 :: 32 :: 98 :: 10 :: allF k
theorem allF_snoc : ∀ k, allF k ++ [10, 32, 98, 10] = allF (k + 1)
  | 0 => rfl
  | k + 1 => by
    have := allF_snoc k
    rw [allF, allF, ← this]; rfl
theorem allB_list : ∀ k, (allB k).data.toList = allF k
  | 0 => rfl
  | k + 1 => by
    rw [allB, ByteArray.data_append, Array.toList_append, allB_list k, ← allF_snoc]
theorem cut_allF (k : Nat) : cut 10 (allF (k + 1)) = [] :: [32, 98] :: cut 10 (allF k) := by
  simp [allF, cut]
theorem line_nil (most : Nat) : lineS most [] = .inr st0 := rfl
theorem mk_list (l : Bs) : (mk l).data.toList = l := by simp [mk]
theorem line_b0 : lineS 0 [32, 98] = .inl (2, 4) := by
  unfold lineS
  rw [runS_cons]
  have h1 : stepS 0 32 0 st0 = .inr st0 := by
    unfold stepS
    rw [if_neg (by decide), if_pos (by decide)]; rfl
  rw [h1]
  show runS 0 [98] 1 st0 = _
  rw [runS_cons]
  have h2 : stepS 0 98 1 st0 = .inl (2, 4) := by
    unfold stepS
    rw [if_neg (by decide), if_neg (by decide), if_neg (by decide), if_pos (by decide)]
  rw [h2]
def stb : St := ⟨[1], true, false⟩
theorem line_b : lineS 40 [32, 98] = .inr stb := by
  unfold lineS
  rw [runS_cons]
  have h1 : stepS 40 32 0 st0 = .inr st0 := by
    unfold stepS
    rw [if_neg (by decide), if_pos (by decide)]; rfl
  rw [h1]
  show runS 40 [98] 1 st0 = _
  rw [runS_cons]
  have h2 : stepS 40 98 1 st0 = .inr stb := by
    unfold stepS
    rw [if_neg (by decide), if_neg (by decide), if_neg (by decide), if_neg (by decide)]; rfl
  rw [h2]
  rfl
theorem linesS_two (p : ByteArray) (r : List ByteArray) (n : Nat) (out : List Line) : linesS (p :: r) n out = match lineS (if out.length = 2000 then 0 else 40) p.data.toList with
    | .inl (c, e) => .inl (n, c, e)
    | .inr st => linesS r (n + 1) (if st.cols.length = 0 then out else out ++ [(n, wordsB p st.cols)]) := rfl
theorem lines_all : ∀ (k n : Nat) (out : List Line), out.length ≤ 2000 →
    (out.length + k ≤ 2000 → ∃ ls, linesS (pieces (allF k)) n out = .inr ls ∧ ls.length = out.length + k) ∧
    (2000 < out.length + k → linesS (pieces (allF k)) n out = .inl (n + 2 * (2000 - out.length) + 1, 2, 4))
  | 0, n, out, h => ⟨fun _ => ⟨out, rfl, rfl⟩, fun h2 => by omega⟩
  | k + 1, n, out, h => by
    have e : pieces (allF (k + 1)) = mk [] :: mk [32, 98] :: pieces (allF k) := by unfold pieces; rw [cut_allF]; rfl
    have e1 : linesS (pieces (allF (k + 1))) n out = linesS (mk [32, 98] :: pieces (allF k)) (n + 1) out := by
      rw [e, linesS_two, mk_list, line_nil]
      rfl
    rw [e1, linesS_two, mk_list]
    by_cases h2 : out.length = 2000
    · rw [if_pos h2, line_b0]
      refine ⟨fun h3 => by omega, fun _ => ?_⟩
      show Sum.inl (n + 1, 2, 4) = _
      rw [h2]
    · rw [if_neg h2, line_b]
      obtain ⟨i1, i2⟩ := lines_all k (n + 1 + 1) (out ++ [(n + 1, wordsB (mk [32, 98]) stb.cols)]) (by simp; omega)
      simp only [List.length_append, List.length_cons, List.length_nil] at i1 i2
      refine ⟨fun h3 => ?_, fun h3 => ?_⟩
      · obtain ⟨ls, g1, g2⟩ := i1 (by omega)
        exact ⟨ls, g1, by omega⟩
      · refine (i2 (by omega)).trans ?_
        rw [show n + 1 + 1 + 2 * (2000 - (out.length + (0 + 1))) + 1 = n + 2 * (2000 - out.length) + 1 by omega]
theorem all_few {m : Nat} (h : m ≤ 2000) : ∃ ls, lexS (allB m) = .inr ls ∧ ls.length = m := by
  obtain ⟨ls, g1, g2⟩ := (lines_all m 1 [] (by simp)).1 (by simpa using h)
  refine ⟨ls, ?_, by simpa using g2⟩
  unfold lexS
  rw [if_neg (by rw [allB_size]; omega), allB_list]
  exact g1
theorem all_many {m : Nat} (h : 2000 < m) (h2 : m < 2010) : lexS (allB m) = .inl (4002, 2, 4) := by
  have := (lines_all m 1 [] (by simp)).2 (by simpa using h)
  unfold lexS
  rw [if_neg (by rw [allB_size]; omega), allB_list]
  exact this
end Go.Proofs.YtbgamneoghhfpaaDoor.Lx
