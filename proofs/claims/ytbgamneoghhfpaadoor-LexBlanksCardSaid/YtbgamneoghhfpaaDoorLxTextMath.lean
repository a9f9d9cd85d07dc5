/- The text of lines, plainly. -/
import Derived.Test.YtbgamneoghhfpaaDoorLxMem
namespace Go.Proofs.YtbgamneoghhfpaaDoor.Lx

/-- The first k words of a line, a blank between. -/
def joinTo (ws : List Word) : Nat → Bs
  | 0 => []
  | k + 1 => joinTo ws k ++ (if k = 0 then [] else [32]) ++ (nthW ws k).2.data.toList
/-- The first k lines as a text. -/
def textTo (ls : List Line) : Nat → Bs
  | 0 => []
  | k + 1 => textTo ls k ++ joinTo (nthL ls k).2 (nthL ls k).2.length ++ [10]
def textS (ls : List Line) : Bs := textTo ls ls.length

theorem joinTo_succ (ws : List Word) (k : Nat) : joinTo ws (k + 1) = joinTo ws k ++ (if k = 0 then [] else [32]) ++ (nthW ws k).2.data.toList := rfl
theorem textTo_succ (ls : List Line) (k : Nat) : textTo ls (k + 1) = textTo ls k ++ joinTo (nthL ls k).2 (nthL ls k).2.length ++ [10] := rfl
theorem joinTo_mono (ws : List Word) : ∀ n k, k ≤ n → (joinTo ws k).length ≤ (joinTo ws n).length
  | 0, k, h => by obtain rfl : k = 0 := by omega
                  exact Nat.le_refl _
  | n + 1, k, h => by
    by_cases e : k = n + 1
    · subst e; exact Nat.le_refl _
    · have := joinTo_mono ws n k (by omega)
      rw [joinTo_succ]; simp only [List.length_append]; omega
theorem textTo_mono (ls : List Line) : ∀ n k, k ≤ n → (textTo ls k).length ≤ (textTo ls n).length
  | 0, k, h => by obtain rfl : k = 0 := by omega
                  exact Nat.le_refl _
  | n + 1, k, h => by
    by_cases e : k = n + 1
    · subst e; exact Nat.le_refl _
    · have := textTo_mono ls n k (by omega)
      rw [textTo_succ]; simp only [List.length_append]; omega
/-- What is written in a round is no longer than the whole. -/
theorem text_room (ls : List Line) {k j : Nat} (hk : k < ls.length) (hj : j ≤ (nthL ls k).2.length) :
    (textTo ls k ++ joinTo (nthL ls k).2 j).length + 1 ≤ (textS ls).length := by
  have h1 := textTo_mono ls ls.length (k + 1) (by omega)
  have h2 := joinTo_mono (nthL ls k).2 _ j hj
  rw [textTo_succ] at h1
  unfold textS
  simp only [List.length_append, List.length_cons, List.length_nil] at h1 ⊢
  omega
end Go.Proofs.YtbgamneoghhfpaaDoor.Lx
