/- What is wrong with a package's rules. -/
import Derived.Test.YtaahdhpljlkfjaaGreatZg11
namespace Go.Proofs.YtaahdhpljlkfjaaGreat.Rc
open Go.RowKit

theorem int_ne {c : Int} (h : ¬ c = 0) : (c == 0) = false ∧ (c != 0) = true := by simp [h]
theorem agg_ret {a b : Int} {r : Int × Int} (h : r = (a, b)) : Ending.returned (.agg #[.int .u8 a, .int .i64 b]) = .returned (.agg #[.int .u8 r.1, .int .i64 r.2]) := by rw [h]
theorem ruleProb_dep {x : Rec} {p : Pkg} {k : Nat} {c : Int} (hk : k < p.deps.length) (h0 : ∀ j, j < k → (depProb x p (nth p.deps j)).1 = 0) (hc : (depProb x p (nth p.deps k)).1 = c) (hn : ¬ c = 0) : ruleProb x p = (c, (nth p.deps k).line) := by
  have h1 : (depProb x p (nth p.deps k)).1 ≠ 0 := by rw [hc]; exact hn
  have e := firstP_hit hk h0 h1
  unfold ruleProb
  rw [e, if_pos h1]
  exact Prod.ext hc rfl
theorem ruleProb_con {x : Rec} {p : Pkg} {k : Nat} {c : Int} (hd : ∀ j, j < p.deps.length → (depProb x p (nth p.deps j)).1 = 0) (hk : k < p.cons.length) (h0 : ∀ j, j < k → (conProb x p (nth p.cons j)).1 = 0) (hc : (conProb x p (nth p.cons k)).1 = c) (hn : ¬ c = 0) : ruleProb x p = (c, (nth p.cons k).line) := by
  have h1 : (conProb x p (nth p.cons k)).1 ≠ 0 := by rw [hc]; exact hn
  have e := firstP_hit hk h0 h1
  unfold ruleProb
  rw [firstP_miss hd, if_neg (by simp), e]
  exact Prod.ext hc rfl
theorem ruleProb_no {x : Rec} {p : Pkg} (hd : ∀ j, j < p.deps.length → (depProb x p (nth p.deps j)).1 = 0) (hc : ∀ j, j < p.cons.length → (conProb x p (nth p.cons j)).1 = 0) : ruleProb x p = (0, 0) := by
  unfold ruleProb
  rw [firstP_miss hd, if_neg (by simp), firstP_miss hc]

end Go.Proofs.YtaahdhpljlkfjaaGreat.Rc

/- Whether what is preferred is right. -/
namespace Go.Proofs.YtaahdhpljlkfjaaGreat.Rc
open Go.RowKit

def virtIs (x : Pref) (s : ByteArray) : Bool := eqS x.virt s
end Go.Proofs.YtaahdhpljlkfjaaGreat.Rc
