/- A recipe's first problem. -/
import Derived.Test.YtaahdhpljlkfjaaGreatZg48
namespace Go.Proofs.YtaahdhpljlkfjaaGreat.Rc
open Go.RowKit

theorem recProb_many {x : Rec} (h : 24 < x.pkgs.length) : recProb x = (1, (nth x.pkgs 24).line) := by unfold recProb; rw [if_pos h]
theorem recProb_prefs {x : Rec} (h : ¬ 24 < x.pkgs.length) (h2 : 8 < x.prefs.length) : recProb x = (1, (nth x.prefs 8).line) := by unfold recProb; rw [if_neg h, if_pos h2]
theorem recProb_one {x : Rec} (h : ¬ 24 < x.pkgs.length) (h2 : ¬ 8 < x.prefs.length) : recProb x = recProb1 x := by unfold recProb; rw [if_neg h, if_neg h2]
theorem recProb1_hit {x : Rec} {k : Nat} {c : Int} (hk : k < x.pkgs.length) (h0 : ∀ j, j < k → pkgCode x j = 0) (hc : pkgCode x k = c) (hn : ¬ c = 0) : recProb1 x = (c, (nth x.pkgs k).line) := by
  have hr : k < (List.range x.pkgs.length).length := by simpa using hk
  have h1 : (pkgProb x (nth (List.range x.pkgs.length) k)).1 ≠ 0 := by rw [nth_range hk]; show pkgCode x k ≠ 0; rw [hc]; exact hn
  have e := firstP_hit (f := pkgProb x) hr (fun j hj => by rw [nth_range (by omega)]; exact h0 j hj) h1
  unfold recProb1
  rw [e, if_pos h1, nth_range hk]
  exact Prod.ext hc rfl
theorem recProb1_no {x : Rec} (h : ∀ j, j < x.pkgs.length → pkgCode x j = 0) : recProb1 x = recProb2 x := by
  have e := firstP_miss (f := pkgProb x) (l := List.range x.pkgs.length) (fun j hj => by rw [List.length_range] at hj; rw [nth_range hj]; exact h j hj)
  unfold recProb1
  rw [e, if_neg (by simp)]
theorem recProb2_hit {x : Rec} {k : Nat} {r : Int × Int} (hk : k < x.pkgs.length) (h0 : ∀ j, j < k → (ruleProb x (nth x.pkgs j)).1 = 0) (hc : ruleProb x (nth x.pkgs k) = r) (hn : ¬ r.1 = 0) : recProb2 x = r := by
  have h1 : (ruleProb x (nth x.pkgs k)).1 ≠ 0 := by rw [hc]; exact hn
  have e := firstP_hit hk h0 h1
  unfold recProb2
  rw [e, if_pos h1, hc]
theorem recProb2_no {x : Rec} (h : ∀ j, j < x.pkgs.length → (ruleProb x (nth x.pkgs j)).1 = 0) : recProb2 x = recProb3 x := by
  unfold recProb2
  rw [firstP_miss h, if_neg (by simp)]
theorem recProb3_hit {x : Rec} {k : Nat} (hk : k < x.prefs.length) (h0 : ∀ j, j < k → preferB x j = true) (hc : preferB x k = false) : recProb3 x = (10, (nth x.prefs k).line) := by
  have hr : k < (List.range x.prefs.length).length := by simpa using hk
  have h1 : (prefProb x (nth (List.range x.prefs.length) k)).1 ≠ 0 := by rw [nth_range hk]; unfold prefProb; rw [hc]; simp
  have e := firstP_hit (f := prefProb x) hr (fun j hj => by rw [nth_range (by omega)]; unfold prefProb; rw [h0 j hj]; rfl) h1
  unfold recProb3
  rw [e, nth_range hk]
  unfold prefProb; rw [hc]; rfl
theorem recProb3_no {x : Rec} (h : ∀ j, j < x.prefs.length → preferB x j = true) : recProb3 x = (0, 0) :=
  firstP_miss (f := prefProb x) (l := List.range x.prefs.length) (fun j hj => by rw [List.length_range] at hj; rw [nth_range hj]; unfold prefProb; rw [h j hj]; rfl)
end Go.Proofs.YtaahdhpljlkfjaaGreat.Rc

/- A request's first problem. -/
namespace Go.Proofs.YtaahdhpljlkfjaaGreat.Rc
open Go.RowKit

def rootProb (x : Rec) (r : Root) : Int × Int := (wishCode x r.spec, r.line)
def reqProb (x : Rec) (q : List Root) : Int × Int := if q.length = 0 then (11, 0) else if 8 < q.length then (1, (nth q 8).line) else firstP (rootProb x) q
theorem reqProb_nil {x : Rec} {q : List Root} (h : q.length = 0) : reqProb x q = (11, 0) := by unfold reqProb; rw [if_pos h]
theorem reqProb_many {x : Rec} {q : List Root} (h : 8 < q.length) : reqProb x q = (1, (nth q 8).line) := by unfold reqProb; rw [if_neg (by omega), if_pos h]
theorem reqProb_few {x : Rec} {q : List Root} (h : ¬ q.length = 0) (h2 : ¬ 8 < q.length) : reqProb x q = firstP (rootProb x) q := by unfold reqProb; rw [if_neg h, if_neg h2]

end Go.Proofs.YtaahdhpljlkfjaaGreat.Rc
