/- clear over settings. -/
import Derived.Test.YtbdceeecngibmaaVaBothMath2
import Derived.Laws.IdiomCopy
namespace Go.Proofs.Ytbdceeecngibmaa.Va
open Go.RowKit

def zeroT (n : Nat) : List Value := (Builtin.zeroCells #[.string ⟨#[]⟩, .string ⟨#[]⟩] n).toList
theorem zeroT_len (n : Nat) : (zeroT n).length = 2 * n := by
  unfold zeroT Builtin.zeroCells
  simp; omega
theorem zeroT_one (n : Nat) : ∀ v ∈ zeroT n, v.oneCell' = true := by
  intro v hv
  unfold zeroT Builtin.zeroCells at hv
  simp at hv
  obtain ⟨i, hi, rfl⟩ := hv
  rcases Nat.mod_two_eq_zero_or_one i with e | e <;> simp [e] <;> rfl
theorem clear_settings (w : World) (ty : TypeId) (b o n c : Nat) (hn : 0 < n) (hc : ∀ j, j < 2 * n → (w.cell? ⟨b, o + j, none⟩).isSome = true) (hf : ∀ j, j < 2 * n → w.frozen? ⟨b, o + j, none⟩ = false) :
    (Builtin.clear_ #[25] ty #[.slice (some ⟨b, o, none⟩) n c]).run Try.prog w = .ok (.tuple #[]) (w.setCells b o (zeroT n)) := by
  have hst := run_storeCells_cells (P := Try.prog) b o (zeroT n) 0 w (by rw [zeroT_len]; simpa using hc) (by rw [zeroT_len]; simpa using hf) (zeroT_one n)
  simp only [Nat.add_zero] at hst
  obtain ⟨m, rfl⟩ : ∃ m, n = m + 1 := ⟨n - 1, by omega⟩
  have hz : ∀ w, (zeroValue 37).run Try.prog w = .ok (.agg #[.string ⟨#[]⟩, .string ⟨#[]⟩]) w := Try.zeroValue37
  unfold zeroT at hst ⊢
  have hcs : (Value.agg #[.string ⟨#[]⟩, .string ⟨#[]⟩]).cells = #[.string ⟨#[]⟩, .string ⟨#[]⟩] := rfl
  simp [Builtin.clear_, run_underlying Try.underlying25, hz, hcs, hst]
end Go.Proofs.Ytbdceeecngibmaa.Va
