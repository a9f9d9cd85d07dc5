/- span.Read; the chapter's example. -/
import Derived.Test.YtaahdhpljlkfjaaGreatZg19
import Derived.Deep.RegionHeld3
namespace Go.Proofs.YtaahdhpljlkfjaaGreat.Ver
open Go.RowKit

/-- The span of a text. -/
def sread (t : ByteArray) : ByteArray × ByteArray × Bool :=
  if Lib.indexB t ⟨#[58]⟩ = -1 then (if stext t t = t then (t, t, true) else (ByteArray.empty, ByteArray.empty, false))
  else if stext (t.extract 0 (Lib.indexB t ⟨#[58]⟩).toNat) (t.extract ((Lib.indexB t ⟨#[58]⟩).toNat + 1) t.size) = t
    then (t.extract 0 (Lib.indexB t ⟨#[58]⟩).toNat, t.extract ((Lib.indexB t ⟨#[58]⟩).toNat + 1) t.size, true) else (ByteArray.empty, ByteArray.empty, false)

end Go.Proofs.YtaahdhpljlkfjaaGreat.Ver

/- The chapter's example; SpanHas. -/
namespace Go.Proofs.YtaahdhpljlkfjaaGreat.Ver
open Go.RowKit

theorem keepS {w a b : World} {n : Nat} {lo hi : ByteArray} (h : Below a.heap.size a b) (s : a.cell? ⟨n, 0, none⟩ = some (.string lo) ∧ a.cell? ⟨n, 1, none⟩ = some (.string hi) ∧ Below w.heap.size w a) :
    b.cell? ⟨n, 0, none⟩ = some (.string lo) ∧ b.cell? ⟨n, 1, none⟩ = some (.string hi) ∧ Below w.heap.size w b :=
  ⟨(h.cell (World.block_lt_of_cell? a _ s.1)).trans s.1, (h.cell (World.block_lt_of_cell? a _ s.2.1)).trans s.2.1, s.2.2.trans (h.mono s.2.2.size)⟩
theorem keepD {w a : World} {n : Nat} {lo hi : ByteArray} (s : a.cell? ⟨n, 0, none⟩ = some (.string lo) ∧ a.cell? ⟨n, 1, none⟩ = some (.string hi) ∧ Below w.heap.size w a) :
    a.drew.cell? ⟨n, 0, none⟩ = some (.string lo) ∧ a.drew.cell? ⟨n, 1, none⟩ = some (.string hi) ∧ Below w.heap.size w a.drew := ⟨s.1, s.2.1, s.2.2.drew⟩

end Go.Proofs.YtaahdhpljlkfjaaGreat.Ver

/- SpanTexts. -/
namespace Go.Proofs.YtaahdhpljlkfjaaGreat.Ver
open Go.RowKit

/-- The document's text of a span that may be. -/
def rtext (lo hi : ByteArray) : ByteArray := if lo.data.toList.isEmpty = false ∧ lo = hi then lo else lo ++ ⟨#[58]⟩ ++ hi
theorem stext_may {lo hi : ByteArray} (h : smay lo.data.toList hi.data.toList = true) : stext lo hi = rtext lo hi := by unfold stext rtext; rw [if_pos h]
theorem stext_not {lo hi : ByteArray} (h : smay lo.data.toList hi.data.toList = false) : stext lo hi = ByteArray.empty := by unfold stext; rw [if_neg (by rw [h]; simp)]

end Go.Proofs.YtaahdhpljlkfjaaGreat.Ver
