/- span.Read; the chapter's example. -/
import Derived.Test.YtdijkekglaimfaaGreatSpan3
namespace Go.Proofs.YtdijkekglaimfaaGreat.Ver
open Go.RowKit

/-- The span of a text. -/
def sread (t : ByteArray) : ByteArray × ByteArray × Bool :=
  if Lib.indexB t ⟨#[58]⟩ = -1 then (if stext t t = t then (t, t, true) else (ByteArray.empty, ByteArray.empty, false))
  else if stext (t.extract 0 (Lib.indexB t ⟨#[58]⟩).toNat) (t.extract ((Lib.indexB t ⟨#[58]⟩).toNat + 1) t.size) = t
    then (t.extract 0 (Lib.indexB t ⟨#[58]⟩).toNat, t.extract ((Lib.indexB t ⟨#[58]⟩).toNat + 1) t.size, true) else (ByteArray.empty, ByteArray.empty, false)

end Go.Proofs.YtdijkekglaimfaaGreat.Ver
