/-
  The reader of drawn bytes: what 'data' answers: some text of at most 600 bytes.
-/
import Derived.Test.YtpolplemjaibgaaText
namespace Go.Proofs.Ytpolplemjaibgaa
open Go.RowKit

theorem mk_size (l : List UInt8) : (⟨l.toArray⟩ : ByteArray).size = l.length := by simp [ByteArray.size]

end Go.Proofs.Ytpolplemjaibgaa
