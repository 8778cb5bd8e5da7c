
/- Plain facts about decimal numerals: how spec.FormatInt's two roads build Lib.itoa. -/
import Derived.Lib.ItoaNum
import Derived.Lib.AtoiAllCases
import Derived.Test.YtgbmacppgaopfabGreatLawKit
import Derived.Test.YtgbmacppgaopfabGreatProg
import Derived.ProofKit
import Derived.SizedLaws
import Derived.OpenShut
import Derived.SliceStrings
namespace Go.Proofs.YtgbmacppgaopfabGreat
set_option maxRecDepth 20000
open Go

/-- The text of one byte. -/
def one (v : Int) : ByteArray := ⟨[UInt8.ofNat v.toNat].toArray⟩
end Go.Proofs.YtgbmacppgaopfabGreat
namespace Go.Proofs.YtgbmacppgaopfabGreat
set_option maxRecDepth 20000
open Go

def inI (n : Int) : Prop := -9223372036854775808 ≤ n ∧ n ≤ 9223372036854775807
def allI (zs : List Int) : Prop := ∀ z ∈ zs, inI z
/-! What ends the reference's loop. t: what stands behind the sign. -/
end Go.Proofs.YtgbmacppgaopfabGreat
namespace Go.Proofs.YtgbmacppgaopfabGreat
set_option maxRecDepth 20000
open Go.ChangeShapes Go.WideShapes Go.ChangeAt Go.WideMaps Go.WideElems Go.RowKit

theorem laidOut : laidOutB Tryz.prog = true := by kernel_rfl
theorem addr_of {w : World} {a : Addr} {v : Value} (h : w.cell? a = some v) : ∃ b off, a = ⟨b, off, none⟩ := by
  have := World.cell?_spot h
  obtain ⟨b, off, sp⟩ := a
  simp only at this
  subst this
  exact ⟨b, off, rfl⟩
end Go.Proofs.YtgbmacppgaopfabGreat
