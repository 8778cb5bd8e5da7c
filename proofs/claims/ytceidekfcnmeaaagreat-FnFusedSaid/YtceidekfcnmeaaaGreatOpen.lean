
/- Plain facts about decimal numerals: how spec.FormatInt's two roads build Lib.itoa. -/
import Derived.Lib.ItoaNum
import Derived.Lib.AtoiAllCases
import Derived.Test.YtceidekfcnmeaaaGreatLawKit
import Derived.Test.YtceidekfcnmeaaaGreatProg
import Derived.ProofKit
import Derived.SizedLaws
import Derived.OpenShut
import Derived.SliceStrings
namespace Go.Proofs.YtceidekfcnmeaaaGreat
set_option maxRecDepth 20000
open Go

/-- The text of one byte. -/
def one (v : Int) : ByteArray := ⟨[UInt8.ofNat v.toNat].toArray⟩
end Go.Proofs.YtceidekfcnmeaaaGreat
namespace Go.Proofs.YtceidekfcnmeaaaGreat
set_option maxRecDepth 20000
open Go

/-- The number that digits spell behind acc. -/
def num (acc : Nat) (l : List UInt8) : Nat := l.foldl (fun a c => a * 10 + (c.toNat - 48)) acc
def inI (n : Int) : Prop := -9223372036854775808 ≤ n ∧ n ≤ 9223372036854775807
def allI (zs : List Int) : Prop := ∀ z ∈ zs, inI z
/-! What ends the reference's loop. t: what stands behind the sign. -/
/-- The number that the loop leaves. -/
def value (neg : Bool) (t : List UInt8) : Int := if neg then -(num 0 t : Int) else num 0 t
end Go.Proofs.YtceidekfcnmeaaaGreat
namespace Go.Proofs.YtceidekfcnmeaaaGreat
set_option maxRecDepth 20000
open Go.ChangeShapes Go.WideShapes Go.ChangeAt Go.WideMaps Go.WideElems Go.RowKit

theorem laidOut : laidOutB Tryz.prog = true := by kernel_rfl
theorem addr_of {w : World} {a : Addr} {v : Value} (h : w.cell? a = some v) : ∃ b off, a = ⟨b, off, none⟩ := by
  have := World.cell?_spot h
  obtain ⟨b, off, sp⟩ := a
  simp only at this
  subst this
  exact ⟨b, off, rfl⟩
end Go.Proofs.YtceidekfcnmeaaaGreat
