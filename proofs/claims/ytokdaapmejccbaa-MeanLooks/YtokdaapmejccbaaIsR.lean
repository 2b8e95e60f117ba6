import Derived.Test.YtokdaapmejccbaaLat
import Derived.Test.YtokdaapmejccbaaCome
namespace Go.Proofs.Ytokdaapmejccbaa
open Go.RowKit
/-- A name that is a rule's. -/
def IsRule (g : Gr) (s : ByteArray) : Prop := ∃ k : Nat, fnd g.rules s = (k : Int) ∧ k < g.rules.length
end Go.Proofs.Ytokdaapmejccbaa
