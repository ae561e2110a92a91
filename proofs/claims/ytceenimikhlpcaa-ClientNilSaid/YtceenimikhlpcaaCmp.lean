/-
  THE WALKS OF event.order at its three types, event.turned, event.kind, event.mixed.
-/
import Derived.Test.YtceenimikhlpcaaStand
import Derived.Lib.QuietBelow
namespace Go.Proofs.Ytceenimikhlpcaa
open Go.RowKit
def trI (n m : Int) : Int := if n < m then 2 else if n = m then 3 else 4
def trO : Option Ordering → Int
  | none => 1
  | some .lt => 2
  | some .eq => 3
  | some .gt => 4
def tnI (s : Int) : Int := if s = 2 then 4 else if s = 4 then 2 else s
end Go.Proofs.Ytceenimikhlpcaa
