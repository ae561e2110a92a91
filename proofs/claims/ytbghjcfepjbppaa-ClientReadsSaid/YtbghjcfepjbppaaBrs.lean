/-
  Rows of numbers that can be read.
-/
import Derived.Test.YtbghjcfepjbppaaBcl
namespace Go.Proofs.Ytbghjcfepjbppaa.Bk
open Go.RowKit
/-- rows of numbers that can be read -/
def Rws (w : World) (a : Option Addr) (LL : List (List Int)) : Prop := ∀ i (h : i < LL.length), ∃ g o q c, a = some ⟨g, o, none⟩ ∧ g < w.heap.size ∧ w.cell? ⟨g, o + i, none⟩ = some (.slice q LL[i].length c) ∧ Nums w q LL[i]
theorem Rws.next {w w' : World} {a : Option Addr} {LL : List (List Int)} (h : Rws w a LL) (hb : Below w.heap.size w w') : Rws w' a LL := fun i hi => by
  obtain ⟨g, o, q, c, e, hg, ck, nn⟩ := h i hi
  exact ⟨g, o, q, c, e, Nat.lt_of_lt_of_le hg hb.size, (hb.cell (p := ⟨g, _, none⟩) hg).trans ck, nn.next hb⟩
end Go.Proofs.Ytbghjcfepjbppaa.Bk
