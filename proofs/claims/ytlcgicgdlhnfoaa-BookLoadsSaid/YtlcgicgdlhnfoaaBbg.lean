/-
  The book: the function that yields.
-/
import Derived.Test.YtlcgicgdlhnfoaaBbe
import Derived.Test.YtlcgicgdlhnfoaaBbf
namespace Go.Proofs.Ytlcgicgdlhnfoaa
open Go.RowKit
theorem yields {w : World} {Bk : Nat → Prop} {Fb : Nat → Prop} {t bt bf bm : Nat} {base from_ most : Int} {LL : List (List Int)} (m : Nat) (hm : 3 ≤ m)
    (h : BookAt w Bk t base LL) (ok : BOk base LL) (hl : ∀ xs ∈ LL, xs.length ≤ 1000) (hf : base ≤ from_) (hf2 : from_ ≤ 9223372036854775807) (hmo : 0 ≤ most)
    (kt : Blk w bt 23 #[.pointer (some ⟨t, 0, none⟩)]) (kf : Blk w bf 3 #[.int .i64 from_]) (km : Blk w bm 3 #[.int .i64 most])
    (hB : ∀ q, Bk q → ¬ Fb q) :
    Gives Try.prog m 39 #[.pointer (some ⟨bt, 0, none⟩), .pointer (some ⟨bf, 0, none⟩), .pointer (some ⟨bm, 0, none⟩)] encM (fun x W => OwnN W w.heap.size x.1 x.2)
      (fun l => l.map (fun x : Mv => x.2) <+: sub base LL from_ most) (fun l => l.map (fun x : Mv => x.2) = sub base LL from_ most) Fb w := by
  rcases Nat.eq_zero_or_pos (sub base LL from_ most).length with hz | hz
  · exact yields0 m h ok hf hf2 hmo kt kf km hz
  · exact yields1 m hm h ok hl hf hf2 hmo kt kf km hB hz
end Go.Proofs.Ytlcgicgdlhnfoaa
