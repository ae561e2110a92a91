/-
  NO NAMES: Names of no disk, and of one that is down.
-/
import Derived.Test.YtejmoaloomnmkaaPut
namespace Go.Proofs.Ytejmoaloomnmkaa
open Go.RowKit
theorem names_nil (w : World) : Calls Try.prog 22 #[.pointer none] w fun e w' => e = .returned nilS ∧ w = w' := by
  go_enter Try.func22, Try.ntmps22
  go_wp2_with fail
  refine (ready_nil _).mono ?_
  rintro e w1 ⟨rfl, rfl⟩
  go_wp2_with fail
  first | go_ret | go_ret2
  exact ⟨rfl, rfl⟩
theorem names_down {w : World} {B D m : Nat} {S : St} {L : Lie} (h : DkL w B D m S L) (hd : S.down = true) : Calls Try.prog 22 #[.pointer (some ⟨D, 0, none⟩)] w fun e w' => e = .returned nilS ∧ w = w' := by
  have R := Lib.hid (ready_any h.blk)
  unfold readyE at R
  rw [hd, if_pos rfl] at R
  clear h hd
  go_enter Try.func22, Try.ntmps22
  go_wp2_with fail
  refine R.out.mono ?_
  rintro e w1 ⟨rfl, rfl⟩
  go_wp2_with fail
  first | go_ret | go_ret2
  exact ⟨rfl, rfl⟩
end Go.Proofs.Ytejmoaloomnmkaa
