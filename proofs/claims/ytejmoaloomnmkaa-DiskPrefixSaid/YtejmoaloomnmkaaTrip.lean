/-
  A DISK: Trip.
-/
import Derived.Test.YtejmoaloomnmkaaSmall
namespace Go.Proofs.Ytejmoaloomnmkaa
open Go.RowKit
def atLeast (n k : Int) : Int := if n < k then k else n
theorem trip_nil (n k : Int) (w : World) : Calls Try.prog 35 #[.pointer none, .int .i64 n, .int .i64 k] w fun e w' => e = .returned (.tuple #[]) ∧ w = w' := by
  go_enter Try.func35, Try.ntmps35
  go_wp2_with fail
  go_end0
  exact ⟨rfl, rfl⟩
set_option maxHeartbeats 1000000 in
theorem trip_any {w : World} {B D m : Nat} {S : St} {L : Lie} (h : DkL w B D m S L) (n k : Int) : Calls Try.prog 35 #[.pointer (some ⟨D, 0, none⟩), .int .i64 n, .int .i64 k] w fun e w' => e = .returned (.tuple #[]) ∧ DkL w' B D m { S with trip := atLeast n 1, keep := k } L ∧ Fr w w' (fun q => q = D) := by
  have c1 : w.cell? ⟨D, 7, none⟩ = some (.int .i64 S.trip) := h.blk.cell 7
  have c2 : w.cell? ⟨D, 8, none⟩ = some (.int .i64 S.keep) := h.blk.cell 8
  have f1 := h.blk.free 7
  have f2 := h.blk.free 8
  have h1 := h.turn (i := 7) (u := .int .i64 (atLeast n 1)) (S' := { S with trip := atLeast n 1 }) rfl rfl rfl rfl h.calls (by unfold atLeast; simp only; split <;> omega)
  have h2 := h1.turn (i := 8) (u := .int .i64 k) (S' := { S with trip := atLeast n 1, keep := k }) rfl rfl rfl rfl h.calls h1.trip
  have H := Lib.hid h2
  have F : Hid (Fr w ((w.setCell ⟨D, 7, none⟩ (.int .i64 (atLeast n 1))).setCell ⟨D, 8, none⟩ (.int .i64 k)) (fun q => q = D)) := Lib.hid ((fr_set w D 7 _).trans (fr_set _ D 8 _) (fun _ _ h => h) (fun _ _ h => h))
  clear h h1 h2
  unfold atLeast at *
  by_cases hn : n < 1
  · rw [if_pos hn] at *
    go_enter Try.func35, Try.ntmps35
    go_wp2_with fail
    go_end0
    exact ⟨rfl, H.out, F.out⟩
  · rw [if_neg hn] at *
    go_enter Try.func35, Try.ntmps35
    go_wp2_with fail
    go_end0
    exact ⟨rfl, H.out, F.out⟩
end Go.Proofs.Ytejmoaloomnmkaa
