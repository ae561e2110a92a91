/-
  A DISK: what asks, and what sets a number.
-/
import Derived.Test.YtejmoaloomnmkaaDk
namespace Go.Proofs.Ytejmoaloomnmkaa
open Go.RowKit
section
variable {w : World} {B D m : Nat} {S : St} {L : Lie}
/-- the cells of a disk, changed -/
theorem DkL.turn (h : DkL w B D m S L) {i : Nat} {u : Value} {S' : St} (e : (dcells L.M1 L.M2 L.v S).setIfInBounds i u = dcells L.M1 L.M2 L.v S') (e1 : S'.sure = S.sure) (e2 : S'.now = S.now) (e3 : S'.row = S.row) (hc : 0 ≤ S'.calls ∧ S'.calls ≤ m) (ht : 0 ≤ S'.trip) :
    DkL (w.setCell ⟨D, i, none⟩ u) B D m S' L := by
  have F := fr_set w D i u
  have hb := h.blk.set i u
  rw [e] at hb
  have h1 := h.f1.fr F (fun q hq e => h.d1 (e ▸ hq))
  have h2 := h.f2.fr F (fun q hq e => h.d2 (e ▸ hq))
  have hr : (w.setCell ⟨D, i, none⟩ u).ownsRow B 62 1 L.v S.row.length (S.row.map Chg.val) :=
    World.ownsRow.kept h.row (row := some D) ⟨F.os, F.tape, F.output, F.size, fun q hq hne => F.block q hq (fun e => hne (by rw [e]))⟩ (by
      cases hv : L.v.ownBlock with
      | none => exact .inl rfl
      | some q => exact .inr (fun e => (h.dv q hv).1 (Option.some.inj e)))
  exact ⟨hb, by rw [e1]; exact h1, by rw [e2]; exact h2, by rw [e3]; exact hr, by rw [e1]; exact h.g1, by rw [e2]; exact h.g2, by rw [e3]; exact h.few, h.d1, h.d2, h.d12, h.dv, h.base, hc, ht, h.low⟩
end
/-- what find tells -/
def findV (S : St) (V : Nm → Value) (s : Nm) : Value × Int :=
  if S.down then (nilS, 8) else if nameB s then (match get S.now s with | some _ => (V s, 0) | none => (nilS, 4)) else (nilS, 1)
theorem zero55' (w : World) : (zeroValue 55).run Try.prog w = .ok nilS w := zero55 w
set_option maxHeartbeats 1000000 in
set_option maxRecDepth 100000 in
theorem find_any {w : World} {B D m : Nat} {S : St} {L : Lie} (h : DkL w B D m S L) (s : Nm) (hs : s.size ≤ 9223372036854775807) :
    Calls Try.prog 38 #[.pointer (some ⟨D, 0, none⟩), .string s] w fun e w' => e = .returned (.tuple #[(findV S L.V2 s).1, .int .i64 (findV S L.V2 s).2]) ∧ w = w' := by
  have R := Lib.hid (ready_any h.blk)
  have N := Lib.hid (name_any s w hs)
  unfold findV
  unfold readyE at R
  have c : w.cell? ⟨D, 2, none⟩ = some (.map (some L.M2)) := h.blk.cell 2
  have LK := h.f2.look_ok (s := s) (by unfold maxLen; omega)
  clear h
  generalize S.down = b at *
  cases b
  · simp only [Bool.false_eq_true, if_false] at R ⊢
    generalize nameB s = nb at *
    cases nb
    · clear LK c
      go_enter Try.func38, Try.ntmps38
      go_wp2_with fail
      refine R.out.mono ?_
      rintro e w1 ⟨rfl, rfl⟩
      go_wp2_with fail
      refine N.out.mono ?_
      rintro e w1 ⟨rfl, rfl⟩
      go_wp2_with fail
      go_ret2
      exact ⟨rfl, rfl⟩
    · cases hg : get S.now s with
      | none =>
        rw [hg] at LK
        simp only [Option.isSome_none] at LK
        clear hg
        go_enter Try.func38, Try.ntmps38
        go_wp2_with fail
        refine R.out.mono ?_
        rintro e w1 ⟨rfl, rfl⟩
        go_wp2_with fail
        refine N.out.mono ?_
        rintro e w1 ⟨rfl, rfl⟩
        go_wp2_with fail
        go_ret2
        exact ⟨rfl, rfl⟩
      | some l =>
        rw [hg] at LK
        simp only [Option.isSome_some] at LK
        clear hg
        go_enter Try.func38, Try.ntmps38
        go_wp2_with fail
        refine R.out.mono ?_
        rintro e w1 ⟨rfl, rfl⟩
        go_wp2_with fail
        refine N.out.mono ?_
        rintro e w1 ⟨rfl, rfl⟩
        go_wp2_with fail
        go_ret2
        exact ⟨rfl, rfl⟩
  · clear LK c N
    go_enter Try.func38, Try.ntmps38
    go_wp2_with fail
    refine R.out.mono ?_
    rintro e w1 ⟨rfl, rfl⟩
    go_wp2_with fail
    go_ret2
    exact ⟨rfl, rfl⟩
theorem find_nil (s : Nm) (w : World) : Calls Try.prog 38 #[.pointer none, .string s] w fun e w' => e = .returned (.tuple #[nilS, .int .i64 1]) ∧ w = w' := by
  go_enter Try.func38, Try.ntmps38
  go_wp2_with fail
  refine (ready_nil _).mono ?_
  rintro e w1 ⟨rfl, rfl⟩
  go_wp2_with fail
  go_ret2
  exact ⟨rfl, rfl⟩
/-- Wake -/
theorem wake_any {w : World} {B D m : Nat} {S : St} {L : Lie} (h : DkL w B D m S L) : Calls Try.prog 14 #[.pointer (some ⟨D, 0, none⟩)] w fun e w' => e = .returned (.tuple #[]) ∧ DkL w' B D m { S with down := false } L ∧ Fr w w' (fun q => q = D) := by
  have c : w.cell? ⟨D, 9, none⟩ = some (.bool S.down) := h.blk.cell 9
  have f := h.blk.free 9
  have H := Lib.hid (h.turn (i := 9) (u := .bool false) (S' := { S with down := false }) rfl rfl rfl rfl h.calls h.trip)
  clear h
  go_enter Try.func14, Try.ntmps14
  go_wp2_with fail
  go_end0
  exact ⟨rfl, H.out, fr_set _ _ _ _⟩
theorem wake_nil (w : World) : Calls Try.prog 14 #[.pointer none] w fun e w' => e = .returned (.tuple #[]) ∧ w = w' := by
  go_enter Try.func14, Try.ntmps14
  go_wp2_with fail
  go_end0
  exact ⟨rfl, rfl⟩
theorem down_any {w : World} {B D m : Nat} {S : St} {L : Lie} (h : DkL w B D m S L) : Calls Try.prog 20 #[.pointer (some ⟨D, 0, none⟩)] w fun e w' => e = .returned (.bool S.down) ∧ w = w' := by
  have c : w.cell? ⟨D, 9, none⟩ = some (.bool S.down) := h.blk.cell 9
  clear h
  go_enter Try.func20, Try.ntmps20
  go_wp2_with fail
  go_ret
  exact ⟨rfl, rfl⟩
theorem down_nil (w : World) : Calls Try.prog 20 #[.pointer none] w fun e w' => e = .returned (.bool true) ∧ w = w' := by
  go_enter Try.func20, Try.ntmps20
  go_wp2_with fail
  go_ret
  exact ⟨rfl, rfl⟩
theorem room_any {w : World} {B D m : Nat} {S : St} {L : Lie} (h : DkL w B D m S L) (n : Int) : Calls Try.prog 19 #[.pointer (some ⟨D, 0, none⟩), .int .i64 n] w fun e w' => e = .returned (.tuple #[]) ∧ DkL w' B D m { S with room := n } L ∧ Fr w w' (fun q => q = D) := by
  have c : w.cell? ⟨D, 5, none⟩ = some (.int .i64 S.room) := h.blk.cell 5
  have f := h.blk.free 5
  have H := Lib.hid (h.turn (i := 5) (u := .int .i64 n) (S' := { S with room := n }) rfl rfl rfl rfl h.calls h.trip)
  clear h
  go_enter Try.func19, Try.ntmps19
  go_wp2_with fail
  go_end0
  exact ⟨rfl, H.out, fr_set _ _ _ _⟩
theorem calls_any {w : World} {B D m : Nat} {S : St} {L : Lie} (h : DkL w B D m S L) : Calls Try.prog 24 #[.pointer (some ⟨D, 0, none⟩)] w fun e w' => e = .returned (.int .i64 S.calls) ∧ w = w' := by
  have c : w.cell? ⟨D, 6, none⟩ = some (.int .i64 S.calls) := h.blk.cell 6
  clear h
  go_enter Try.func24, Try.ntmps24
  go_wp2_with fail
  go_ret
  exact ⟨rfl, rfl⟩
theorem calls_nil (w : World) : Calls Try.prog 24 #[.pointer none] w fun e w' => e = .returned (.int .i64 0) ∧ w = w' := by
  go_enter Try.func24, Try.ntmps24
  go_wp2_with fail
  go_ret
  exact ⟨rfl, rfl⟩
end Go.Proofs.Ytejmoaloomnmkaa
