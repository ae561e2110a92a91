/-
  A CALL IS COUNTED: count.
-/
import Derived.Test.YtejmoaloomnmkaaFail
namespace Go.Proofs.Ytejmoaloomnmkaa
open Go.RowKit
/-- a disk behind a counted call, and what the call answers -/
def Counted (S S' : St) (e : Int) : Prop :=
  (S.trip ≠ 1 ∧ e = 0 ∧ S' = { S with calls := S.calls + 1, trip := if S.trip = 0 then 0 else S.trip - 1 }) ∨
  (S.trip = 1 ∧ e = 8 ∧ ∃ N, S' = { S with sure := keepF S.sure S.row (atLeast S.keep 0), now := N, row := [], calls := S.calls + 1, trip := 0, keep := 0, down := true } ∧ ∀ s, get N s = get (keepF S.sure S.row (atLeast S.keep 0)) s)
/-- what a call leaves behind that counts -/
def CountedW (w : World) (B D m : Nat) (S : St) (L : Lie) (e : Ending) (w' : World) : Prop :=
  ∃ S' L' x, e = .returned (.int .i64 x) ∧ DkL w' B D (m + S.row.length + 2) S' L' ∧ Counted S S' x ∧ Fr w w' (L.foot D) ∧ ∀ q, L'.foot D q → L.foot D q ∨ w.heap.size ≤ q
set_option maxHeartbeats 4000000 in
set_option maxRecDepth 100000 in
theorem count_any {w : World} {B D m : Nat} {S : St} {L : Lie} (h : DkL w B D m S L) (hd : S.down = false) (hr : mayAll S.sure S.row) (hm : m + S.row.length < 99998) (ht : S.trip ≤ 9223372036854775807) (hk : S.keep ≤ 9223372036854775807) :
    Calls Try.prog 30 #[.pointer (some ⟨D, 0, none⟩)] w (CountedW w B D m S L) := by
  have c6 : w.cell? ⟨D, 6, none⟩ = some (.int .i64 S.calls) := h.blk.cell 6
  have f6 := h.blk.free 6
  have c7 : w.cell? ⟨D, 7, none⟩ = some (.int .i64 S.trip) := h.blk.cell 7
  have f7 := h.blk.free 7
  have c8 : w.cell? ⟨D, 8, none⟩ = some (.int .i64 S.keep) := h.blk.cell 8
  have hc := h.calls
  have hlow := h.low
  have ht0 := h.trip
  have hl := h.blk.lt
  have hm1 : DkL w B D (m + 1) S L := h.mono (Nat.le_succ m) (by omega)
  have h1 := hm1.turn (i := 6) (u := .int .i64 (S.calls + 1)) (S' := { S with calls := S.calls + 1 }) rfl rfl rfl rfl ⟨by simp only; omega, by simp only; omega⟩ h.trip
  have T : ∀ t, 0 ≤ t → DkL ((w.setCell ⟨D, 6, none⟩ (.int .i64 (S.calls + 1))).setCell ⟨D, 7, none⟩ (.int .i64 t)) B D (m + 1) { S with calls := S.calls + 1, trip := t } L := fun t ht => h1.turn (i := 7) (u := .int .i64 t) (S' := { S with calls := S.calls + 1, trip := t }) rfl rfl rfl rfl h1.calls ht
  have FT : ∀ t, Fr w ((w.setCell ⟨D, 6, none⟩ (.int .i64 (S.calls + 1))).setCell ⟨D, 7, none⟩ (.int .i64 t)) (L.foot D) := fun t => (fr_set w D 6 _).trans (fr_set _ D 7 _) (fun _ _ e => .inl e) (fun _ _ e => .inl e)
  have hcw : IntKind.i64.wrap (S.calls + 1) = S.calls + 1 := IntWalk.i64_in _ (by omega)
  by_cases h0 : S.trip = 0
  · have FIN : Hid (CountedW w B D m S L (.returned (.int .i64 0)) (w.setCell ⟨D, 6, none⟩ (.int .i64 (S.calls + 1)))) := Lib.hid ⟨_, L, 0, rfl, h1.mono (by omega) (by omega), .inl ⟨by omega, rfl, by rw [if_pos h0]; cases S; simp only at h0; subst h0; rfl⟩, (fr_set w D 6 _).mono (fun _ _ e => .inl e), fun q hq => .inl hq⟩
    rw [h0] at c7
    clear h hm1 h1 T FT hr
    generalize S.calls = c at *
    go_enter Try.func30, Try.ntmps30
    go_wp2_with fail
    go_ret
    exact FIN.out
  · by_cases h2 : S.trip = 1
    · have h3 := T 0 (Int.le_refl _)
      have FL := Lib.hid (fail_up h3 hd hr (by simp only; omega) S.keep hk)
      have FIN : Hid (∀ e w', (e = Ending.returned (.tuple #[]) ∧ ∃ N L', DkL w' B D (m + 1 + S.row.length + 1) { S with sure := keepF S.sure S.row (atLeast S.keep 0), now := N, row := [], calls := S.calls + 1, trip := 0, keep := 0, down := true } L' ∧ (∀ s, get N s = get (keepF S.sure S.row (atLeast S.keep 0)) s) ∧ Fr ((w.setCell ⟨D, 6, none⟩ (.int .i64 (S.calls + 1))).setCell ⟨D, 7, none⟩ (.int .i64 0)) w' (L.foot D) ∧ ∀ q, L'.foot D q → L.foot D q ∨ ((w.setCell ⟨D, 6, none⟩ (.int .i64 (S.calls + 1))).setCell ⟨D, 7, none⟩ (.int .i64 0)).heap.size ≤ q) → e = Ending.returned (.tuple #[]) ∧ CountedW w B D m S L (.returned (.int .i64 8)) w') := Lib.hid (by
        rintro e w' ⟨he, N, L', d, hg, F, hN⟩
        refine ⟨he, _, L', 8, rfl, d.mono (by omega) (by omega), .inr ⟨h2, rfl, N, rfl, hg⟩, (FT 0).trans F (fun _ _ h => h) (fun _ _ h => h), fun q hq => ?_⟩
        rcases hN q hq with hh | hh
        · exact .inl hh
        · right; have := (FT 0).size; omega)
      rw [h2] at c7
      clear h hm1 h1 T FT hr h3
      generalize S.calls = c at *
      generalize S.keep = kk at *
      go_enter Try.func30, Try.ntmps30
      go_wp2_with fail
      refine FL.out.mono ?_
      intro e w' he
      obtain ⟨rfl, hcw⟩ := FIN.out e w' he
      have CW := Lib.hid hcw
      clear hcw FIN FL he
      go_wp2_with fail
      go_ret
      exact CW.out
    · have h3 := T (S.trip - 1) (by omega)
      have FIN : Hid (CountedW w B D m S L (.returned (.int .i64 0)) ((w.setCell ⟨D, 6, none⟩ (.int .i64 (S.calls + 1))).setCell ⟨D, 7, none⟩ (.int .i64 (S.trip - 1)))) := Lib.hid ⟨_, L, 0, rfl, h3.mono (by omega) (by omega), .inl ⟨h2, rfl, by rw [if_neg h0]⟩, FT _, fun q hq => .inl hq⟩
      have htw : IntKind.i64.wrap (S.trip - 1) = S.trip - 1 := IntWalk.i64_in _ (by omega)
      clear h hm1 h1 T FT hr h3
      generalize S.calls = c at *
      generalize S.trip = t at *
      go_enter Try.func30, Try.ntmps30
      go_wp2_with fail
      go_ret
      exact FIN.out
end Go.Proofs.Ytejmoaloomnmkaa
