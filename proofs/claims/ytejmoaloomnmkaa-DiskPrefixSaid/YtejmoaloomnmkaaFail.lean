/-
  THE POWER FAILS: Fail.
-/
import Derived.Test.YtejmoaloomnmkaaSave
import Derived.Test.YtejmoaloomnmkaaTrip
import Derived.Test.YtejmoaloomnmkaaCopy
namespace Go.Proofs.Ytejmoaloomnmkaa
open Go.RowKit
theorem fail_nil (k : Int) (w : World) : Calls Try.prog 13 #[.pointer none, .int .i64 k] w fun e w' => e = .returned (.tuple #[]) ∧ w = w' := by
  go_enter Try.func13, Try.ntmps13
  go_wp2_with fail
  refine (ready_nil _).mono ?_
  rintro e w1 ⟨rfl, rfl⟩
  go_wp2_with fail
  (first | go_end0 | (simp only [Exit.inBlock, Exit.then]; refine bodyPost_ret (results_none rfl _ _ _) rfl ?_) | refine bodyPost_ret (results_none rfl _ _ _) rfl ?_)
  exact ⟨rfl, rfl⟩
theorem fail_down {w : World} {B D m : Nat} {S : St} {L : Lie} (h : DkL w B D m S L) (hd : S.down = true) (k : Int) : Calls Try.prog 13 #[.pointer (some ⟨D, 0, none⟩), .int .i64 k] w fun e w' => e = .returned (.tuple #[]) ∧ w = w' := by
  have R := Lib.hid (ready_any h.blk)
  unfold readyE at R
  rw [hd, if_pos rfl] at R
  clear h hd
  go_enter Try.func13, Try.ntmps13
  go_wp2_with fail
  refine R.out.mono ?_
  rintro e w1 ⟨rfl, rfl⟩
  go_wp2_with fail
  (first | go_end0 | (simp only [Exit.inBlock, Exit.then]; refine bodyPost_ret (results_none rfl _ _ _) rfl ?_) | refine bodyPost_ret (results_none rfl _ _ _) rfl ?_)
  exact ⟨rfl, rfl⟩
/-- the row is empty -/
theorem DkL.bare {w : World} {B D m : Nat} {S : St} {L : Lie} (h : DkL w B D m S L) : DkL (w.setCell ⟨D, 4, none⟩ nilS) B D m { S with row := [] } { L with v := nilS } := by
  have F := fr_set w D 4 nilS
  have hb := h.blk.set 4 nilS
  refine ⟨hb, h.f1.fr F (fun q hq e => h.d1 (e ▸ hq)), h.f2.fr F (fun q hq e => h.d2 (e ▸ hq)), World.ownsRow_nil _ _ _ _, h.g1, h.g2, Nat.zero_le _, h.d1, h.d2, h.d12, fun q hq => ?_, h.base, h.calls, h.trip, h.low⟩
  simp [nilS, Value.ownBlock] at hq
/-- the second files are others -/
theorem DkL.fresh {w : World} {B D m M' : Nat} {S : St} {L : Lie} {fs : Fm} {V : Nm → Value} {A : Nat} (h : DkL w B D m S L) (f : Fls w B M' m fs V) (hN : ∀ q, Foot M' V q → A ≤ q) (hA : ∀ q, L.foot D q → q < A) (hG : Good fs m) :
    DkL ((w.setCell ⟨D, 2, none⟩ (.map (some M'))).setCell ⟨D, 3, none⟩ (.int .i64 (sz fs))) B D m { S with now := fs } { L with M2 := M', V2 := V } := by
  have F := (fr_set w D 2 (.map (some M'))).trans (fr_set _ D 3 (.int .i64 (sz fs))) (R := fun q => q = D) (fun _ _ h => h) (fun _ _ h => h)
  have hb := (h.blk.set 2 (.map (some M'))).set 3 (.int .i64 (sz fs))
  have hD : ¬ Foot M' V D := fun hq => by have := hN D hq; have := hA D (.inl rfl); omega
  have hrow : ((w.setCell ⟨D, 2, none⟩ (.map (some M'))).setCell ⟨D, 3, none⟩ (.int .i64 (sz fs))).ownsRow B 62 1 L.v S.row.length (S.row.map Chg.val) :=
    World.ownsRow.kept h.row (row := some D) ⟨F.os, F.tape, F.output, F.size, fun q hq hne => F.block q hq (fun e => hne (by rw [e]))⟩ (by
      cases hv : L.v.ownBlock with
      | none => exact .inl rfl
      | some q => exact .inr (fun e => (h.dv q hv).1 (Option.some.inj e)))
  refine ⟨hb, h.f1.fr F (fun q hq e => h.d1 (e ▸ hq)), f.fr F (fun q hq e => hD (e ▸ hq)), hrow, h.g1, hG, h.few, h.d1, hD, fun q hq hq2 => ?_, fun q hq => ?_, h.base, h.calls, h.trip, h.low⟩
  · have := hN q hq2; have := hA q (.inr (.inl hq)); omega
  · obtain ⟨a1, a2, _⟩ := h.dv q hq
    refine ⟨a1, a2, fun hq2 => ?_⟩
    have := hN q hq2; have := hA q (.inr (.inr (.inr hq))); omega
set_option maxHeartbeats 4000000 in
set_option maxRecDepth 100000 in
theorem fail_up {w : World} {B D m : Nat} {S : St} {L : Lie} (h : DkL w B D m S L) (hd : S.down = false) (hr : mayAll S.sure S.row) (hm : m + S.row.length < 99999) (k : Int) (hk : k ≤ 9223372036854775807) :
    Calls Try.prog 13 #[.pointer (some ⟨D, 0, none⟩), .int .i64 k] w fun e w' => e = .returned (.tuple #[]) ∧ ∃ N L', DkL w' B D (m + S.row.length + 1) { S with sure := keepF S.sure S.row (atLeast k 0), now := N, row := [], trip := 0, keep := 0, down := true } L' ∧ (∀ s, get N s = get (keepF S.sure S.row (atLeast k 0)) s) ∧ Fr w w' (L.foot D) ∧ ∀ q, L'.foot D q → L.foot D q ∨ w.heap.size ≤ q := by
  have R := Lib.hid (ready_any h.blk)
  unfold readyE at R
  rw [hd, if_neg (by decide)] at R
  have SV := Lib.hid (save_any (k := atLeast k 0) h (by unfold atLeast; split <;> omega) (by unfold atLeast; split <;> omega) hm hr)
  have H := Lib.hid h
  have hl := h.blk.lt
  clear h hd hr
  generalize hK : keepF S.sure S.row (atLeast k 0) = K at *
  have HK := Lib.hid hK
  clear hK
  have MX : (if k < 0 then 0 else k) = atLeast k 0 := rfl
  go_enter Try.func13, Try.ntmps13
  go_wp2_with fail
  refine R.out.mono ?_
  rintro e w1 ⟨rfl, rfl⟩
  go_wp2_with fail
  refine SV.out.mono ?_
  rintro e w2 ⟨rfl, V1, h2, F2, hN2⟩
  rw [HK.out] at h2
  have c4 : w2.cell? ⟨D, 4, none⟩ = some L.v := h2.blk.cell 4
  have f4 := h2.blk.free 4
  have h3 := h2.bare
  obtain ⟨w3, hw3, h3, F3⟩ : ∃ w3, w3 = w2.setCell ⟨D, 4, none⟩ nilS ∧ DkL w3 B D (m + S.row.length + 1) { S with sure := K, row := [] } { L with V1 := V1, v := nilS } ∧ Fr w2 w3 (fun q => q = D) := ⟨_, rfl, h3, fr_set _ _ _ _⟩
  have CP := Lib.hid (copy_any (o := 0) h3.f1 h3.blk rfl h3.g1 h3.low)
  have W3 := Lib.hid hw3
  have H3 := Lib.hid h3
  have FF := Lib.hid (F2.trans F3 (R := L.foot D) (fun q _ hh => hh.elim .inl (fun h => .inr (.inl h))) (fun q _ hh => .inl hh))
  have hN2' := Lib.hid hN2
  clear h2 F2 hN2 h3 hw3 SV R
  have hl3 : D < w3.heap.size := H3.out.blk.lt
  unfold nilS at W3
  go_wp2_with fail
  rw [← W3.out]
  refine CP.out.mono ?_
  rintro e w4 ⟨M', fs', V', rfl, h4, hG4, hget, b4⟩
  have h5 := H3.out.below b4
  have c7 : w4.cell? ⟨D, 7, none⟩ = some (.int .i64 S.trip) := h5.blk.cell 7
  have c8 : w4.cell? ⟨D, 8, none⟩ = some (.int .i64 S.keep) := h5.blk.cell 8
  have c9 : w4.cell? ⟨D, 9, none⟩ = some (.bool S.down) := h5.blk.cell 9
  have c2 : w4.cell? ⟨D, 2, none⟩ = some (.map (some L.M2)) := h5.blk.cell 2
  have c3 : w4.cell? ⟨D, 3, none⟩ = some (.int .i64 (sz S.now)) := h5.blk.cell 3
  have f7 := h5.blk.free 7
  have f8 := h5.blk.free 8
  have f9 := h5.blk.free 9
  have f2 := h5.blk.free 2
  have f3 := h5.blk.free 3
  have H5 := Lib.hid h5
  have H4 := Lib.hid h4
  have G4 := Lib.hid hG4
  have HG := Lib.hid hget
  have B4 := Lib.hid b4
  clear h5 h4 hG4 hget b4 CP c4 f4 W3
  go_wp2_with fail
  (first | go_end0 | (simp only [Exit.inBlock, Exit.then]; refine bodyPost_ret (results_none rfl _ _ _) rfl ?_) | refine bodyPost_ret (results_none rfl _ _ _) rfl ?_)
  have hB3 : B ≤ w3.heap.size := Nat.le_trans H3.out.base (Nat.le_of_lt hl3)
  have hA : ∀ q, Foot M' V' q → w3.heap.size ≤ q := fun q hq => (H4.out.lt hq).1
  have hL : ∀ q, (Lie.foot { M1 := L.M1, M2 := L.M2, V1 := V1, V2 := L.V2, v := nilS } D q) → q < w3.heap.size := fun q hq => (H3.out.lt hq).2
  have d6 := H5.out.fresh (H4.out.base hB3) hA hL G4.out
  have d7 := d6.turn (i := 7) (u := .int .i64 0) (S' := { S with sure := K, now := fs', row := [], trip := 0 }) rfl rfl rfl rfl d6.calls (Int.le_refl _)
  have d8 := d7.turn (i := 8) (u := .int .i64 0) (S' := { S with sure := K, now := fs', row := [], trip := 0, keep := 0 }) rfl rfl rfl rfl d7.calls (Int.le_refl _)
  have d9 := d8.turn (i := 9) (u := .bool true) (S' := { S with sure := K, now := fs', row := [], trip := 0, keep := 0, down := true }) rfl rfl rfl rfl d8.calls (Int.le_refl _)
  refine ⟨rfl, fs', _, d9, HG.out, ?_, fun q hq => ?_⟩
  · have F5 := FF.out.trans (Fr.of_below B4.out (fun _ => False)) (R := L.foot D) (fun _ _ h => h) (fun _ _ h => h.elim)
    have t : ∀ {a : World} (i : Nat) (u : Value), Fr w a (L.foot D) → Fr w (a.setCell ⟨D, i, none⟩ u) (L.foot D) := fun i u h => h.trans (fr_set _ D i u) (fun _ _ h => h) (fun q _ e => .inl e)
    exact t _ _ (t _ _ (t _ _ (t _ _ (t _ _ F5))))
  · have hs := FF.out.size
    rcases hq with hq | hq | hq | hq
    · exact .inl (.inl hq)
    · rcases hN2'.out q hq with hh | hh
      · exact .inl (.inr (.inl hh))
      · exact .inr hh
    · have := hA q hq
      right; omega
    · simp [nilS, Value.ownBlock] at hq
end Go.Proofs.Ytejmoaloomnmkaa
