/-
  A CHANGE THAT IS DONE, and one that is not: what an act makes of a disk that is up, without a bound, whose power does not wait to fail.
-/
import Derived.Test.YtejmoaloomnmkaaPfx2
namespace Go.Proofs.Ytejmoaloomnmkaa
open Go.RowKit
/-- an act that will be done, as that change -/
structure Works (S : St) (a : Act) (c : Chg) : Prop where
  asks : a.Asks c
  n1 : nameB a.nm = true
  n2 : a.kd = 2 → nameB a.s = true
  may : c.may S.now
  there : a.kd ≠ 0 → get S.now a.nm ≠ none
theorem Works.alike {S E : St} {a : Act} {c : Chg} (h : Works S a c) (hA : Alike S.now E.now) : Works E a c := ⟨h.asks, h.n1, h.n2, hA.may h.may, fun e => by rw [← hA a.nm]; exact h.there e⟩
/-- a disk without a bound, that is up and stays so -/
structure Calm (S : St) : Prop where
  up : S.down = false
  trip : S.trip = 0
  room : S.room < 0
/-- behind a change -/
def nextS (S : St) (c : Chg) : St := { S with row := S.row ++ [c], now := c.doF S.now, calls := S.calls + 1 }
theorem Calm.next {S : St} (h : Calm S) (c : Chg) : Calm (nextS S c) := ⟨h.up, h.trip, h.room⟩
theorem Ok.next {S : St} {c : Chg} (ok : Ok S) (hc : Calm S) (h : c.may S.now) : Ok (nextS S c) :=
  ⟨mayAll_append ok.may (ok.now.may h), by show Alike (c.doF S.now) (doAll S.sure (S.row ++ [c])); rw [doAll_append]; exact ok.now.doF c, ok.trip, ok.keep, fun e => by rw [show (nextS S c).down = S.down from rfl, hc.up] at e; cases e⟩
/-- what it leaves -/
def YesW (w : World) (B D m : Nat) (S : St) (L : Lie) (c : Chg) (w' : World) : Prop := ∃ L', DkL w' B D (m + S.row.length + 5) (nextS S c) L' ∧ Fr w w' (L.foot D) ∧ ∀ q, L'.foot D q → L.foot D q ∨ w.heap.size ≤ q
section
variable {w : World} {B D m : Nat} {S : St} {L : Lie}
theorem yes_note {w1 w' : World} {c : Chg} {e : Ending} (hc : Calm S) (b1 : Below w.heap.size w w1) (h : NoteW w1 B D m S L c e w') : ∃ x, e = .returned (.int .i64 x) ∧ (x = 0 ∧ YesW w B D m S L c w') := by
  obtain ⟨S', L', x, rfl, d, hcnt, F, hN⟩ := h
  rcases hcnt with ⟨_, rfl, e⟩ | ⟨e, _⟩
  · have e' : S' = nextS S c := by
      rw [e]
      unfold nextS
      simp [hc.trip]
    rw [e'] at d
    have hs := b1.size
    refine ⟨0, rfl, rfl, L', d, (Fr.of_below b1 (fun _ => False)).trans F (fun _ _ h => h.elim) (fun _ _ h => h), fun q hq => ?_⟩
    rcases hN q hq with hh | hh
    · exact .inl hh
    · right; omega
  · simp only [hc.trip] at e; omega
theorem act_yes {a : Act} {c : Chg} (h : DkL w B D m S L) (ok : Ok S) (hm : m + 2 * S.row.length < 99990) (hc : Calm S) (hw : Works S a c) :
    Calls Try.prog 12 #[.pointer (some ⟨D, 0, none⟩), a.val] w fun e w' => ∃ x, e = .returned (.int .i64 x) ∧ (x = 0 ∧ YesW w B D m S L c w') := by
  obtain ⟨kd, f, n, k, s⟩ := a
  obtain ⟨asks, n1, n2, may, there⟩ := hw
  simp only at n1 n2 there
  have h64 := (nameB_size n1).2
  have hr := mayAll_append ok.may (ok.now.may may)
  have hE : kd ≠ 0 → findE S f = 0 := fun e => by
    unfold findE
    rw [hc.up, if_neg (by decide), if_pos n1]
    cases hg : get S.now f with
    | none => exact absurd hg (there e)
    | some l => rfl
  cases c with
  | put f' a s' =>
    obtain ⟨rfl, rfl, rfl, rfl⟩ := asks
    refine does_put _ f' s' _ k w fun w1 b1 => ?_
    obtain ⟨_, m2, m3⟩ := may
    refine (put_yes f' s' a (h.below b1) hc.up (by omega) (fun hb => ?_) (fun hb => ?_) hr ⟨by assumption, m2, m3⟩ (by omega) ok.trip ok.keep).mono fun e w' hh => yes_note hc b1 hh
    · rcases hb with hb | hb | hb | hb
      · rw [n1] at hb; cases hb
      · omega
      · omega
      · omega
    · have := hb.1; have := hc.room; omega
  | trim f' a =>
    obtain ⟨rfl, rfl, rfl⟩ := asks
    refine does_trim _ f' s _ k w fun w1 b1 => ?_
    exact (trim_yes f' a (h.below b1) (by omega) (hE (by simp)) (by have := may.2; omega) hc.up hr may (by omega) ok.trip ok.keep).mono fun e w' hh => yes_note hc b1 hh
  | move f' t =>
    obtain ⟨rfl, rfl, rfl⟩ := asks
    have hn2 := n2 rfl
    refine does_move _ f' t n k w fun w1 b1 => ?_
    refine (move_yes f' t (h.below b1) (by omega) (by have := (nameB_size hn2).2; omega) ?_ hc.up hr may (by omega) ok.trip ok.keep).mono fun e w' hh => yes_note hc b1 hh
    unfold moveE
    rw [hc.up, if_neg (by decide), if_pos hn2]
    exact hE (by simp)
  | drop f' =>
    obtain ⟨rfl, rfl⟩ := asks
    refine does_drop _ f' s n k w fun w1 b1 => ?_
    exact (drop_yes f' (h.below b1) (by omega) (hE (by simp)) hc.up hr may (by omega) ok.trip ok.keep).mono fun e w' hh => yes_note hc b1 hh
/-- what an act of a change leaves: it is done, or nothing is -/
def MayW (w : World) (B D m : Nat) (S : St) (L : Lie) (a : Act) (x : Int) (w' : World) : Prop :=
  (∃ c, Works S a c ∧ x = 0 ∧ YesW w B D m S L c w') ∨ (x ≠ 0 ∧ DkL w' B D m S L ∧ Below w.heap.size w w')
theorem act_maybe {a : Act} (wf : a.Wf) (hk : 0 ≤ a.kd ∧ a.kd ≤ 3) (h : DkL w B D m S L) (ok : Ok S) (hm : m + 2 * S.row.length < 99990) (hc : Calm S) :
    Calls Try.prog 12 #[.pointer (some ⟨D, 0, none⟩), a.val] w fun e w' => ∃ x, e = .returned (.int .i64 x) ∧ MayW w B D m S L a x w' := by
  have YES : ∀ c, Works S a c → Calls Try.prog 12 #[.pointer (some ⟨D, 0, none⟩), a.val] w fun e w' => ∃ x, e = .returned (.int .i64 x) ∧ MayW w B D m S L a x w' := fun c hw =>
    (act_yes h ok hm hc hw).mono fun e w' ⟨x, he, hx, hy⟩ => ⟨x, he, .inl ⟨c, hw, hx, hy⟩⟩
  have NO : ∀ {w1 w' : World} {e : Ending} {y : Int}, Below w.heap.size w w1 → y ≠ 0 → e = .returned (.int .i64 y) ∧ w1 = w' → ∃ x, e = .returned (.int .i64 x) ∧ MayW w B D m S L a x w' := fun b1 hy hh => by
    obtain ⟨rfl, rfl⟩ := hh
    exact ⟨_, rfl, .inr ⟨hy, h.below b1, b1⟩⟩
  have h1 := wf.nm
  have h2 := wf.n
  have h3 := wf.s
  obtain ⟨kd, f, n, k, s⟩ := a
  simp only at hk h1 h2 h3
  have hk4 : kd = 0 ∨ kd = 1 ∨ kd = 2 ∨ kd = 3 := by omega
  have hF : findE S f = 0 → nameB f = true ∧ get S.now f ≠ none := fun e => by
    obtain ⟨_, a1, l, a2⟩ := findE_zero e
    exact ⟨a1, by rw [a2]; simp⟩
  rcases hk4 with rfl | rfl | rfl | rfl
  · by_cases hb : putBad S f s n
    · exact does_put _ f s n k w fun w1 b1 => (put_bad f s n (h.below b1) hc.up (by omega) h2 hb).mono fun e w' hh => NO b1 (by decide) hh
    · have hb' := hb
      unfold putBad at hb'
      have hnm : nameB f = true := by cases e : nameB f <;> simp_all
      have g0 : ¬ n < 0 := fun e => hb' (.inr (.inl e))
      have g1 : ¬ (gl S.now f).length < n := fun e => hb' (.inr (.inr (.inl e)))
      have g2 : ¬ 4194304 - n < s.size := fun e => hb' (.inr (.inr (.inr e)))
      obtain ⟨n', rfl⟩ : ∃ n' : Nat, n = n' := ⟨n.toNat, by omega⟩
      exact YES (.put f n' s) ⟨⟨rfl, rfl, rfl, rfl⟩, hnm, fun e => by simp at e, ⟨(nameB_size hnm).2, by omega, by omega⟩, fun e => absurd rfl e⟩
  · by_cases hE : findE S f = 0
    · by_cases hx : n < 0 ∨ n > (gl S.now f).length
      · exact does_trim _ f s n k w fun w1 b1 => (trim_bad f n (h.below b1) (by omega) hE hx).mono fun e w' hh => NO b1 (by decide) hh
      · obtain ⟨n', rfl⟩ : ∃ n' : Nat, n = n' := ⟨n.toNat, by omega⟩
        exact YES (.trim f n') ⟨⟨rfl, rfl, rfl⟩, (hF hE).1, fun e => by simp at e, ⟨(nameB_size (hF hE).1).2, by omega⟩, fun _ => (hF hE).2⟩
    · exact does_trim _ f s n k w fun w1 b1 => (trim_no f n (h.below b1) (by omega) hE).mono fun e w' hh => NO b1 hE hh
  · by_cases hE : moveE S f s = 0
    · have hE2 := hE
      unfold moveE at hE2
      rw [hc.up, if_neg (by decide)] at hE2
      by_cases hns : nameB s = true
      · rw [if_pos hns] at hE2
        exact YES (.move f s) ⟨⟨rfl, rfl, rfl⟩, (hF hE2).1, fun _ => hns, ⟨(nameB_size (hF hE2).1).2, (nameB_size hns).2⟩, fun _ => (hF hE2).2⟩
      · rw [if_neg hns] at hE2; omega
    · exact does_move _ f s n k w fun w1 b1 => (move_no f s (h.below b1) (by omega) (by omega) hE).mono fun e w' hh => NO b1 hE hh
  · by_cases hE : findE S f = 0
    · exact YES (.drop f) ⟨⟨rfl, rfl⟩, (hF hE).1, fun e => by simp at e, (nameB_size (hF hE).1).2, fun _ => (hF hE).2⟩
    · exact does_drop _ f s n k w fun w1 b1 => (drop_no f (h.below b1) (by omega) hE).mono fun e w' hh => NO b1 hE hh
end
/-! ### the law's own state -/
/-- acts that were done, one by one, from no files on -/
def Run : Fm → List Act → List Chg → Prop
  | _, [], [] => True
  | fs, a :: A, c :: R => Works { st0 with now := fs } a c ∧ Run (c.doF fs) A R
  | _, _, _ => False
theorem Works.st {S : St} {a : Act} {c : Chg} (h : Works S a c) {fs : Fm} (hA : Alike S.now fs) : Works { st0 with now := fs } a c := h.alike (E := { st0 with now := fs }) hA
theorem Run.append {fs : Fm} {A : List Act} {R : List Chg} {a : Act} {c : Chg} (h : Run fs A R) (hw : Works { st0 with now := doAll fs R } a c) : Run fs (A ++ [a]) (R ++ [c]) := by
  induction A generalizing fs R with
  | nil => cases R with
    | nil => exact ⟨hw, trivial⟩
    | cons d R => exact h.elim
  | cons b A ih => cases R with
    | nil => exact h.elim
    | cons d R => exact ⟨h.1, ih h.2 hw⟩
theorem Run.len {fs : Fm} {A : List Act} {R : List Chg} (h : Run fs A R) : A.length = R.length := by
  induction A generalizing fs R with
  | nil => cases R with
    | nil => rfl
    | cons d R => exact h.elim
  | cons b A ih => cases R with
    | nil => exact h.elim
    | cons d R => rw [List.length_cons, List.length_cons, ih h.2]
theorem Run.at_ {fs : Fm} {A : List Act} {R : List Chg} (h : Run fs A R) {i : Nat} (h1 : i < A.length) (h2 : i < R.length) : Works { st0 with now := doAll fs (R.take i) } A[i] R[i] := by
  induction A generalizing fs R i with
  | nil => exact absurd h1 (Nat.not_lt_zero i)
  | cons b A ih => cases R with
    | nil => exact h.elim
    | cons d R =>
      cases i with
      | zero => exact h.1
      | succ i => exact ih h.2 (by simpa using h1) (by simpa using h2)
end Go.Proofs.Ytejmoaloomnmkaa
