/-
  WHICH TRACK A TEXT SAYS, plain: the program's way and the document's, and that they are one.
-/
import Derived.Test.YtifdljdnpdefgaaMay
import Derived.Test.YtifdljdnpdefgaaBRefs
namespace Go.Proofs.Ytifdljdnpdefgaa
open Go.RowKit
/-- what is left of a tape, and its error -/
abbrev Tp := ByteArray × Int
def pn (x : Tp) : Nat × Tp := Bt.tNum x.1 x.2
theorem pn_lt (x : Tp) : (pn x).1 < 18446744073709551616 := Bt.tNum_lt _ _
theorem tk_le {α : Type} (z : α) (s : ByteArray) (e : Int) (r : α × Nat × Int) : (Bt.tk z s e r).2.1.size ≤ s.size := by
  unfold Bt.tk
  split
  · exact Nat.le_refl _
  · split
    · exact Nat.le_refl _
    · simp only [ByteArray.size_extract]; omega
theorem pn_le (x : Tp) : (pn x).2.1.size ≤ x.1.size := tk_le _ _ _ _
def aboveI (p : Int) (m : Nat) : Int := if idxB p = true ∧ (m : Int) < 549755813888 - p then p + 1 + m else -1
def pStep (S : List Int × Int × Tp) : List Int × Int × Tp := (S.1 ++ [aboveI S.2.1 (pn S.2.2).1], aboveI S.2.1 (pn S.2.2).1, (pn S.2.2).2)
def pIter : Nat → Int → Tp → List Int × Int × Tp
  | 0, p, t => ([], p, t)
  | k + 1, p, t => pStep (pIter k p t)
theorem pIter_len (k : Nat) (p : Int) (t : Tp) : (pIter k p t).1.length = k := by
  induction k with
  | zero => rfl
  | succ k ih => show (pStep (pIter k p t)).1.length = _; unfold pStep; rw [List.length_append, ih]; rfl
theorem pIter_le (k : Nat) (p : Int) (t : Tp) : (pIter k p t).2.2.1.size ≤ t.1.size := by
  induction k with
  | zero => exact Nat.le_refl _
  | succ k ih => exact Nat.le_trans (pn_le _) ih
def limN (n : Nat) (most : Nat) : Int := if most < n then -1 else n
def dStep (S : List Int × Int × Tp) : Option (List Int × Int × Tp) := if 549755813888 < (pn S.2.2).1 then none else some (S.1 ++ [S.2.1 + (pn S.2.2).1 + 1], S.2.1 + (pn S.2.2).1 + 1, (pn S.2.2).2)
def dIter : Nat → Int → Tp → Option (List Int × Int × Tp)
  | 0, p, t => some ([], p, t)
  | k + 1, p, t => (dIter k p t).bind dStep
theorem above_ok {p : Int} {m : Nat} (h : 0 ≤ aboveI p m) : aboveI p m = p + m + 1 ∧ m ≤ 549755813888 ∧ 0 ≤ p := by
  unfold aboveI at *
  split at h
  · rename_i hc
    rw [if_pos hc]
    have := hc.1
    unfold idxB at this
    simp only [Bool.and_eq_true, decide_eq_true_eq] at this
    omega
  · omega
theorem ok_above {p : Int} {m : Nat} (h0 : 0 ≤ p) (h : p + m + 1 ≤ 549755813888) : aboveI p m = p + m + 1 := by
  unfold aboveI
  rw [if_pos ⟨by unfold idxB; simp only [Bool.and_eq_true, decide_eq_true_eq]; omega, by omega⟩]
  omega
theorem p_to_d (k : Nat) (p : Int) (t : Tp) (h : ∀ x ∈ (pIter k p t).1, 0 ≤ x) : dIter k p t = some (pIter k p t) := by
  induction k with
  | zero => rfl
  | succ k ih =>
    have hs : ∀ x ∈ (pStep (pIter k p t)).1, 0 ≤ x := h
    unfold pStep at hs
    simp only [List.mem_append, List.mem_singleton] at hs
    have i := ih (fun x hx => hs x (.inl hx))
    have a := above_ok (hs _ (.inr rfl))
    show (dIter k p t).bind dStep = some (pStep (pIter k p t))
    rw [i]
    show dStep (pIter k p t) = _
    unfold dStep pStep
    rw [if_neg (by omega), a.1]
/-- what the document's way answers: where the last pick stands -/
theorem dIter_last (k : Nat) (p : Int) (t : Tp) (X : List Int × Int × Tp) (h : dIter k p t = some X) : p ≤ X.2.1 ∧ X.2.1 ≤ p + k * 549755813889 ∧ X.1.length = k ∧ X.2.1 = (p :: X.1).getD k 0 := by
  induction k generalizing X with
  | zero => cases h; simp
  | succ k ih =>
    rw [dIter, Option.bind_eq_some_iff] at h
    obtain ⟨Y, hY, hX⟩ := h
    obtain ⟨i1, i2, i3, _⟩ := ih Y hY
    unfold dStep at hX
    split at hX
    · cases hX
    · cases hX
      refine ⟨by simp only; omega, by simp only; omega, by simp only [List.length_append]; simp [i3], ?_⟩
      simp only [List.getD_cons_succ]
      rw [List.getD_eq_getElem?_getD, List.getElem?_append_right (by omega), i3, Nat.sub_self]; rfl
theorem d_to_p (k : Nat) (p : Int) (t : Tp) (X : List Int × Int × Tp) (h : dIter k p t = some X) (h0 : 0 ≤ p) (hm : X.2.1 ≤ 549755813888) : pIter k p t = X := by
  induction k generalizing X with
  | zero => cases h; rfl
  | succ k ih =>
    rw [dIter, Option.bind_eq_some_iff] at h
    obtain ⟨Y, hY, hX⟩ := h
    have l := dIter_last k p t Y hY
    unfold dStep at hX
    split at hX
    · cases hX
    · cases hX
      simp only at hm
      have i := ih Y hY (by omega)
      show pStep (pIter k p t) = _
      rw [i]
      unfold pStep
      rw [ok_above (by omega) hm]
/-- a run off a tape: the program's way -/
def pRun (t : Tp) : Rn × Tp :=
  if (pn (pn (pn (pn (pn t).2).2).2).2).1 = 0 then (⟨wrap64 (pn t).1, wrap64 (pn (pn t).2).1, wrap64 (pn (pn (pn t).2).2).1, (pn (pn (pn (pn t).2).2).2).1, []⟩, (pn (pn (pn (pn (pn t).2).2).2).2).2)
  else (⟨wrap64 (pn t).1, wrap64 (pn (pn t).2).1, wrap64 (pn (pn (pn t).2).2).1, (pn (pn (pn (pn t).2).2).2).1, wrap64 (pn t).1 :: (pIter (min ((pn (pn (pn (pn (pn t).2).2).2).2).1 - 1) 15) (wrap64 (pn t).1) (pn (pn (pn (pn (pn t).2).2).2).2).2).1⟩,
    (pIter (min ((pn (pn (pn (pn (pn t).2).2).2).2).1 - 1) 15) (wrap64 (pn t).1) (pn (pn (pn (pn (pn t).2).2).2).2).2).2.2)
/-- a run off a tape: the document's way -/
def dRun (t : Tp) : Option (Rn × Tp) :=
  if (pn (pn (pn (pn (pn t).2).2).2).2).1 < 1 ∨ 15 < (pn (pn (pn (pn (pn t).2).2).2).2).1 then none
  else (dIter ((pn (pn (pn (pn (pn t).2).2).2).2).1 - 1) (limN (pn t).1 549755813888) (pn (pn (pn (pn (pn t).2).2).2).2).2).map fun X =>
    (⟨limN (pn t).1 549755813888, limN (pn (pn t).2).1 9223372036854775807, limN (pn (pn (pn t).2).2).1 63, (pn (pn (pn (pn t).2).2).2).1, limN (pn t).1 549755813888 :: X.1⟩, X.2.2)
theorem wrap_lim {n : Nat} {most : Nat} (hn : n < 18446744073709551616) (hm : most ≤ 9223372036854775807) (h0 : 0 ≤ wrap64 (n : Int)) (h1 : wrap64 (n : Int) ≤ most) : wrap64 (n : Int) = limN n most := by
  unfold limN
  unfold wrap64 at *
  split
  · omega
  · omega
theorem lim_wrap {n : Nat} {most : Nat} (hm : most ≤ 9223372036854775807) (h0 : 0 ≤ limN n most) : wrap64 (n : Int) = limN n most := by
  unfold limN at *
  split at h0
  · omega
  · rename_i h
    rw [if_neg h]
    unfold wrap64
    omega
theorem keep_parts {c t l : Int} {L : List Rn} (h : keepB c t l L = true) : (0 ≤ c ∧ c ≤ 549755813888) ∧ 0 ≤ t ∧ (0 ≤ l ∧ l ≤ 549755813888) ∧ L.length ≤ 64 ∧ ∀ r ∈ L, runB r = true := by
  unfold keepB idxB at h
  simp only [Bool.and_eq_true, decide_eq_true_eq, List.all_eq_true] at h
  exact ⟨h.1, h.2.1, h.2.2.1, h.2.2.2.1, h.2.2.2.2⟩
theorem pick_nonneg {r : Rn} (h : runB r = true) : ∀ x ∈ r.P, 0 ≤ x := by
  obtain ⟨_, _, _, h4, _, h6, h7, _, h9⟩ := run_parts h
  intro x hx
  obtain ⟨i, hi, rfl⟩ := List.mem_iff_getElem.1 hx
  have := getD0_le h9 i hi
  rw [getD_at hi] at this
  omega
theorem run_p_to_d (t : Tp) (h : runB (pRun t).1 = true) : dRun t = some (pRun t) := by
  have hp := pick_nonneg h
  have hr := run_parts h
  have hq := getD0_le hr.2.2.2.2.2.2.2.2 ((pRun t).1.P.length - 1) (by omega)
  unfold pRun dRun at *
  have n0 := pn_lt t
  have n1 := pn_lt (pn t).2
  have n2 := pn_lt (pn (pn t).2).2
  generalize (pn (pn t).2).1 = y1 at *
  generalize (pn (pn (pn t).2).2).1 = y2 at *
  generalize (pn (pn (pn (pn t).2).2).2).1 = y3 at *
  generalize pn (pn (pn (pn (pn t).2).2).2).2 = y4 at *
  generalize (pn t).1 = y0 at *
  split at h
  · rename_i hn
    rw [if_pos hn] at hr
    simp at hr
  · rename_i hn
    rw [if_neg hn] at hp hr hq ⊢
    simp only [List.length_cons, pIter_len] at hr hp hq
    have e : min (y4.1 - 1) 15 = y4.1 - 1 := by omega
    rw [e] at hp hr hq ⊢
    obtain ⟨h1, h2, h3, h4, h5, h6, h7, h8, h9⟩ := hr
    rw [if_neg (by omega)]
    have i := p_to_d (y4.1 - 1) (wrap64 (y0 : Int)) y4.2 (fun x hx => hp x (List.mem_cons_of_mem _ hx))
    have e0 : wrap64 (y0 : Int) = limN y0 549755813888 := wrap_lim n0 (by omega) h7 (by omega)
    have e1 : wrap64 (y1 : Int) = limN y1 9223372036854775807 := wrap_lim n1 (by omega) h1 (by unfold wrap64; omega)
    have e2 : wrap64 (y2 : Int) = limN y2 63 := wrap_lim n2 (by omega) h2 (by omega)
    rw [← e0, ← e1, ← e2, i]
    rfl
theorem run_d_to_p (t : Tp) (X : Rn × Tp) (h : dRun t = some X) (hb : runB X.1 = true) : pRun t = X := by
  have hr := run_parts hb
  unfold pRun dRun at *
  generalize (pn (pn t).2).1 = y1 at *
  generalize (pn (pn (pn t).2).2).1 = y2 at *
  generalize (pn (pn (pn (pn t).2).2).2).1 = y3 at *
  generalize pn (pn (pn (pn (pn t).2).2).2).2 = y4 at *
  generalize (pn t).1 = y0 at *
  split at h
  · cases h
  · rename_i hn
    rw [Option.map_eq_some_iff] at h
    obtain ⟨Y, hY, rfl⟩ := h
    simp only [List.length_cons] at hr
    have l := dIter_last _ _ _ Y hY
    obtain ⟨h1, h2, h3, h4, h5, h6, h7, h8, h9⟩ := hr
    rw [if_neg (by omega)]
    have e : min (y4.1 - 1) 15 = y4.1 - 1 := by omega
    rw [e]
    have e0 : wrap64 (y0 : Int) = limN y0 549755813888 := lim_wrap (by omega) h7
    have e1 : wrap64 (y1 : Int) = limN y1 9223372036854775807 := lim_wrap (by omega) h1
    have e2 : wrap64 (y2 : Int) = limN y2 63 := lim_wrap (by omega) h2
    rw [e0, e1, e2]
    have hl : Y.2.1 ≤ 549755813888 := by rw [l.2.2.2, ← l.2.2.1]; exact h8
    rw [d_to_p _ _ _ Y hY h7 hl]
def pRuns : Nat → Tp → List Rn × Tp
  | 0, t => ([], t)
  | k + 1, t => ((pRuns k t).1 ++ [(pRun (pRuns k t).2).1], (pRun (pRuns k t).2).2)
def dRuns : Nat → Tp → Option (List Rn × Tp)
  | 0, t => some ([], t)
  | k + 1, t => (dRuns k t).bind fun X => (dRun X.2).map fun r => (X.1 ++ [r.1], r.2)
theorem pRuns_len (k : Nat) (t : Tp) : (pRuns k t).1.length = k := by
  induction k with
  | zero => rfl
  | succ k ih => show ((pRuns k t).1 ++ [(pRun (pRuns k t).2).1]).length = _; rw [List.length_append, ih]; rfl
theorem dRuns_len (k : Nat) (t : Tp) (X : List Rn × Tp) (h : dRuns k t = some X) : X.1.length = k := by
  induction k generalizing X with
  | zero => cases h; rfl
  | succ k ih =>
    rw [dRuns, Option.bind_eq_some_iff] at h
    obtain ⟨Y, hY, hX⟩ := h
    rw [Option.map_eq_some_iff] at hX
    obtain ⟨r, _, rfl⟩ := hX
    simp only [List.length_append, ih Y hY]; rfl
theorem runs_p_to_d (k : Nat) (t : Tp) (h : ∀ r ∈ (pRuns k t).1, runB r = true) : dRuns k t = some (pRuns k t) := by
  induction k with
  | zero => rfl
  | succ k ih =>
    have hs : ∀ r ∈ (pRuns k t).1 ++ [(pRun (pRuns k t).2).1], runB r = true := h
    simp only [List.mem_append, List.mem_singleton] at hs
    rw [dRuns, ih (fun r hr => hs r (.inl hr))]
    show (dRun (pRuns k t).2).map _ = _
    rw [run_p_to_d _ (hs _ (.inr rfl))]
    rfl
theorem runs_d_to_p (k : Nat) (t : Tp) (X : List Rn × Tp) (h : dRuns k t = some X) (hb : ∀ r ∈ X.1, runB r = true) : pRuns k t = X := by
  induction k generalizing X with
  | zero => cases h; rfl
  | succ k ih =>
    rw [dRuns, Option.bind_eq_some_iff] at h
    obtain ⟨Y, hY, hX⟩ := h
    rw [Option.map_eq_some_iff] at hX
    obtain ⟨r, hr, rfl⟩ := hX
    simp only [List.mem_append, List.mem_singleton] at hb
    have i := ih Y hY (fun r hr => hb r (.inl hr))
    show ((pRuns k t).1 ++ [(pRun (pRuns k t).2).1], (pRun (pRuns k t).2).2) = _
    rw [i, run_d_to_p _ r hr (hb _ (.inr rfl))]
/-- a track -/
abbrev Tr := Int × Int × Int × List Rn
def mayT (x : Tr) (t : Tp) : Bool := Bt.endE t.1 t.2 == 0 && keepB x.1 x.2.1 x.2.2.1 x.2.2.2
def pAll (s : ByteArray) : Tr × Tp :=
  ((wrap64 (pn (s, 0)).1, wrap64 (pn (pn (s, 0)).2).1, wrap64 (pn (pn (pn (s, 0)).2).2).1, (pRuns (min (pn (pn (pn (pn (s, 0)).2).2).2).1 65) (pn (pn (pn (pn (s, 0)).2).2).2).2).1),
    (pRuns (min (pn (pn (pn (pn (s, 0)).2).2).2).1 65) (pn (pn (pn (pn (s, 0)).2).2).2).2).2)
def pRead (s : ByteArray) : Option Tr := if mayT (pAll s).1 (pAll s).2 = true then some (pAll s).1 else none
def dAll (s : ByteArray) : Option (Tr × Tp) :=
  if 64 < (pn (pn (pn (pn (s, 0)).2).2).2).1 then none
  else (dRuns (pn (pn (pn (pn (s, 0)).2).2).2).1 (pn (pn (pn (pn (s, 0)).2).2).2).2).map fun X =>
    ((limN (pn (s, 0)).1 549755813888, limN (pn (pn (s, 0)).2).1 9223372036854775807, limN (pn (pn (pn (s, 0)).2).2).1 549755813888, X.1), X.2)
def dRead (s : ByteArray) : Option Tr := (dAll s).bind fun X => if mayT X.1 X.2 = true then some X.1 else none
theorem read_one (s : ByteArray) : dRead s = pRead s := by
  have n0 := pn_lt (s, 0)
  have n1 := pn_lt (pn (s, 0)).2
  have n2 := pn_lt (pn (pn (s, 0)).2).2
  cases hp : pRead s with
  | some x =>
    unfold pRead at hp
    split at hp
    · rename_i hm
      cases hp
      unfold dRead dAll
      unfold pAll at hm ⊢
      generalize (pn (pn (s, 0)).2).1 = y1 at *
      generalize (pn (pn (pn (s, 0)).2).2).1 = y2 at *
      generalize pn (pn (pn (pn (s, 0)).2).2).2 = y3 at *
      generalize (pn (s, 0)).1 = y0 at *
      have hm' := hm
      unfold mayT at hm'
      simp only [Bool.and_eq_true, beq_iff_eq] at hm'
      obtain ⟨hm1, hm2⟩ := hm'
      have b := keep_parts hm2
      rw [pRuns_len] at b
      obtain ⟨b1, b2, b3, b4, b5⟩ := b
      have e : min y3.1 65 = y3.1 := by omega
      rw [e] at hm b5 ⊢
      rw [if_neg (by omega), runs_p_to_d _ _ b5]
      have e0 : wrap64 (y0 : Int) = limN y0 549755813888 := wrap_lim n0 (by omega) b1.1 (by omega)
      have e1 : wrap64 (y1 : Int) = limN y1 9223372036854775807 := wrap_lim n1 (by omega) b2 (by unfold wrap64; omega)
      have e2 : wrap64 (y2 : Int) = limN y2 549755813888 := wrap_lim n2 (by omega) b3.1 (by omega)
      rw [e0, e1, e2] at hm ⊢
      simp only [Option.map_some, Option.bind_some]
      rw [if_pos hm]
    · cases hp
  | none =>
    cases hd : dRead s with
    | none => rfl
    | some x =>
      exfalso
      unfold dRead at hd
      rw [Option.bind_eq_some_iff] at hd
      obtain ⟨Y, hY, hx⟩ := hd
      split at hx
      · rename_i hm
        cases hx
        unfold dAll at hY
        unfold pRead pAll at hp
        generalize (pn (pn (s, 0)).2).1 = y1 at *
        generalize (pn (pn (pn (s, 0)).2).2).1 = y2 at *
        generalize pn (pn (pn (pn (s, 0)).2).2).2 = y3 at *
        generalize (pn (s, 0)).1 = y0 at *
        split at hY
        · cases hY
        · rw [Option.map_eq_some_iff] at hY
          obtain ⟨X, hX, rfl⟩ := hY
          have hm' := hm
          unfold mayT at hm'
          simp only [Bool.and_eq_true, beq_iff_eq] at hm'
          obtain ⟨hm1, hm2⟩ := hm'
          obtain ⟨b1, b2, b3, b4, b5⟩ := keep_parts hm2
          have e : min y3.1 65 = y3.1 := by omega
          have e0 : wrap64 (y0 : Int) = limN y0 549755813888 := lim_wrap (by omega) b1.1
          have e1 : wrap64 (y1 : Int) = limN y1 9223372036854775807 := lim_wrap (by omega) b2
          have e2 : wrap64 (y2 : Int) = limN y2 549755813888 := lim_wrap (by omega) b3.1
          rw [e, e0, e1, e2, runs_d_to_p _ _ X hX b5, if_pos hm] at hp
          cases hp
      · cases hx
end Go.Proofs.Ytifdljdnpdefgaa
