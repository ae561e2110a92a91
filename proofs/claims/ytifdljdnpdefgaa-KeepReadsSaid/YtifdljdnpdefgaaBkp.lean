/-
  WHAT IS WRITTEN IS READ AS IT WAS; WHAT IS READ IS JUST WHAT IS WRITTEN: plain.
-/
import Derived.Test.YtifdljdnpdefgaaRed
import Derived.Test.YtifdljdnpdefgaaKlw
import Derived.Test.YtifdljdnpdefgaaBWas
import Derived.Test.YtifdljdnpdefgaaBOne
namespace Go.Proofs.Ytifdljdnpdefgaa
open Go.RowKit
theorem drop_cat (a b : ByteArray) : (a ++ b).extract a.size (a ++ b).size = b := Bt.bytes_ext (by
  rw [Bt.ext_data, Bt.cat_data, List.drop_left' (by rw [Lib.size_eq])])
theorem num_put (n : Nat) (hn : n < 18446744073709551616) (rest : ByteArray) : pn (Bt.numS (n : Int) ++ rest, 0) = (n, (rest, 0)) := by
  unfold pn Bt.tNum
  simp only
  rw [Bt.cat_data, Bt.rd_num n hn, Bt.tk_ok, drop_cat]
theorem num_putI (n : Int) (h0 : 0 ≤ n) (hn : n < 18446744073709551616) (rest : ByteArray) : pn (Bt.numS n ++ rest, 0) = (n.toNat, (rest, 0)) := by
  have h := num_put n.toNat (by omega) rest
  rw [show ((n.toNat : Nat) : Int) = n by omega] at h
  exact h
theorem num_get (t : Tp) (h : (pn t).2.2 = 0) : t.2 = 0 ∧ Bt.numS ((pn t).1 : Int) ++ (pn t).2.1 = t.1 := by
  obtain ⟨s, e⟩ := t
  unfold pn Bt.tNum at *
  simp only at *
  by_cases he : e = 0
  · subst he
    by_cases hr : (Bt.rdNum s.data.toList).2.2 = 0
    · refine ⟨rfl, ?_⟩
      have hb := Bt.num_back s hr
      unfold Bt.tk
      rw [if_neg (by simp), if_neg (by simp [hr])]
      exact hb
    · exfalso
      unfold Bt.tk at h
      rw [if_neg (by simp), if_pos hr] at h
      exact hr h
  · exfalso
    rw [Bt.tk_stays _ _ _ he] at h
    exact he h
theorem gaps_cons (p : Int) (L : List Int) (q : Int) (k : Nat) (hk : k ≤ L.length) : gaps (p :: (L ++ [q])) k = gaps (p :: L) k := by
  unfold gaps
  apply List.map_congr_left
  intro i hi
  have hi' := List.mem_range.1 hi
  have e1 : (p :: (L ++ [q])).getD (i + 1) 0 = (p :: L).getD (i + 1) 0 := by
    simp only [List.getD_eq_getElem?_getD, List.getElem?_cons_succ]
    rw [List.getElem?_append_left (by omega)]
  have e2 : (p :: (L ++ [q])).getD i 0 = (p :: L).getD i 0 := by
    cases i with
    | zero => rfl
    | succ i =>
      simp only [List.getD_eq_getElem?_getD, List.getElem?_cons_succ]
      rw [List.getElem?_append_left (by omega)]
  rw [e1, e2]
theorem last_cons (p : Int) (L : List Int) (q : Int) : (p :: (L ++ [q])).getD (L.length + 1) 0 = q := by
  simp only [List.getD_eq_getElem?_getD, List.getElem?_cons_succ]
  rw [List.getElem?_append_right (Nat.le_refl _), Nat.sub_self]; rfl
theorem near_cons (p : Int) (L : List Int) (q : Int) : (p :: (L ++ [q])).getD L.length 0 = (p :: L).getD L.length 0 := by
  cases h : L.length with
  | zero => rfl
  | succ k =>
    simp only [List.getD_eq_getElem?_getD, List.getElem?_cons_succ]
    rw [List.getElem?_append_left (by omega)]
theorem iter_last (k : Nat) (p : Int) (t : Tp) : (pIter k p t).2.1 = (p :: (pIter k p t).1).getD k 0 := by
  cases k with
  | zero => rfl
  | succ k =>
    show (pStep (pIter k p t)).2.1 = (p :: (pStep (pIter k p t)).1).getD (k + 1) 0
    have hl := pIter_len k p t
    generalize pIter k p t = S at *
    unfold pStep
    simp only
    rw [← hl, last_cons]
/-- picks that were taken, written again -/
theorem iter_get (k : Nat) (p : Int) (t : Tp) (h : ∀ x ∈ (pIter k p t).1, 0 ≤ x) (he : (pIter k p t).2.2.2 = 0) : t.2 = 0 ∧ catS (gaps (p :: (pIter k p t).1) k) ++ (pIter k p t).2.2.1 = t.1 := by
  induction k with
  | zero => exact ⟨he, nil_app _⟩
  | succ k ih =>
    have hs : ∀ x ∈ (pStep (pIter k p t)).1, 0 ≤ x := h
    have he' : (pStep (pIter k p t)).2.2.2 = 0 := he
    have hl := pIter_len k p t
    have hla := iter_last k p t
    show t.2 = 0 ∧ catS (gaps (p :: (pStep (pIter k p t)).1) (k + 1)) ++ (pStep (pIter k p t)).2.2.1 = t.1
    generalize pIter k p t = S at *
    unfold pStep at *
    simp only [List.mem_append, List.mem_singleton] at hs he' ⊢
    have a := above_ok (hs _ (.inr rfl))
    have g := num_get S.2.2 he'
    obtain ⟨i1, i2⟩ := ih (fun x hx => hs x (.inl hx)) g.1
    refine ⟨i1, ?_⟩
    rw [gaps_succ, gaps_cons _ _ _ _ (by omega), catS_snoc, catN1]
    have e1 := last_cons p S.1 (aboveI S.2.1 (pn S.2.2).1)
    have e2 := near_cons p S.1 (aboveI S.2.1 (pn S.2.2).1)
    rw [hl] at e1 e2
    rw [e1, e2, ← hla, a.1, show S.2.1 + ((pn S.2.2).1 : Int) + 1 - S.2.1 - 1 = ((pn S.2.2).1 : Int) by omega, app_assoc, g.2]
    exact i2
theorem wrap_id {n : Nat} (h : n < 18446744073709551616) (h0 : 0 ≤ wrap64 (n : Int)) : wrap64 (n : Int) = n := by
  unfold wrap64 at *
  omega
/-- a run that was taken, written again -/
theorem run_get (t : Tp) (h : runB (pRun t).1 = true) (he : (pRun t).2.2 = 0) : t.2 = 0 ∧ runS (pRun t).1 ++ (pRun t).2.1 = t.1 := by
  have hp := pick_nonneg h
  have hr := run_parts h
  have n0 := pn_lt t
  have n1 := pn_lt (pn t).2
  have n2 := pn_lt (pn (pn t).2).2
  have g0 := num_get t
  have g1 := num_get (pn t).2
  have g2 := num_get (pn (pn t).2).2
  have g3 := num_get (pn (pn (pn t).2).2).2
  have g4 := num_get (pn (pn (pn (pn t).2).2).2).2
  unfold pRun at *
  generalize pn (pn (pn (pn (pn t).2).2).2).2 = y4 at *
  generalize pn (pn (pn (pn t).2).2).2 = y3 at *
  generalize pn (pn (pn t).2).2 = y2 at *
  generalize pn (pn t).2 = y1 at *
  generalize pn t = y0 at *
  split at h
  · rename_i hn
    rw [if_pos hn] at hr
    simp at hr
  · rename_i hn
    rw [if_neg hn] at hp hr he ⊢
    simp only [List.length_cons, pIter_len] at hr hp he ⊢
    have e : min (y4.1 - 1) 15 = y4.1 - 1 := by omega
    rw [e] at hp hr he ⊢
    obtain ⟨h1, h2, h3, h4, h5, h6, h7, h8, h9⟩ := hr
    have i := iter_get (y4.1 - 1) (wrap64 (y0.1 : Int)) y4.2 (fun x hx => hp x (List.mem_cons_of_mem _ hx)) he
    have G4 := g4 i.1
    have G3 := g3 G4.1
    have G2 := g2 G3.1
    have G1 := g1 G2.1
    have G0 := g0 G1.1
    refine ⟨G0.1, ?_⟩
    unfold runS headS
    simp only [List.length_cons, pIter_len]
    rw [catN3, catN1, wrap_id n0 h7, wrap_id n1 h1, wrap_id n2 h2]
    rw [wrap_id n0 h7] at i
    rw [show ((y4.1 - 1 + 1 : Nat) : Int) = (y4.1 : Int) by omega, Nat.add_sub_cancel]
    simp only [app_assoc]
    rw [i.2, G4.2, G3.2, G2.2, G1.2, G0.2]
theorem runsS_pre (s : ByteArray) (L : List Rn) : runsS s L = s ++ runsS ⟨#[]⟩ L := by
  have aux : ∀ (L : List Rn) (s u : ByteArray), L.foldl (fun s r => s ++ runS r) (s ++ u) = s ++ L.foldl (fun s r => s ++ runS r) u := by
    intro L
    induction L with
    | nil => intro s u; rfl
    | cons r L ih => intro s u; rw [List.foldl_cons, List.foldl_cons, app_assoc, ih]
  unfold runsS
  have := aux L s ⟨#[]⟩
  rw [app_nil] at this
  exact this
/-- runs that were taken, written again -/
theorem runs_get (k : Nat) (t : Tp) (h : ∀ r ∈ (pRuns k t).1, runB r = true) (he : (pRuns k t).2.2 = 0) : t.2 = 0 ∧ runsS ⟨#[]⟩ (pRuns k t).1 ++ (pRuns k t).2.1 = t.1 := by
  induction k with
  | zero => exact ⟨he, nil_app _⟩
  | succ k ih =>
    have hs : ∀ r ∈ (pRuns k t).1 ++ [(pRun (pRuns k t).2).1], runB r = true := h
    have he' : (pRun (pRuns k t).2).2.2 = 0 := he
    show t.2 = 0 ∧ runsS ⟨#[]⟩ ((pRuns k t).1 ++ [(pRun (pRuns k t).2).1]) ++ (pRun (pRuns k t).2).2.1 = t.1
    simp only [List.mem_append, List.mem_singleton] at hs
    have g := run_get _ (hs _ (.inr rfl)) he'
    obtain ⟨i1, i2⟩ := ih (fun r hr => hs r (.inl hr)) g.1
    refine ⟨i1, ?_⟩
    rw [runsS_snoc, app_assoc, g.2]
    exact i2
/-- WHAT IS READ IS JUST WHAT IS WRITTEN -/
theorem read_write (s : ByteArray) (x : Tr) (h : pRead s = some x) : keepB x.1 x.2.1 x.2.2.1 x.2.2.2 = true ∧ textS x.1 x.2.1 x.2.2.1 x.2.2.2 = s := by
  unfold pRead at h
  split at h
  · rename_i hm
    cases h
    unfold mayT at hm
    simp only [Bool.and_eq_true, beq_iff_eq] at hm
    obtain ⟨hm1, hm2⟩ := hm
    refine ⟨hm2, ?_⟩
    have n0 := pn_lt (s, 0)
    have n1 := pn_lt (pn (s, 0)).2
    have n2 := pn_lt (pn (pn (s, 0)).2).2
    have g0 := num_get (s, 0)
    have g1 := num_get (pn (s, 0)).2
    have g2 := num_get (pn (pn (s, 0)).2).2
    have g3 := num_get (pn (pn (pn (s, 0)).2).2).2
    unfold pAll at *
    generalize pn (pn (pn (pn (s, 0)).2).2).2 = y3 at *
    generalize pn (pn (pn (s, 0)).2).2 = y2 at *
    generalize pn (pn (s, 0)).2 = y1 at *
    generalize pn (s, 0) = y0 at *
    obtain ⟨b1, b2, b3, b4, b5⟩ := keep_parts hm2
    simp only at *
    rw [pRuns_len] at b4
    have e : min y3.1 65 = y3.1 := by omega
    rw [e] at hm1 b5 ⊢
    have hE : (pRuns y3.1 y3.2).2.2 = 0 ∧ (pRuns y3.1 y3.2).2.1.size = 0 := by
      unfold Bt.endE at hm1
      split at hm1
      · rename_i h0; exact absurd hm1 h0
      · rename_i h0
        split at hm1
        · rename_i h1; exact ⟨by simpa using h0, h1⟩
        · simp at hm1
    have r := runs_get y3.1 y3.2 b5 hE.1
    have hz : (pRuns y3.1 y3.2).2.1 = ⟨#[]⟩ := ByteArray.ext (Array.eq_empty_of_size_eq_zero hE.2)
    rw [hz, app_nil] at r
    have G3 := g3 r.1
    have G2 := g2 G3.1
    have G1 := g1 G2.1
    have G0 := g0 G1.1
    unfold textS
    rw [runsS_pre, pRuns_len, catN4, wrap_id n0 b1.1, wrap_id n1 b2, wrap_id n2 b3.1, r.2]
    simp only [app_assoc]
    rw [G3.2, G2.2, G1.2, G0.2]
  · cases h
/-- picks that were written, taken again -/
theorem iter_put (P : List Int) (p : Int) (k : Nat) (hk : k < P.length) (hr : riseR P) (h0 : P.getD 0 0 = p) (h1 : 0 ≤ p) (hm : P.getD (P.length - 1) 0 ≤ 549755813888) (rest : ByteArray) :
    pIter k p (catS (gaps P k) ++ rest, 0) = ((P.drop 1).take k, P.getD k 0, (rest, 0)) := by
  induction k generalizing rest with
  | zero => rw [show catS (gaps P 0) = ⟨#[]⟩ from rfl, nil_app, h0]; rfl
  | succ k ih =>
    have ha := hr k hk
    have hb := getD0_le hr k (by omega)
    have hc := le_last hr (P.length - 1 - (k + 1)) (k + 1) (by omega)
    rw [show k + 1 + (P.length - 1 - (k + 1)) = P.length - 1 by omega] at hc
    rw [gaps_succ, catS_snoc, catN1, app_assoc]
    show pStep (pIter k p _) = _
    rw [ih (by omega)]
    unfold pStep
    simp only
    rw [num_putI _ (by omega) (by omega), ok_above (by omega) (by omega)]
    simp only
    have e : P.getD k 0 + ((P.getD (k + 1) 0 - P.getD k 0 - 1).toNat : Int) + 1 = P.getD (k + 1) 0 := by omega
    rw [e, List.take_succ_eq_append_getElem (by rw [List.length_drop]; omega)]
    congr 2
    rw [List.getElem_drop, getD_at hk]
    simp only [Nat.add_comm]
/-- a run that was written, taken again -/
theorem run_put (r : Rn) (h : runB r = true) (ho : r.t ≤ 9223372036854775807 ∧ 0 ≤ r.n ∧ r.n < 18446744073709551616) (rest : ByteArray) : pRun (runS r ++ rest, 0) = (r, (rest, 0)) := by
  obtain ⟨h1, h2, h3, h4, h5, h6, h7, h8, h9⟩ := run_parts h
  obtain ⟨rb, rt, rs, rn, P⟩ := r
  simp only at *
  have hb : rb ≤ 549755813888 := by
    have := getD0_le h9 (P.length - 1) (by omega)
    omega
  have e : runS ⟨rb, rt, rs, rn, P⟩ ++ rest = Bt.numS rb ++ (Bt.numS rt ++ (Bt.numS rs ++ (Bt.numS rn ++ (Bt.numS (P.length : Int) ++ (catS (gaps P (P.length - 1)) ++ rest))))) := by
    unfold runS headS
    simp only
    rw [catN3, catN1]
    simp only [app_assoc]
  have w0 : wrap64 ((rb.toNat : Nat) : Int) = rb := by unfold wrap64; omega
  have w1 : wrap64 ((rt.toNat : Nat) : Int) = rt := by unfold wrap64; omega
  have w2 : wrap64 ((rs.toNat : Nat) : Int) = rs := by unfold wrap64; omega
  have w3 : ((rn.toNat : Nat) : Int) = rn := by omega
  have ip := iter_put P rb (P.length - 1) (by omega) h9 h6 h7 h8 rest
  rw [e]
  unfold pRun
  rw [num_putI rb h7 (by omega)]
  simp only
  rw [num_putI rt h1 (by omega)]
  simp only
  rw [num_putI rs h2 (by omega)]
  simp only
  rw [num_putI rn ho.2.1 ho.2.2]
  simp only
  rw [num_put P.length (by omega)]
  simp only
  rw [if_neg (by omega), show min (P.length - 1) 15 = P.length - 1 by omega, w0, w1, w2, w3, ip]
  simp only
  rw [List.take_of_length_le (by rw [List.length_drop]; omega)]
  cases P with
  | nil => simp at h4
  | cons p P =>
    have : p = rb := by simpa using h6
    subst this
    rfl
theorem runs_put (L : List Rn) (h : ∀ r ∈ L, runB r = true ∧ (r.t ≤ 9223372036854775807 ∧ 0 ≤ r.n ∧ r.n < 18446744073709551616)) (k : Nat) (hk : k ≤ L.length) (rest : ByteArray) : pRuns k (runsS ⟨#[]⟩ (L.take k) ++ rest, 0) = (L.take k, (rest, 0)) := by
  induction k generalizing rest with
  | zero => rw [show runsS ⟨#[]⟩ (L.take 0) = ⟨#[]⟩ from rfl, nil_app]; rfl
  | succ k ih =>
    have hkl : k < L.length := by omega
    have hr := h L[k] (List.getElem_mem hkl)
    rw [List.take_succ_eq_append_getElem hkl, runsS_snoc, app_assoc]
    show ((pRuns k _).1 ++ [(pRun (pRuns k _).2).1], (pRun (pRuns k _).2).2) = _
    rw [ih (by omega)]
    simp only
    rw [run_put _ hr.1 hr.2]
/-- WHAT IS WRITTEN IS READ AS IT WAS -/
theorem write_read {c t l : Int} {L : List Rn} (h : keepB c t l L = true) (ht : t ≤ 9223372036854775807) (ho : ∀ r ∈ L, r.t ≤ 9223372036854775807 ∧ 0 ≤ r.n ∧ r.n < 18446744073709551616) : pRead (textS c t l L) = some (c, t, l, L) := by
  obtain ⟨b1, b2, b3, b4, b5⟩ := keep_parts h
  have rp := runs_put L (fun r hr => ⟨b5 r hr, ho r hr⟩) L.length (Nat.le_refl _) ⟨#[]⟩
  rw [List.take_length, app_nil] at rp
  have e : textS c t l L = Bt.numS c ++ (Bt.numS t ++ (Bt.numS l ++ (Bt.numS (L.length : Int) ++ runsS ⟨#[]⟩ L))) := by
    unfold textS
    rw [runsS_pre, catN4]
    simp only [app_assoc]
  have w0 : wrap64 ((c.toNat : Nat) : Int) = c := by unfold wrap64; omega
  have w1 : wrap64 ((t.toNat : Nat) : Int) = t := by unfold wrap64; omega
  have w2 : wrap64 ((l.toNat : Nat) : Int) = l := by unfold wrap64; omega
  have ea : pAll (textS c t l L) = ((c, t, l, L), (⟨#[]⟩, 0)) := by
    rw [e]
    unfold pAll
    rw [num_putI c b1.1 (by omega)]
    simp only
    rw [num_putI t b2 (by omega)]
    simp only
    rw [num_putI l b3.1 (by omega)]
    simp only
    rw [num_put L.length (by omega)]
    simp only
    rw [show min L.length 65 = L.length by omega, w0, w1, w2, rp]
  unfold pRead
  rw [ea]
  have hm : mayT (c, t, l, L) (⟨#[]⟩, 0) = true := by
    unfold mayT
    simp only
    rw [h]
    rfl
  simp only
  rw [if_pos hm]
end Go.Proofs.Ytifdljdnpdefgaa
