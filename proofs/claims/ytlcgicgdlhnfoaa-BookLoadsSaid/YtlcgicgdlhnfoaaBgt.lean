/-
  BookLoads: what is read is just what is written, plainly.
-/
import Derived.Test.YtlcgicgdlhnfoaaBlb
namespace Go.Proofs.Ytlcgicgdlhnfoaa
open Go.RowKit
theorem num_get (t : Tp) (h : (pn t).2.2 = 0) : t.2 = 0 ∧ Bt.numS ((pn t).1 : Int) ++ (pn t).2.1 = t.1 := by
  obtain ⟨s, e⟩ := t
  unfold pn Bt.tNum at *
  simp only at *
  by_cases he : e = 0
  · subst he
    by_cases hr : (Bt.rdNum s.data.toList).2.2 = 0
    · refine ⟨rfl, ?_⟩
      have hb := Bt.num_back s hr
      unfold Bt.tk
      rw [if_neg (by simp), if_neg (by simp [hr])]
      exact hb
    · exfalso
      unfold Bt.tk at h
      rw [if_neg (by simp), if_pos hr] at h
      exact hr h
  · exfalso
    rw [Bt.tk_stays _ _ _ he] at h
    exact he h
/-- numbers that were read are those that were written, where none is below nought -/
theorem pNs_get : ∀ (k : Nat) (t : Tp), (pNs k t).2.2 = 0 → (∀ x ∈ (pNs k t).1, 0 ≤ x) → t.2 = 0 ∧ pkS (pNs k t).1 ++ (pNs k t).2.1 = t.1
  | 0, t, h, _ => ⟨h, ba_nil_l _⟩
  | k + 1, t, h, hx => by
    have e1 : (pNs (k + 1) t).1 = (pNs k t).1 ++ [IntKind.i64.wrap ((pn (pNs k t).2).1 : Int)] := rfl
    have e2 : (pNs (k + 1) t).2 = (pn (pNs k t).2).2 := rfl
    rw [e2] at h
    obtain ⟨g1, g2⟩ := num_get _ h
    obtain ⟨i1, i2⟩ := pNs_get k t g1 (fun x hm => hx x (by rw [e1]; exact List.mem_append_left _ hm))
    have hl := pn_lt (pNs k t).2
    have h0 : 0 ≤ IntKind.i64.wrap ((pn (pNs k t).2).1 : Int) := hx _ (by rw [e1]; simp)
    have hw : IntKind.i64.wrap ((pn (pNs k t).2).1 : Int) = ((pn (pNs k t).2).1 : Int) := by
      rw [IntKind.wrap_i64] at h0 ⊢; omega
    refine ⟨i1, ?_⟩
    rw [e1, e2, hw, pkS_app]
    have e3 : pkS [((pn (pNs k t).2).1 : Int)] = Bt.numS ((pn (pNs k t).2).1 : Int) := ba_nil _
    rw [e3, ba_assoc, g2, i2]
theorem pMt_get (t : Tp) (h : (pMt t).2.2 = 0) (hm : mayB (pMt t).1 = true) : t.2 = 0 ∧ mtS (pMt t).1 ++ (pMt t).2.1 = t.1 := by
  have hl := mayB_len hm
  have e : (pMt t).1.length = min (pn t).1 17 := pNs_len _ _
  have hn : min (pn t).1 17 = (pn t).1 := by omega
  unfold pMt at *
  rw [hn] at h hm ⊢
  obtain ⟨g1, g2⟩ := pNs_get _ _ h (fun x hx => (mayB_all hm x hx).1)
  obtain ⟨g3, g4⟩ := num_get _ g1
  refine ⟨g3, ?_⟩
  unfold mtS
  rw [pNs_len, ba_assoc, g2, g4]
theorem pLd_get {base : Int} : ∀ (k : Nat) (t : Tp) (r : List (List Int) × Tp), pLd base k t = some r → r.2.2 = 0 → t.2 = 0 ∧ bodS r.1 ++ r.2.1 = t.1 ∧ r.1.length = k
  | 0, t, r, h, h2 => by
    unfold pLd at h
    cases h
    exact ⟨h2, ba_nil_l _, rfl⟩
  | k + 1, t, r, h, h2 => by
    unfold pLd at h
    obtain ⟨r0, h0, h1⟩ := Option.bind_eq_some_iff.1 h
    by_cases hE : ptE base r0.1 (pMt r0.2).1 = 0
    · rw [if_pos hE] at h1
      cases h1
      have hm : mayB (pMt r0.2).1 = true := by
        unfold ptE at hE
        by_cases hm : mayB (pMt r0.2).1 = true
        · exact hm
        · rw [if_neg hm] at hE; exact absurd hE (by decide)
      obtain ⟨g1, g2⟩ := pMt_get _ h2 hm
      obtain ⟨i1, i2, i3⟩ := pLd_get k t r0 h0 g1
      refine ⟨i1, ?_, by simp [i3]⟩
      show bodS (r0.1 ++ [(pMt r0.2).1]) ++ (pMt r0.2).2.1 = _
      rw [bodS_app]
      have e3 : bodS [(pMt r0.2).1] = mtS (pMt r0.2).1 := ba_nil _
      rw [e3, ba_assoc, g2, i2]
    · rw [if_neg hE] at h1; cases h1
/-- WHAT IS READ IS JUST WHAT IS WRITTEN -/
theorem pLoad_get {s : ByteArray} {base : Int} {LL : List (List Int)} (h : pLoad s = some (base, LL)) : txtS base LL = s := by
  unfold pLoad at h
  by_cases hb : 549755813888 < (pn (s, 0)).1 ∨ 64 < (pn (pn (s, 0)).2).1
  · rw [if_pos hb] at h; cases h
  rw [if_neg hb] at h
  obtain ⟨r, h0, h1⟩ := Option.bind_eq_some_iff.1 h
  by_cases hE : Bt.endE r.2.1 r.2.2 = 0
  · rw [if_pos hE] at h1
    cases h1
    have he : r.2.2 = 0 ∧ r.2.1.size = 0 := by
      unfold Bt.endE at hE
      by_cases h1 : r.2.2 ≠ 0
      · rw [if_pos h1] at hE; exact absurd hE h1
      · rw [if_neg h1] at hE
        by_cases h2 : r.2.1.size = 0
        · exact ⟨by simpa using h1, h2⟩
        · rw [if_neg h2] at hE; exact absurd hE (by decide)
    obtain ⟨g1, g2, g3⟩ := pLd_get _ _ _ h0 he.1
    obtain ⟨i1, i2⟩ := num_get _ g1
    obtain ⟨j1, j2⟩ := num_get _ i1
    have hz : r.2.1 = ⟨#[]⟩ := by
      apply ByteArray.ext
      have := he.2
      exact Array.size_eq_zero_iff.1 this
    rw [hz, ba_nil] at g2
    unfold txtS
    rw [g3, ba_assoc, g2, i2, j2]
  · rw [if_neg hE] at h1; cases h1
end Go.Proofs.Ytlcgicgdlhnfoaa
