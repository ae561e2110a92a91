/-
  BookLoads: the document's Load, plainly.
-/
import Derived.Test.YtlcgicgdlhnfoaaBgt
namespace Go.Proofs.Ytlcgicgdlhnfoaa
open Go.RowKit
/-- numbers, as the document takes them -/
def dNs : Nat → Tp → Option (List Int × Tp)
  | 0, t => some ([], t)
  | k + 1, t => (dNs k t).bind fun r => if 549755813888 < (pn r.2).1 then none else some (r.1 ++ [((pn r.2).1 : Int)], (pn r.2).2)
def dMt (t : Tp) : Option (List Int × Tp) := if 16 < (pn t).1 then none else (dNs (pn t).1 (pn t).2).bind fun r => if mayB r.1 = true then some r else none
def dLd : Nat → Tp → Option (List (List Int) × Tp)
  | 0, t => some ([], t)
  | k + 1, t => (dLd k t).bind fun r => (dMt r.2).bind fun m => some (r.1 ++ [m.1], m.2)
theorem dNs_none {k n : Nat} {t : Tp} (h : dNs k t = none) (hn : k ≤ n) : dNs n t = none := by
  induction hn with
  | refl => exact h
  | step _ ih => unfold dNs; rw [ih]; rfl
theorem dLd_none {k n : Nat} {t : Tp} (h : dLd k t = none) (hn : k ≤ n) : dLd n t = none := by
  induction hn with
  | refl => exact h
  | step _ ih => unfold dLd; rw [ih]; rfl
theorem dNs_pNs : ∀ (k : Nat) (t : Tp) (r : List Int × Tp), dNs k t = some r → pNs k t = r
  | 0, t, r, h => by unfold dNs at h; cases h; rfl
  | k + 1, t, r, h => by
    unfold dNs at h
    obtain ⟨r0, h0, h1⟩ := Option.bind_eq_some_iff.1 h
    have ih := dNs_pNs k t r0 h0
    by_cases hb : 549755813888 < (pn r0.2).1
    · rw [if_pos hb] at h1; cases h1
    · rw [if_neg hb] at h1
      cases h1
      show ((pNs k t).1 ++ [IntKind.i64.wrap ((pn (pNs k t).2).1 : Int)], (pn (pNs k t).2).2) = _
      rw [ih, show IntKind.i64.wrap ((pn r0.2).1 : Int) = ((pn r0.2).1 : Int) by rw [IntKind.wrap_i64]; omega]
theorem pNs_dNs : ∀ (k : Nat) (t : Tp), (∀ x ∈ (pNs k t).1, 0 ≤ x ∧ x ≤ 549755813888) → dNs k t = some (pNs k t)
  | 0, t, _ => rfl
  | k + 1, t, hx => by
    have e1 : (pNs (k + 1) t).1 = (pNs k t).1 ++ [IntKind.i64.wrap ((pn (pNs k t).2).1 : Int)] := rfl
    have ih := pNs_dNs k t (fun x hm => hx x (by rw [e1]; exact List.mem_append_left _ hm))
    have hl := pn_lt (pNs k t).2
    have h0 := hx (IntKind.i64.wrap ((pn (pNs k t).2).1 : Int)) (by rw [e1]; simp)
    have hw : IntKind.i64.wrap ((pn (pNs k t).2).1 : Int) = ((pn (pNs k t).2).1 : Int) := by
      rw [IntKind.wrap_i64] at h0 ⊢; omega
    unfold dNs
    rw [ih]
    show (if 549755813888 < (pn (pNs k t).2).1 then none else some ((pNs k t).1 ++ [((pn (pNs k t).2).1 : Int)], (pn (pNs k t).2).2)) = _
    rw [if_neg (by omega)]
    show _ = some ((pNs k t).1 ++ [IntKind.i64.wrap ((pn (pNs k t).2).1 : Int)], (pn (pNs k t).2).2)
    rw [hw]
theorem dMt_eq (t : Tp) : dMt t = if mayB (pMt t).1 = true then some (pMt t) else none := by
  unfold dMt
  by_cases h16 : 16 < (pn t).1
  · rw [if_pos h16, if_neg]
    intro hm
    have := (mayB_len hm).2
    unfold pMt at this
    rw [pNs_len] at this
    omega
  · rw [if_neg h16]
    have e : pMt t = pNs (pn t).1 (pn t).2 := by unfold pMt; rw [Nat.min_eq_left (by omega)]
    rw [e]
    by_cases hm : mayB (pNs (pn t).1 (pn t).2).1 = true
    · rw [pNs_dNs _ _ (mayB_all hm)]
      rfl
    · rw [if_neg hm]
      cases hd : dNs (pn t).1 (pn t).2 with
      | none => rfl
      | some r =>
        have := dNs_pNs _ _ _ hd
        show (if mayB r.1 = true then some r else none) = none
        rw [← this, if_neg hm]
theorem ptE_zero {base : Int} {LL : List (List Int)} {xs : List Int} : ptE base LL xs = 0 ↔ mayB xs = true ∧ base + (LL.length : Int) < 549755813888 := by
  unfold ptE
  by_cases hm : mayB xs = true
  · rw [if_pos hm]
    by_cases hl : 549755813888 ≤ base + (LL.length : Int)
    · rw [if_pos hl]; exact ⟨fun h => absurd h (by decide), fun h => by omega⟩
    · rw [if_neg hl]; exact ⟨fun _ => ⟨hm, by omega⟩, fun _ => rfl⟩
  · rw [if_neg hm]; exact ⟨fun h => absurd h (by decide), fun h => absurd h.1 hm⟩
theorem dLd_len : ∀ {k : Nat} {t : Tp} {r : List (List Int) × Tp}, dLd k t = some r → r.1.length = k
  | 0, t, r, h => by unfold dLd at h; cases h; rfl
  | k + 1, t, r, h => by
    unfold dLd at h
    obtain ⟨r0, h0, h1⟩ := Option.bind_eq_some_iff.1 h
    obtain ⟨m, h2, h3⟩ := Option.bind_eq_some_iff.1 h1
    cases h3
    have := dLd_len h0
    simp [this]
theorem pLd_dLd {base : Int} (hb : base ≤ 549755813888) : ∀ (k : Nat) (t : Tp), pLd base k t = if base + (k : Int) ≤ 549755813888 then dLd k t else none
  | 0, t => by rw [if_pos (by omega)]; rfl
  | k + 1, t => by
    have ih := pLd_dLd hb k t
    show (pLd base k t).bind _ = _
    rw [ih]
    by_cases hk : base + ((k + 1 : Nat) : Int) ≤ 549755813888
    · rw [if_pos hk, if_pos (by omega)]
      show _ = (dLd k t).bind _
      cases hd : dLd k t with
      | none => rfl
      | some r =>
        have hl := dLd_len hd
        show (if ptE base r.1 (pMt r.2).1 = 0 then some (r.1 ++ [(pMt r.2).1], (pMt r.2).2) else none) = (dMt r.2).bind fun m => some (r.1 ++ [m.1], m.2)
        rw [dMt_eq]
        by_cases hm : mayB (pMt r.2).1 = true
        · rw [if_pos hm, if_pos (ptE_zero.2 ⟨hm, by omega⟩)]; rfl
        · rw [if_neg hm, if_neg (fun h => hm (ptE_zero.1 h).1)]; rfl
    · rw [if_neg hk]
      by_cases hk2 : base + (k : Int) ≤ 549755813888
      · rw [if_pos hk2]
        cases hd : dLd k t with
        | none => rfl
        | some r =>
          have hl := dLd_len hd
          show (if ptE base r.1 (pMt r.2).1 = 0 then some (r.1 ++ [(pMt r.2).1], (pMt r.2).2) else none) = none
          rw [if_neg (fun h => by have := (ptE_zero.1 h).2; omega)]
      · rw [if_neg hk2]; rfl
/-- the document's Load is pLoad -/
theorem pLoad_d (s : ByteArray) : pLoad s = if 549755813888 < (pn (s, 0)).1 ∨ 64 < (pn (pn (s, 0)).2).1 then none
    else (dLd (pn (pn (s, 0)).2).1 (pn (pn (s, 0)).2).2).bind fun r => if Bt.endE r.2.1 r.2.2 = 0 ∧ ((pn (s, 0)).1 : Int) + (r.1.length : Int) ≤ 549755813888 then some (((pn (s, 0)).1 : Int), r.1) else none := by
  unfold pLoad
  by_cases h : 549755813888 < (pn (s, 0)).1 ∨ 64 < (pn (pn (s, 0)).2).1
  · rw [if_pos h, if_pos h]
  · rw [if_neg h, if_neg h, pLd_dLd (by omega)]
    cases hd : dLd (pn (pn (s, 0)).2).1 (pn (pn (s, 0)).2).2 with
    | none => split <;> rfl
    | some r =>
      have hl := dLd_len hd
      by_cases hk : ((pn (s, 0)).1 : Int) + ((pn (pn (s, 0)).2).1 : Int) ≤ 549755813888
      · rw [if_pos hk]
        show (if Bt.endE r.2.1 r.2.2 = 0 then some (((pn (s, 0)).1 : Int), r.1) else none) = (if Bt.endE r.2.1 r.2.2 = 0 ∧ ((pn (s, 0)).1 : Int) + (r.1.length : Int) ≤ 549755813888 then some (((pn (s, 0)).1 : Int), r.1) else none)
        by_cases he : Bt.endE r.2.1 r.2.2 = 0
        · rw [if_pos he, if_pos ⟨he, by rw [hl]; exact hk⟩]
        · rw [if_neg he, if_neg (fun h => he h.1)]
      · rw [if_neg hk]
        show none = (if Bt.endE r.2.1 r.2.2 = 0 ∧ ((pn (s, 0)).1 : Int) + (r.1.length : Int) ≤ 549755813888 then some (((pn (s, 0)).1 : Int), r.1) else none)
        rw [if_neg (fun h => hk (by rw [← hl]; exact h.2))]
end Go.Proofs.Ytlcgicgdlhnfoaa
