/-
  THE DOCUMENT's Reached, PLAIN: the greatest of those that more than half have reached.
-/
import Derived.Test.YtnlpmapnlhkpkaaCrp
namespace Go.Proofs.Ytnlpmapnlhkpkaa
def cntAt (k : Nat) (v : Nat → Int) (x : Int) (j : Nat) : Nat := cntTo k (fun i => decide (x ≤ v i)) j
theorem cntAt_le (k : Nat) (v : Nat → Int) (x : Int) (j : Nat) : cntAt k v x j ≤ j := by
  induction j with
  | zero => exact Nat.le_refl _
  | succ j ih => show cntTo k _ j + (if _ then 1 else 0) ≤ j + 1; unfold cntAt at ih; split <;> omega
theorem cntAt_yes {k : Nat} {v : Nat → Int} {x : Int} {j : Nat} (h1 : decide (bt k j = 1) = true) (h2 : x ≤ v j) : cntAt k v x (j + 1) = cntAt k v x j + 1 := by
  show cntTo k _ j + (if _ then 1 else 0) = _
  rw [if_pos ⟨of_decide_eq_true h1, by simpa using h2⟩]; rfl
theorem cntAt_no1 {k : Nat} {v : Nat → Int} {x : Int} {j : Nat} (h1 : decide (bt k j = 1) = false) : cntAt k v x (j + 1) = cntAt k v x j := by
  show cntTo k _ j + (if _ then 1 else 0) = _
  rw [if_neg (fun h => of_decide_eq_false h1 h.1)]; rfl
theorem cntAt_no2 {k : Nat} {v : Nat → Int} {x : Int} {j : Nat} (h2 : ¬ x ≤ v j) : cntAt k v x (j + 1) = cntAt k v x j := by
  show cntTo k _ j + (if _ then 1 else 0) = _
  rw [if_neg (fun h => h2 (by simpa using h.2))]; rfl
def bestF (k : Nat) (v : Nat → Int) : Nat → Option Int
  | 0 => none
  | i + 1 => if bt k i = 1 ∧ sz k < 2 * cntAt k v (v i) 7 then (match bestF k v i with | none => some (v i) | some b => if b < v i then some (v i) else some b) else bestF k v i
theorem bestF_no1 {k : Nat} {v : Nat → Int} {i : Nat} (h : decide (bt k i = 1) = false) : bestF k v (i + 1) = bestF k v i := by
  show (if _ then _ else _) = _; rw [if_neg (fun x => of_decide_eq_false h x.1)]
theorem bestF_no2 {k : Nat} {v : Nat → Int} {i : Nat} (h : ¬ sz k < 2 * cntAt k v (v i) 7) : bestF k v (i + 1) = bestF k v i := by
  show (if _ then _ else _) = _; rw [if_neg (fun x => h x.2)]
theorem bestF_first {k : Nat} {v : Nat → Int} {i : Nat} (h1 : decide (bt k i = 1) = true) (h : sz k < 2 * cntAt k v (v i) 7) (hb : bestF k v i = none) : bestF k v (i + 1) = some (v i) := by
  show (if _ then _ else _) = _; rw [if_pos ⟨of_decide_eq_true h1, h⟩, hb]
theorem bestF_more {k : Nat} {v : Nat → Int} {i : Nat} {b : Int} (h1 : decide (bt k i = 1) = true) (h : sz k < 2 * cntAt k v (v i) 7) (hb : bestF k v i = some b) (hl : b < v i) : bestF k v (i + 1) = some (v i) := by
  show (if _ then _ else _) = _; rw [if_pos ⟨of_decide_eq_true h1, h⟩, hb]; show (if _ then _ else _) = _; rw [if_pos hl]
theorem bestF_less {k : Nat} {v : Nat → Int} {i : Nat} {b : Int} (h1 : decide (bt k i = 1) = true) (h : sz k < 2 * cntAt k v (v i) 7) (hb : bestF k v i = some b) (hl : ¬ b < v i) : bestF k v (i + 1) = some b := by
  show (if _ then _ else _) = _; rw [if_pos ⟨of_decide_eq_true h1, h⟩, hb]; show (if _ then _ else _) = _; rw [if_neg hl]
theorem szTo_mono (k : Nat) {i j : Nat} (h : i ≤ j) : szTo k i ≤ szTo k j := by
  induction j with
  | zero => rw [Nat.le_zero.1 h]; exact Nat.le_refl _
  | succ j ih =>
    rcases Nat.lt_or_ge i (j + 1) with h2 | h2
    · have := ih (by omega); show szTo k i ≤ szTo k j + bt k j; omega
    · rw [show i = j + 1 by omega]; exact Nat.le_refl _
theorem best_inv (k : Nat) (v : Nat → Int) (i : Nat) : (∀ b, bestF k v i = some b → ∃ j, j < i ∧ bt k j = 1 ∧ v j = b ∧ sz k < 2 * cntAt k v b 7) ∧
    (∀ j, j < i → bt k j = 1 → sz k < 2 * cntAt k v (v j) 7 → ∃ b, bestF k v i = some b ∧ v j ≤ b) := by
  induction i with
  | zero => exact ⟨fun b h => (by cases h), fun j h => (by omega)⟩
  | succ i ih =>
    obtain ⟨ih1, ih2⟩ := ih
    by_cases h1 : decide (bt k i = 1) = true
    · by_cases h2 : sz k < 2 * cntAt k v (v i) 7
      · rcases hb : bestF k v i with _ | b
        · rw [bestF_first h1 h2 hb]
          refine ⟨fun b e => ?_, fun j hj hbj hq => ?_⟩
          · injection e with e; exact ⟨i, by omega, of_decide_eq_true h1, e, by rw [← e]; exact h2⟩
          · by_cases e : j = i
            · subst e; exact ⟨_, rfl, Int.le_refl _⟩
            · obtain ⟨b, e2, _⟩ := ih2 j (by omega) hbj hq
              rw [hb] at e2; cases e2
        · by_cases hl : b < v i
          · rw [bestF_more h1 h2 hb hl]
            refine ⟨fun c e => ?_, fun j hj hbj hq => ?_⟩
            · injection e with e; exact ⟨i, by omega, of_decide_eq_true h1, e, by rw [← e]; exact h2⟩
            · by_cases e : j = i
              · subst e; exact ⟨_, rfl, Int.le_refl _⟩
              · obtain ⟨c, e2, hc⟩ := ih2 j (by omega) hbj hq
                rw [hb] at e2; injection e2 with e2; exact ⟨_, rfl, by omega⟩
          · rw [bestF_less h1 h2 hb hl]
            refine ⟨fun c e => ?_, fun j hj hbj hq => ?_⟩
            · injection e with e
              obtain ⟨j, hj, a1, a2, a3⟩ := ih1 b hb
              exact ⟨j, by omega, a1, by rw [a2, e], by rw [← e]; exact a3⟩
            · by_cases e : j = i
              · subst e; exact ⟨_, rfl, by omega⟩
              · obtain ⟨c, e2, hc⟩ := ih2 j (by omega) hbj hq
                rw [hb] at e2; injection e2 with e2; exact ⟨_, rfl, by omega⟩
      · rw [bestF_no2 h2]
        refine ⟨fun b e => ?_, fun j hj hbj hq => ?_⟩
        · obtain ⟨j, hj, a⟩ := ih1 b e; exact ⟨j, by omega, a⟩
        · by_cases e : j = i
          · subst e; exact absurd hq h2
          · exact ih2 j (by omega) hbj hq
    · have h1 : decide (bt k i = 1) = false := by simpa using h1
      rw [bestF_no1 h1]
      refine ⟨fun b e => ?_, fun j hj hbj hq => ?_⟩
      · obtain ⟨j, hj, a⟩ := ih1 b e; exact ⟨j, by omega, a⟩
      · by_cases e : j = i
        · subst e; exact absurd hbj (of_decide_eq_false h1)
        · exact ih2 j (by omega) hbj hq
theorem best_reached (k : Nat) (v : Nat → Int) : (bestF k v 7).getD 0 = reachedP k v := by
  obtain ⟨h1, h2⟩ := best_inv k v 7
  by_cases h0 : sz k = 0
  · rw [reached_none v h0]
    rcases hb : bestF k v 7 with _ | b
    · rfl
    · obtain ⟨j, hj, hbj, _⟩ := h1 b hb
      have a := szTo_mono k (show j + 1 ≤ 7 by omega)
      have e : szTo k (j + 1) = szTo k j + bt k j := rfl
      unfold sz at h0
      omega
  · obtain ⟨⟨i, hi, hbi, hv⟩, hq, _⟩ := reached_spec k v (by omega)
    obtain ⟨b, hb, hle⟩ := h2 i hi hbi (by rw [hv]; exact hq)
    obtain ⟨j, hj, hbj, hvj, hqj⟩ := h1 b hb
    have := reached_max v (by omega) b hqj
    rw [hb]
    show b = _
    omega
end Go.Proofs.Ytnlpmapnlhkpkaa
