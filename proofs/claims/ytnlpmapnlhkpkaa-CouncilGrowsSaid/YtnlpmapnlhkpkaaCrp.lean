/-
  WHAT IS REACHED, PLAIN: of the values of a mask's nodes, sorted, the one in the middle.
-/
import Derived.Test.YtnlpmapnlhkpkaaCpl
namespace Go.Proofs.Ytnlpmapnlhkpkaa
def nodesTo (k : Nat) : Nat → List Nat
  | 0 => []
  | i + 1 => nodesTo k i ++ (if bt k i = 1 then [i] else [])
def nodesL (k : Nat) : List Nat := nodesTo k 7
theorem nodesTo_len (k i : Nat) : (nodesTo k i).length = szTo k i := by
  induction i with
  | zero => rfl
  | succ i ih =>
    show (nodesTo k i ++ _).length = szTo k i + bt k i
    have := bt_le k i
    by_cases h : bt k i = 1
    · rw [if_pos h, List.length_append, ih, h]; rfl
    · rw [if_neg h, List.append_nil, ih]; omega
theorem nodesL_len (k : Nat) : (nodesL k).length = sz k := nodesTo_len k 7
theorem nodesTo_mem {k i x : Nat} : x ∈ nodesTo k i ↔ x < i ∧ bt k x = 1 := by
  induction i with
  | zero => simp [nodesTo]
  | succ i ih =>
    show x ∈ nodesTo k i ++ _ ↔ _
    rw [List.mem_append, ih]
    by_cases h : bt k i = 1
    · rw [if_pos h, List.mem_singleton]
      constructor
      · rintro (⟨a, b⟩ | rfl)
        · exact ⟨by omega, b⟩
        · exact ⟨by omega, h⟩
      · rintro ⟨a, b⟩
        by_cases e : x = i
        · exact Or.inr e
        · exact Or.inl ⟨by omega, b⟩
    · rw [if_neg h]
      constructor
      · rintro (⟨a, b⟩ | hx)
        · exact ⟨by omega, b⟩
        · cases hx
      · rintro ⟨a, b⟩
        by_cases e : x = i
        · subst e; exact absurd b h
        · exact Or.inl ⟨by omega, b⟩
theorem nodesTo_sorted (k i : Nat) : (nodesTo k i).Pairwise (· < ·) := by
  induction i with
  | zero => exact List.Pairwise.nil
  | succ i ih =>
    show (nodesTo k i ++ _).Pairwise _
    by_cases h : bt k i = 1
    · rw [if_pos h]
      refine List.pairwise_append.2 ⟨ih, List.pairwise_singleton _ _, ?_⟩
      intro a ha b hb
      rw [List.mem_singleton] at hb
      subst hb
      exact (nodesTo_mem.1 ha).1
    · rw [if_neg h, List.append_nil]; exact ih
/-- the values of the first nodes -/
def pk (k : Nat) (v : Nat → Int) (i : Nat) : List Int := (nodesTo k i).map v
theorem pk_len (k : Nat) (v : Nat → Int) (i : Nat) : (pk k v i).length = szTo k i := by unfold pk; rw [List.length_map, nodesTo_len]
/-- how many of the first nodes are of a kind -/
def cntTo (k : Nat) (p : Nat → Bool) : Nat → Nat
  | 0 => 0
  | i + 1 => cntTo k p i + (if bt k i = 1 ∧ p i = true then 1 else 0)
theorem cnt_pk (k : Nat) (v : Nat → Int) (q : Int → Bool) (i : Nat) : (pk k v i).countP q = cntTo k (fun j => q (v j)) i := by
  induction i with
  | zero => rfl
  | succ i ih =>
    show ((nodesTo k i ++ _).map v).countP q = cntTo k _ i + _
    rw [List.map_append, List.countP_append]
    rw [show ((nodesTo k i).map v).countP q = cntTo k (fun j => q (v j)) i from ih]
    by_cases h : bt k i = 1
    · rw [if_pos h]
      by_cases hq : q (v i) = true
      · rw [if_pos ⟨h, hq⟩]; simp [hq]
      · rw [if_neg (fun x => hq x.2)]; simp [hq]
    · rw [if_neg h, if_neg (fun x => h x.1)]; rfl
def leI (x y : Int) : Bool := decide (x ≤ y)
/-- what is reached -/
def reachedP (k : Nat) (v : Nat → Int) : Int := ((pk k v 7).mergeSort fun x y => decide (x ≤ y)).getD ((sz k - 1) / 2) 0
theorem reached_none {k : Nat} (v : Nat → Int) (h : sz k = 0) : reachedP k v = 0 := by
  have e : pk k v 7 = [] := List.eq_nil_of_length_eq_zero (by rw [pk_len]; exact h)
  unfold reachedP
  rw [e]
  simp
theorem sorted_mid (L : List Int) (j : Nat) (hj : j < L.length) :
    let S := L.mergeSort fun x y => decide (x ≤ y)
    S.getD j 0 ∈ L ∧ L.length - j ≤ L.countP (fun x => decide (S.getD j 0 ≤ x)) ∧ L.countP (fun x => decide (S.getD j 0 < x)) ≤ L.length - 1 - j := by
  intro S
  have hp : S.Perm L := List.mergeSort_perm _ _
  have hl : S.length = L.length := hp.length_eq
  have hs : S.Pairwise (fun x y => x ≤ y) := by
    have := List.pairwise_mergeSort (le := fun (x y : Int) => decide (x ≤ y)) (by intro a b c; simp; omega) (by intro a b; simp; omega) L
    exact this.imp (by intro a b; simp)
  have hg : S.getD j 0 = S[j]'(by omega) := by rw [List.getD_eq_getElem?_getD, List.getElem?_eq_getElem (by omega)]; rfl
  rw [hg]
  have hle := List.pairwise_iff_getElem.1 hs
  refine ⟨hp.mem_iff.1 (List.getElem_mem _), ?_, ?_⟩
  · rw [← hp.countP_eq]
    have h2 : (S.drop j).countP (fun x => decide (S[j]'(by omega) ≤ x)) = (S.drop j).length := by
      rw [List.countP_eq_length]
      intro x hx
      obtain ⟨n, hn, rfl⟩ := List.mem_iff_getElem.1 hx
      rw [List.getElem_drop]
      rw [List.length_drop] at hn
      by_cases h0 : n = 0
      · subst h0; simp
      · have := hle j (j + n) (by omega) (by omega) (by omega)
        simpa using this
    have h3 : ∀ p : Int → Bool, S.countP p = (S.take j).countP p + (S.drop j).countP p := fun p => by rw [← List.countP_append, List.take_append_drop]
    rw [h3, h2, List.length_drop]
    omega
  · rw [← hp.countP_eq]
    have h2 : (S.take (j + 1)).countP (fun x => decide (S[j]'(by omega) < x)) = 0 := by
      rw [List.countP_eq_zero]
      intro x hx
      obtain ⟨n, hn, rfl⟩ := List.mem_iff_getElem.1 hx
      rw [List.getElem_take]
      rw [List.length_take] at hn
      by_cases h0 : n = j
      · subst h0; simp
      · have := hle n j (by omega) (by omega) (by omega)
        simp
        omega
    have h3 : ∀ p : Int → Bool, S.countP p = (S.take (j + 1)).countP p + (S.drop (j + 1)).countP p := fun p => by rw [← List.countP_append, List.take_append_drop]
    rw [h3, h2]
    have h4 : (S.drop (j + 1)).countP (fun x => decide (S[j]'(by omega) < x)) ≤ (S.drop (j + 1)).length := List.countP_le_length
    rw [List.length_drop] at h4
    omega
theorem reached_spec (k : Nat) (v : Nat → Int) (h : 0 < sz k) :
    (∃ i, i < 7 ∧ bt k i = 1 ∧ v i = reachedP k v) ∧ sz k < 2 * cntTo k (fun j => decide (reachedP k v ≤ v j)) 7 ∧ 2 * cntTo k (fun j => decide (reachedP k v < v j)) 7 ≤ sz k := by
  have hl : (pk k v 7).length = sz k := pk_len k v 7
  have := sorted_mid (pk k v 7) ((sz k - 1) / 2) (by omega)
  change reachedP k v ∈ _ ∧ _ - _ ≤ List.countP (fun x => decide (reachedP k v ≤ x)) _ ∧ List.countP (fun x => decide (reachedP k v < x)) _ ≤ _ at this
  obtain ⟨h1, h2, h3⟩ := this
  refine ⟨?_, ?_, ?_⟩
  · obtain ⟨i, hi, e⟩ := List.mem_map.1 h1
    obtain ⟨hi7, hb⟩ := nodesTo_mem.1 hi
    exact ⟨i, hi7, hb, e⟩
  · rw [← cnt_pk k v (fun x => decide (reachedP k v ≤ x)) 7]; omega
  · rw [← cnt_pk k v (fun x => decide (reachedP k v < x)) 7]; omega
theorem cntTo_mono {k : Nat} {p q : Nat → Bool} (h : ∀ i, p i = true → q i = true) (i : Nat) : cntTo k p i ≤ cntTo k q i := by
  induction i with
  | zero => exact Nat.le_refl _
  | succ i ih =>
    show cntTo k p i + _ ≤ cntTo k q i + _
    by_cases hp : bt k i = 1 ∧ p i = true
    · rw [if_pos hp, if_pos ⟨hp.1, h i hp.2⟩]; omega
    · rw [if_neg hp]; omega
/-- the greatest that more than half have reached is the one -/
theorem reached_max {k : Nat} (v : Nat → Int) (h : 0 < sz k) (x : Int) (hx : sz k < 2 * cntTo k (fun j => decide (x ≤ v j)) 7) : x ≤ reachedP k v := by
  obtain ⟨_, _, h3⟩ := reached_spec k v h
  refine Classical.byContradiction fun hn => ?_
  have := cntTo_mono (k := k) (p := fun j => decide (x ≤ v j)) (q := fun j => decide (reachedP k v < v j)) (by intro i; simp; omega) 7
  omega
end Go.Proofs.Ytnlpmapnlhkpkaa
