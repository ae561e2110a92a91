/-
  A HEAP OF ITEMS, PLAIN: what an exchange does to a row, how a heap is mended upwards and downwards; a sorted row is the only one of its items. It imports nothing of the program.
-/
namespace Go.Proofs.Ytkdaifcnlobhkaa.Ag
/-- an item: when it is due, its number, what it is -/
structure It where
  t : Int
  i : Int
  x : Int
instance : Inhabited It := ⟨⟨0, 0, 0⟩⟩
/-- one stands ahead of another one -/
def It.lt (a b : It) : Prop := a.t < b.t ∨ (a.t = b.t ∧ a.i < b.i)
instance (a b : It) : Decidable (a.lt b) := by unfold It.lt; exact inferInstance
theorem lt_irrefl (a : It) : ¬ a.lt a := by unfold It.lt; omega
theorem lt_asymm {a b : It} (h : a.lt b) : ¬ b.lt a := by unfold It.lt at *; omega
theorem lt_trans {a b c : It} (h : a.lt b) (k : b.lt c) : a.lt c := by unfold It.lt at *; omega
theorem lt_of_lt_of_le {a b c : It} (h : a.lt b) (k : ¬ c.lt b) : a.lt c := by unfold It.lt at *; omega
theorem le_trans {a b c : It} (h : ¬ b.lt a) (k : ¬ c.lt b) : ¬ c.lt a := by unfold It.lt at *; omega
/-- the item at a place -/
def at_ (l : List It) (k : Nat) : It := l.getD k default
theorem at_get {l : List It} {k : Nat} (h : k < l.length) : at_ l k = l[k] := by unfold at_; rw [List.getD_eq_getElem?_getD, List.getElem?_eq_getElem h]; rfl
/-- two items change places -/
def swp (l : List It) (i j : Nat) : List It := (l.set i (at_ l j)).set j (at_ l i)
theorem swp_len (l : List It) (i j : Nat) : (swp l i j).length = l.length := by unfold swp; simp
theorem swp_perm {l : List It} {i j : Nat} (hi : i < l.length) (hj : j < l.length) : (swp l i j).Perm l := by
  unfold swp
  rw [at_get hi, at_get hj]
  exact List.set_set_perm hi hj
theorem at_set (l : List It) (i k : Nat) (x : It) (hi : i < l.length) : at_ (l.set i x) k = if k = i then x else at_ l k := by
  unfold at_
  rw [List.getD_eq_getElem?_getD, List.getElem?_set, List.getD_eq_getElem?_getD]
  by_cases h : i = k
  · subst h; simp [hi]
  · have h' : ¬ k = i := fun e => h e.symm
    simp [h, h']
theorem at_swp {l : List It} {i j : Nat} (hi : i < l.length) (hj : j < l.length) (k : Nat) : at_ (swp l i j) k = if k = j then at_ l i else if k = i then at_ l j else at_ l k := by
  unfold swp
  rw [at_set _ _ _ _ (by simpa using hj), at_set _ _ _ _ hi]
/-- the first n items are a heap -/
def HeapOn (l : List It) (n : Nat) : Prop := ∀ k, 0 < k → k < n → ¬ (at_ l k).lt (at_ l ((k - 1) / 2))
/-- .. but for the item at j, which may belong further up -/
def UpInv (l : List It) (n j : Nat) : Prop :=
  j < n ∧ n ≤ l.length ∧ (∀ k, 0 < k → k < n → k ≠ j → ¬ (at_ l k).lt (at_ l ((k - 1) / 2))) ∧ (∀ k, 0 < k → k < n → (k - 1) / 2 = j → 0 < j → ¬ (at_ l k).lt (at_ l ((j - 1) / 2)))
theorem up_stop {l : List It} {n j : Nat} (h : UpInv l n j) (hs : j = 0 ∨ ¬ (at_ l j).lt (at_ l ((j - 1) / 2))) : HeapOn l n := by
  obtain ⟨h1, _, h2, h3⟩ := h
  intro k k0 kn
  by_cases e : k = j
  · subst e
    rcases hs with hs | hs
    · omega
    · exact hs
  · exact h2 k k0 kn e
theorem up_step {l : List It} {n j : Nat} (h : UpInv l n j) (h0 : 0 < j) (hs : (at_ l j).lt (at_ l ((j - 1) / 2))) : UpInv (swp l ((j - 1) / 2) j) n ((j - 1) / 2) := by
  obtain ⟨h1, hl, h2, h3⟩ := h
  have hi : (j - 1) / 2 < j := by omega
  refine ⟨by omega, by rw [swp_len]; exact hl, ?_, ?_⟩
  · intro k k0 kn ke
    rw [at_swp (by omega) (by omega), at_swp (by omega) (by omega)]
    by_cases e : k = j
    · subst e
      rw [if_pos rfl, if_neg (by omega), if_pos rfl]
      exact lt_asymm hs
    · rw [if_neg e, if_neg ke]
      by_cases e1 : (k - 1) / 2 = j
      · rw [if_pos e1]
        exact h3 k k0 kn e1 h0
      · rw [if_neg e1]
        by_cases e2 : (k - 1) / 2 = (j - 1) / 2
        · rw [if_pos e2]
          have := h2 k k0 kn e
          rw [e2] at this
          exact fun hc => this (lt_trans hc hs)
        · rw [if_neg e2]
          exact h2 k k0 kn e
  · intro k k0 kn ke ip
    rw [at_swp (by omega) (by omega), at_swp (by omega) (by omega)]
    have hp := h2 ((j - 1) / 2) ip (by omega) (by omega)
    rw [if_neg (show ¬ ((j - 1) / 2 - 1) / 2 = j by omega), if_neg (show ¬ ((j - 1) / 2 - 1) / 2 = (j - 1) / 2 by omega)]
    by_cases e : k = j
    · rw [if_pos e]; exact hp
    · rw [if_neg e, if_neg (by omega)]
      have := h2 k k0 kn e
      rw [ke] at this
      exact le_trans hp this
/-- .. but for the item at i, which may belong further down; begun at b -/
def DnInv (l : List It) (n b i : Nat) : Prop :=
  b ≤ i ∧ n ≤ l.length ∧ (∀ k, 0 < k → k < n → (k - 1) / 2 ≠ i → (k ≠ i ∨ i ≠ b) → ¬ (at_ l k).lt (at_ l ((k - 1) / 2))) ∧ (∀ k, 0 < k → k < n → (k - 1) / 2 = i → 0 < i → ¬ (at_ l k).lt (at_ l ((i - 1) / 2)))
theorem dn_stop {l : List It} {n b i : Nat} (h : DnInv l n b i) (hs : ∀ k, 0 < k → k < n → (k - 1) / 2 = i → ¬ (at_ l k).lt (at_ l i)) :
    (i ≠ b → HeapOn l n) ∧ (i = b → ∀ k, 0 < k → k < n → k ≠ b → ¬ (at_ l k).lt (at_ l ((k - 1) / 2))) := by
  obtain ⟨h1, hl, h2, h3⟩ := h
  refine ⟨fun hb k k0 kn => ?_, fun hb k k0 kn ke => ?_⟩
  · by_cases e : (k - 1) / 2 = i
    · rw [e]; exact hs k k0 kn e
    · exact h2 k k0 kn e (.inr hb)
  · by_cases e : (k - 1) / 2 = i
    · rw [e]; exact hs k k0 kn e
    · exact h2 k k0 kn e (.inl (by omega))
theorem dn_step {l : List It} {n b i j : Nat} (h : DnInv l n b i) (j0 : 0 < j) (hj : j < n) (hp : (j - 1) / 2 = i) (hm : ∀ k, 0 < k → k < n → (k - 1) / 2 = i → ¬ (at_ l k).lt (at_ l j)) (hs : (at_ l j).lt (at_ l i)) : DnInv (swp l i j) n b j := by
  obtain ⟨h1, hl, h2, h3⟩ := h
  have hi : i < j := by omega
  refine ⟨by omega, by rw [swp_len]; exact hl, ?_, ?_⟩
  · intro k k0 kn ke _
    rw [at_swp (by omega) (by omega), at_swp (by omega) (by omega)]
    rw [if_neg ke]
    by_cases e : k = j
    · rw [if_pos e]
      subst e
      rw [if_pos hp]
      exact lt_asymm hs
    · rw [if_neg e]
      by_cases e1 : k = i
      · rw [if_pos e1, if_neg (by omega)]
        have := h3 j j0 hj hp (by omega)
        rw [← e1] at this
        exact this
      · rw [if_neg e1]
        by_cases e2 : (k - 1) / 2 = i
        · rw [if_pos e2]
          exact hm k k0 kn e2
        · rw [if_neg e2]
          exact h2 k k0 kn e2 (.inl e1)
  · intro k k0 kn ke _
    rw [at_swp (by omega) (by omega), at_swp (by omega) (by omega)]
    rw [if_neg (show ¬ k = j by omega), if_neg (show ¬ k = i by omega), hp, if_neg (show ¬ i = j by omega), if_pos rfl]
    have := h2 k k0 kn (by omega) (.inl (by omega))
    rw [ke] at this
    exact this
/-- sorted -/
def Sorted (l : List It) : Prop := l.Pairwise It.lt
theorem heap_min {l : List It} {n : Nat} (h : HeapOn l n) : ∀ k, k < n → ¬ (at_ l k).lt (at_ l 0) := by
  intro k
  induction k using Nat.strongRecOn with
  | ind k ih =>
    intro hk
    by_cases h0 : k = 0
    · subst h0; exact lt_irrefl _
    · have h1 := h k (by omega) hk
      have h2 := ih ((k - 1) / 2) (by omega) (by omega)
      exact le_trans h2 h1
theorem sorted_head {l r : List It} {x : It} (h : HeapOn l l.length) (hp : l.Perm (x :: r)) (hs : Sorted (x :: r)) : at_ l 0 = x := by
  have hlen : 0 < l.length := by rw [hp.length_eq]; simp
  have hx : x ∈ l := hp.mem_iff.2 (by simp)
  obtain ⟨k, hk, hkx⟩ := List.getElem_of_mem hx
  have h1 := heap_min h k hk
  rw [at_get hk, hkx] at h1
  have h2 : at_ l 0 ∈ x :: r := by rw [at_get hlen]; exact hp.mem_iff.1 (List.getElem_mem hlen)
  rcases List.mem_cons.1 h2 with h2 | h2
  · exact h2
  · exact absurd (List.rel_of_pairwise_cons hs h2) h1
theorem sorted_unique : ∀ {l r : List It}, l.Perm r → Sorted l → Sorted r → l = r
  | [], r, hp, _, _ => by rw [List.Perm.nil_eq hp]
  | x :: l, [], hp, _, _ => by have := hp.length_eq; simp at this
  | x :: l, y :: r, hp, hl, hr => by
    have hxy : x = y := by
      have h1 : x ∈ y :: r := hp.mem_iff.1 (by simp)
      have h2 : y ∈ x :: l := hp.mem_iff.2 (by simp)
      rcases List.mem_cons.1 h1 with h1 | h1
      · exact h1
      · rcases List.mem_cons.1 h2 with h2 | h2
        · exact h2.symm
        · exact absurd (List.rel_of_pairwise_cons hl h2) (lt_asymm (List.rel_of_pairwise_cons hr h1))
    subst hxy
    rw [sorted_unique (List.Perm.cons_inv hp) (List.Pairwise.of_cons hl) (List.Pairwise.of_cons hr)]
end Go.Proofs.Ytkdaifcnlobhkaa.Ag
