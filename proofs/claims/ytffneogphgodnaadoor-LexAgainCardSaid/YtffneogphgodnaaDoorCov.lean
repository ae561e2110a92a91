/-
  TOKENS COVER THE TEXT, PLAIN.
-/
import Derived.Test.YtffneogphgodnaaDoorScn
namespace Go.Proofs.YtffneogphgodnaaDoor
open Go.RowKit
/-- where the token ahead of place i ends -/
def endAt (T : List Tok) (i : Nat) : Nat := if i = 0 then 0 else ((T[i - 1]?).map fun x => x.at_ + x.t.size).getD 0
def byt (s : ByteArray) (k : Nat) : Int := (((bl s).getD k 0).toNat : Int)
theorem endAt_app {T M : List Tok} {i : Nat} (h : i ≤ T.length) : endAt (T ++ M) i = endAt T i := by
  unfold endAt
  split
  · rfl
  · rw [List.getElem?_append_left (by omega)]
theorem endAt_last (T : List Tok) (x : Tok) : endAt (T ++ [x]) (T.length + 1) = x.at_ + x.t.size := by
  unfold endAt
  rw [if_neg (by omega), Nat.add_sub_cancel, List.getElem?_append_right (Nat.le_refl _), Nat.sub_self]
  rfl
/-- what is so of a token at place i -/
structure At (s : ByteArray) (T : List Tok) (i : Nat) (x : Tok) : Prop where
  a : endAt T i ≤ x.at_
  z : x.at_ + x.t.size ≤ s.size
  t : s.extract x.at_ (x.at_ + x.t.size) = x.t
  b : ∀ k, endAt T i ≤ k → k < x.at_ → blankB (byt s k) = true
structure Inv (s : ByteArray) (a : Nat) (T : List Tok) : Prop where
  at_ : ∀ i x, T[i]? = some x → At s T i x ∧ x.k ≠ 0 ∧ 0 < x.t.size
  e : endAt T T.length ≤ a
  b : ∀ k, endAt T T.length ≤ k → k < a → blankB (byt s k) = true
theorem hd_rst (s : ByteArray) (a : Nat) : hd (rst s a) = byt s a := by
  unfold hd byt rst
  congr 2
  rw [bl_extract]
  rw [List.take_of_length_le (by rw [List.length_drop, bl_len]; exact Nat.le_refl _)]
  rw [List.getD_eq_getElem?_getD, ← List.head?_drop, List.headD_eq_head?_getD]
theorem ite_k {c : Prop} [Decidable c] {x : T1} (hx : x.k ≠ 0) (h : (if c then x else t0).m ≠ 0) : (if c then x else t0).k ≠ 0 := by
  split
  · exact hx
  · rename_i h1; rw [if_neg h1] at h; exact absurd rfl h
theorem oneT_k (r : ByteArray) (h : (oneT r).m ≠ 0) : (oneT r).k ≠ 0 := by
  unfold oneT at h ⊢
  split
  · show (1 : Int) ≠ 0; decide
  · rename_i h1
    rw [if_neg h1] at h
    split
    · rename_i h2
      rw [if_pos h2] at h
      exact ite_k (by show (2 : Int) ≠ 0; decide) h
    · rename_i h2
      rw [if_neg h2] at h
      split
      · rename_i h3
        rw [if_pos h3] at h
        exact ite_k (by show (3 : Int) ≠ 0; decide) h
      · rename_i h3
        rw [if_neg h3] at h
        split
        · rename_i h4
          rw [if_pos h4] at h
          exact ite_k (by show (5 : Int) ≠ 0; decide) h
        · rename_i h4
          rw [if_neg h4] at h
          exact ite_k (by split <;> (show (4 : Int) ≠ 0; decide)) h
theorem rst_sub (s : ByteArray) (a m : Nat) (h : a + m ≤ s.size) : (rst s a).extract 0 m = s.extract a (a + m) := by
  apply ba_ext
  show bl _ = bl _
  rw [bl_extract, bl_extract]
  unfold rst
  rw [bl_extract, List.drop_zero, Nat.sub_zero, List.take_take, Nat.add_sub_cancel_left, Nat.min_eq_left (by omega)]
theorem Inv.blank {s : ByteArray} {a : Nat} {T : List Tok} (h : Inv s a T) (hb : blankB (byt s a) = true) : Inv s (a + 1) T :=
  ⟨h.at_, Nat.le_succ_of_le h.e, fun k h1 h2 => by
    by_cases e : k = a
    · rw [e]; exact hb
    · exact h.b k h1 (by omega)⟩
theorem Inv.push {s : ByteArray} {a : Nat} {T : List Tok} (h : Inv s a T) (x : Tok) (h1 : x.at_ = a) (h2 : a + x.t.size ≤ s.size) (h3 : s.extract a (a + x.t.size) = x.t) (h4 : x.k ≠ 0) (h5 : 0 < x.t.size) : Inv s (a + x.t.size) (T ++ [x]) := by
  refine ⟨fun i y hy => ?_, ?_, fun k hk hk2 => ?_⟩
  · by_cases hi : i < T.length
    · rw [List.getElem?_append_left hi] at hy
      obtain ⟨⟨a1, a2, a3, a4⟩, b1, b2⟩ := h.at_ i y hy
      have e := endAt_app (T := T) (M := [x]) (i := i) (by omega)
      exact ⟨⟨by rw [e]; exact a1, a2, a3, fun k hk => a4 k (by rw [← e]; exact hk)⟩, b1, b2⟩
    · rw [List.getElem?_append_right (by omega)] at hy
      have hi2 : i = T.length := by
        rcases Nat.lt_or_ge (i - T.length) 1 with h | h
        · omega
        · rw [List.getElem?_eq_none (by simpa using h)] at hy; cases hy
      subst hi2
      rw [Nat.sub_self] at hy
      obtain rfl : x = y := by simpa using hy
      have e := endAt_app (T := T) (M := [x]) (i := T.length) (Nat.le_refl _)
      refine ⟨⟨by rw [e, h1]; exact h.e, by rw [h1]; exact h2, by rw [h1]; exact h3, fun k hk hk2 => h.b k (by rw [← e]; exact hk) (by rw [← h1]; exact hk2)⟩, h4, h5⟩
  · rw [List.length_append, List.length_singleton, endAt_last, h1]; exact Nat.le_refl _
  · rw [List.length_append, List.length_singleton, endAt_last, h1] at hk
    omega
/-- what is so of all tokens of a text -/
structure Cov (s : ByteArray) (L : List Tok) : Prop where
  at_ : ∀ i x, L[i]? = some x → At s L i x ∧ (x.k = 0 ↔ i + 1 = L.length) ∧ (x.t.size = 0 ↔ i + 1 = L.length)
  some : 0 < L.length
  e : endAt L L.length = s.size
theorem extract_same (s : ByteArray) (a : Nat) : s.extract a (a + (⟨#[]⟩ : ByteArray).size) = ⟨#[]⟩ := by
  apply ba_ext
  rw [Lib.extract_data, show a + (⟨#[]⟩ : ByteArray).size - a = 0 from Nat.add_sub_cancel_left a 0, List.take_zero]
theorem cov_of {s : ByteArray} : ∀ (f a : Nat) (T : List Tok), s.size - a < f → a ≤ s.size → Inv s a T → (scanF s f a T).e = 0 → Cov s (scanF s f a T).T
  | 0, _, _, h, _, _, _ => by omega
  | f + 1, a, T, hf, ha, hI, he => by
    unfold scanF at he ⊢
    split
    · rename_i hend
      obtain rfl : a = s.size := by omega
      refine ⟨fun i x hx => ?_, by simp, by show endAt _ _ = _; rw [List.length_append, List.length_singleton, endAt_last]; rfl⟩
      have hx : (T ++ [(⟨0, s.size, ⟨#[]⟩, 0, ⟨#[]⟩⟩ : Tok)])[i]? = Option.some x := hx
      show At s (T ++ [_]) i x ∧ (x.k = 0 ↔ i + 1 = (T ++ [_]).length) ∧ (x.t.size = 0 ↔ i + 1 = (T ++ [_]).length)
      rw [List.length_append, List.length_singleton]
      by_cases hi : i < T.length
      · rw [List.getElem?_append_left hi] at hx
        obtain ⟨⟨a1, a2, a3, a4⟩, b1, b2⟩ := hI.at_ i x hx
        have e := endAt_app (T := T) (M := [(⟨0, s.size, ⟨#[]⟩, 0, ⟨#[]⟩⟩ : Tok)]) (i := i) (by omega)
        exact ⟨⟨by rw [e]; exact a1, a2, a3, fun k hk => a4 k (by rw [← e]; exact hk)⟩, by omega, by omega⟩
      · rw [List.getElem?_append_right (by omega)] at hx
        have hi2 : i = T.length := by
          rcases Nat.lt_or_ge (i - T.length) 1 with h | h
          · omega
          · rw [List.getElem?_eq_none (by simpa using h)] at hx; cases hx
        subst hi2
        rw [Nat.sub_self] at hx
        obtain rfl : (⟨0, s.size, ⟨#[]⟩, 0, ⟨#[]⟩⟩ : Tok) = x := by simpa using hx
        have e := endAt_app (T := T) (M := [(⟨0, s.size, ⟨#[]⟩, 0, ⟨#[]⟩⟩ : Tok)]) (i := T.length) (Nat.le_refl _)
        refine ⟨⟨by rw [e]; exact hI.e, Nat.le_refl _, extract_same s s.size, fun k hk hk2 => hI.b k (by rw [← e]; exact hk) hk2⟩, ⟨fun _ => rfl, fun _ => rfl⟩, ⟨fun _ => rfl, fun _ => rfl⟩⟩
    · rename_i hend
      rw [if_neg hend] at he
      have hh := hd_rst s a
      split
      · rename_i hb
        rw [if_pos hb] at he
        exact cov_of f (a + 1) T (by omega) (by omega) (hI.blank (by rw [← hh]; exact hb)) he
      · rename_i hb
        rw [if_neg hb] at he
        split
        · rename_i hm
          rw [if_pos hm] at he
          cases he
        · rename_i hm
          rw [if_neg hm] at he
          have hml := oneT_le (rst s a)
          rw [rst_size] at hml
          have ht : (tokAt s a).t = s.extract a (a + (oneT (rst s a)).m) := rst_sub s a _ (by omega)
          have hts : (tokAt s a).t.size = (oneT (rst s a)).m := by rw [ht, ByteArray.size_extract]; omega
          have := hI.push (tokAt s a) rfl (by rw [hts]; omega) (by rw [hts, ht]) (oneT_k _ hm) (by rw [hts]; omega)
          rw [hts] at this
          exact cov_of f (a + (oneT (rst s a)).m) _ (by omega) (by omega) this he
theorem scan_cov {s : ByteArray} (he : (scanO s).e = 0) : Cov s (scanO s).T := by
  unfold scanO at he ⊢
  split
  · rename_i h; rw [if_pos h] at he; cases he
  · rename_i h
    rw [if_neg h] at he
    exact cov_of _ 0 [] (by omega) (Nat.zero_le _) ⟨fun i x hx => by simp at hx, Nat.le_refl _, fun k h1 h2 => absurd h2 (Nat.not_lt_zero k)⟩ he
theorem endAt_succ {L : List Tok} {i : Nat} (h : i < L.length) : endAt L (i + 1) = L[i].at_ + L[i].t.size := by
  unfold endAt
  rw [if_neg (by omega), Nat.add_sub_cancel, List.getElem?_eq_getElem h]; rfl
theorem cov_ge {s : ByteArray} {L : List Tok} (h : Cov s L) : ∀ i, i + 1 ≤ L.length → i ≤ endAt L i
  | 0, _ => Nat.zero_le _
  | i + 1, hi => by
    have ih := cov_ge h i (by omega)
    have hl : i < L.length := by omega
    obtain ⟨⟨h1, _, _, _⟩, _, h3⟩ := h.at_ i L[i] (List.getElem?_eq_getElem hl)
    rw [endAt_succ hl]
    have : L[i].t.size ≠ 0 := fun e => by have := h3.1 e; omega
    omega
theorem cov_len {s : ByteArray} {L : List Tok} (h : Cov s L) : L.length ≤ s.size + 1 := by
  have h0 := h.some
  have h1 := cov_ge h (L.length - 1) (by omega)
  have hl : L.length - 1 < L.length := by omega
  obtain ⟨⟨h2, h3, _, _⟩, _⟩ := h.at_ (L.length - 1) L[L.length - 1] (List.getElem?_eq_getElem hl)
  omega
/-- where there is an error there are no tokens -/
theorem scan_none : ∀ (s : ByteArray) (f a : Nat) (T : List Tok), (scanF s f a T).e ≠ 0 → (scanF s f a T).T = []
  | _, 0, _, _, _ => rfl
  | s, f + 1, a, T, h => by
    unfold scanF at h ⊢
    split
    · rename_i h1; rw [if_pos h1] at h; exact absurd rfl h
    · rename_i h1
      rw [if_neg h1] at h
      split
      · rename_i h2; rw [if_pos h2] at h; exact scan_none s f _ _ h
      · rename_i h2
        rw [if_neg h2] at h
        split
        · rfl
        · rename_i h3; rw [if_neg h3] at h; exact scan_none s f _ _ h
theorem scanO_none {s : ByteArray} (h : (scanO s).e ≠ 0) : (scanO s).T = [] := by
  unfold scanO at h ⊢
  split
  · rfl
  · rename_i h1; rw [if_neg h1] at h; exact scan_none _ _ _ _ h
end Go.Proofs.YtffneogphgodnaaDoor
