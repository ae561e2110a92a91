/-
  WHICH TABLE A TEXT SAYS, plainly.
-/
import Derived.Test.YtkaocpfkigdpoaaTxt
import Derived.Test.YtkaocpfkigdpoaaPla2
import Derived.Test.YtkaocpfkigdpoaaBRefs
import Derived.Test.YtkaocpfkigdpoaaBWas
namespace Go.Proofs.Ytkaocpfkigdpoaa
open Go.RowKit
/-- what is left of a tape, and its error -/
abbrev Tp := ByteArray × Int
def pn (x : Tp) : Nat × Tp := Bt.tNum x.1 x.2
theorem pn_lt (x : Tp) : (pn x).1 < 18446744073709551616 := Bt.tNum_lt _ _
theorem tk_le {α : Type} (z : α) (s : ByteArray) (e : Int) (r : α × Nat × Int) : (Bt.tk z s e r).2.1.size ≤ s.size := by
  unfold Bt.tk
  split
  · exact Nat.le_refl _
  · split
    · exact Nat.le_refl _
    · simp only [ByteArray.size_extract]; omega
theorem pn_le (x : Tp) : (pn x).2.1.size ≤ x.1.size := tk_le _ _ _ _
/-- where no error is behind, none was ahead, and the number's bytes stood there -/
theorem pn_back (x : Tp) (h : (pn x).2.2 = 0) : x.2 = 0 ∧ Bt.numS ((pn x).1 : Int) ++ (pn x).2.1 = x.1 := by
  obtain ⟨s, e⟩ := x
  unfold pn Bt.tNum Bt.tk at *
  simp only at *
  by_cases he : e = 0
  · rw [if_neg (by simpa using he)] at h ⊢
    by_cases hr : (Bt.rdNum s.data.toList).2.2 = 0
    · rw [if_neg (by simpa using hr)]
      exact ⟨he, Bt.num_back s hr⟩
    · rw [if_pos hr] at h
      exact absurd h hr
  · rw [if_pos he] at h
    exact absurd h he
/-- and back -/
theorem pn_of (n : Nat) (h : n < 18446744073709551616) (x : ByteArray) : pn (Bt.numS (n : Int) ++ x, 0) = (n, x, 0) := by
  unfold pn Bt.tNum
  simp only
  rw [Bt.cat_data, Bt.rd_num n h x.data.toList, Bt.tk_ok]
  congr 2
  apply Bt.bytes_ext
  rw [Bt.ext_data, Bt.cat_data, Lib.size_eq, List.drop_append_of_le_length (Nat.le_refl _), List.drop_length, List.nil_append]
/-- the last one's number, 0 where there is none -/
def lastN : List Sn → Int
  | [] => 0
  | x :: r => if r = [] then x.1 else lastN r
theorem lastN_snoc (L : List Sn) (x : Sn) : lastN (L ++ [x]) = x.1 := by
  induction L with
  | nil => rfl
  | cons y L ih => rw [List.cons_append]; unfold lastN; rw [if_neg (by simp), ih]
theorem lastN_get {L : List Sn} (h : 0 < L.length) : lastN L = (L[L.length - 1]'(by omega)).1 := by
  rcases List.eq_nil_or_concat L with rfl | ⟨M, x, rfl⟩
  · simp at h
  · simp only [List.concat_eq_append, lastN_snoc]; simp
def okP (l : Int) (a b : Nat) : Prop := 1 ≤ a ∧ (a : Int) ≤ 549755813888 ∧ (b : Int) ≤ 549755813888 ∧ l < a
instance (l : Int) (a b : Nat) : Decidable (okP l a b) := by unfold okP; exact inferInstance
/-- one session more -/
def stp (X : List Sn × Tp) : Option (List Sn × Tp) := if okP (lastN X.1) (pn X.2).1 (pn (pn X.2).2).1 then some (X.1 ++ [(((pn X.2).1 : Int), ((pn (pn X.2).2).1 : Int))], (pn (pn X.2).2).2) else none
def it (t : Tp) : Nat → Option (List Sn × Tp)
  | 0 => some ([], t)
  | j + 1 => (it t j).bind stp
theorem it_none {t : Tp} {j : Nat} (h : it t j = none) : ∀ m, j ≤ m → it t m = none
  | 0, hm => by
    obtain rfl : j = 0 := by omega
    exact h
  | m + 1, hm => by
    by_cases e : j = m + 1
    · subst e; exact h
    · show (it t m).bind stp = none
      rw [it_none h m (by omega)]; rfl
/-- the list that a text says -/
def rdT (s : ByteArray) : Option (List Sn) :=
  if 32 < (pn (s, 0)).1 then none else
  match it (pn (s, 0)).2 (pn (s, 0)).1 with
  | none => none
  | some (L, t) => if Bt.endE t.1 t.2 = 0 then some L else none
theorem stp_len {X Y : List Sn × Tp} (h : stp X = some Y) : Y.1.length = X.1.length + 1 := by
  unfold stp at h
  split at h
  · injection h with h; subst h; simp
  · cases h
theorem it_len {t : Tp} : ∀ {j : Nat} {X : List Sn × Tp}, it t j = some X → X.1.length = j
  | 0, X, h => by injection h with h; subst h; rfl
  | j + 1, X, h => by
    have h : (it t j).bind stp = some X := h
    rcases hj : it t j with _ | Y
    · rw [hj] at h; cases h
    · rw [hj] at h
      rw [stp_len h, it_len hj]
theorem it_size {t : Tp} : ∀ {j : Nat} {X : List Sn × Tp}, it t j = some X → X.2.1.size ≤ t.1.size
  | 0, X, h => by injection h with h; subst h; exact Nat.le_refl _
  | j + 1, X, h => by
    have h : (it t j).bind stp = some X := h
    rcases hj : it t j with _ | Y
    · rw [hj] at h; cases h
    · rw [hj] at h
      have h : stp Y = some X := h
      have := it_size hj
      unfold stp at h
      split at h
      · injection h with h; subst h
        have a := pn_le Y.2
        have b := pn_le (pn Y.2).2
        simp only; omega
      · cases h
theorem it_ok {t : Tp} : ∀ {j : Nat} {X : List Sn × Tp}, j ≤ 32 → it t j = some X → Okt X.1
  | 0, X, _, h => by injection h with h; subst h; exact okt_nil
  | j + 1, X, hj32, h => by
    have h : (it t j).bind stp = some X := h
    rcases hj : it t j with _ | Y
    · rw [hj] at h; cases h
    · rw [hj] at h
      have h : stp Y = some X := h
      have ok := it_ok (by omega) hj
      have hl := it_len hj
      unfold stp at h
      split at h
      · rename_i hp
        injection h with h; subst h
        obtain ⟨p1, p2, p3, p4⟩ := hp
        have mem : ∀ x ∈ Y.1 ++ [(((pn Y.2).1 : Int), ((pn (pn Y.2).2).1 : Int))], x ∈ Y.1 ∨ x = (((pn Y.2).1 : Int), ((pn (pn Y.2).2).1 : Int)) := fun x hx => by
          rcases List.mem_append.1 hx with h | h
          · exact .inl h
          · exact .inr (by simpa using h)
        refine ⟨?_, fun x hx => ?_, fun x hx => ?_, fun x hx => ?_, fun x hx => ?_, by rw [List.length_append, hl]; exact hj32⟩
        · unfold Srt
          rw [List.pairwise_append]
          refine ⟨ok.s, by simp, fun x hx y hy => ?_⟩
          obtain rfl : y = (((pn Y.2).1 : Int), ((pn (pn Y.2).2).1 : Int)) := by simpa using hy
          obtain ⟨k, hk, rfl⟩ := List.mem_iff_getElem.1 hx
          rw [lastN_get (by omega)] at p4
          show Y.1[k].1 < _
          rcases Nat.lt_or_ge k (Y.1.length - 1) with hlt | hge
          · have := List.pairwise_iff_getElem.1 ok.s k (Y.1.length - 1) hk (by omega) hlt
            omega
          · have e : k = Y.1.length - 1 := by omega
            subst e; exact p4
        · rcases mem x hx with h | rfl
          · exact ok.id0 x h
          · show 1 ≤ ((pn Y.2).1 : Int); omega
        · rcases mem x hx with h | rfl
          · exact ok.idM x h
          · exact p2
        · rcases mem x hx with h | rfl
          · exact ok.q0 x h
          · show 0 ≤ ((pn (pn Y.2).2).1 : Int); omega
        · rcases mem x hx with h | rfl
          · exact ok.qM x h
          · exact p3
      · cases h
theorem it_back {t : Tp} : ∀ {j : Nat} {X : List Sn × Tp}, it t j = some X → X.2.2 = 0 → t.2 = 0 ∧ bodS X.1 ++ X.2.1 = t.1
  | 0, X, h, h0 => by injection h with h; subst h; exact ⟨h0, ba_nil_l _⟩
  | j + 1, X, h, h0 => by
    have h : (it t j).bind stp = some X := h
    rcases hj : it t j with _ | Y
    · rw [hj] at h; cases h
    · rw [hj] at h
      have h : stp Y = some X := h
      unfold stp at h
      split at h
      · injection h with h; subst h
        obtain ⟨a1, a2⟩ := pn_back _ h0
        obtain ⟨b1, b2⟩ := pn_back _ a1
        obtain ⟨c1, c2⟩ := it_back hj b1
        refine ⟨c1, ?_⟩
        rw [bodS_app, ← c2, ← b2, ← a2]
        show bodS Y.1 ++ ((Bt.numS ((pn Y.2).1 : Int) ++ Bt.numS ((pn (pn Y.2).2).1 : Int)) ++ ⟨#[]⟩) ++ _ = _
        rw [ba_nil, ba_assoc, ba_assoc]
      · cases h
theorem end_zero {t : Tp} (h : Bt.endE t.1 t.2 = 0) : t.2 = 0 ∧ t.1 = ⟨#[]⟩ := by
  unfold Bt.endE at h
  by_cases h2 : t.2 = 0
  · rw [if_neg (by simpa using h2)] at h
    by_cases h1 : t.1.size = 0
    · exact ⟨h2, ByteArray.ext (Array.eq_empty_of_size_eq_zero h1)⟩
    · rw [if_neg h1] at h; cases h
  · rw [if_pos h2] at h; exact absurd h h2
/-- a text that says a list is its text -/
theorem rdT_back {s : ByteArray} {L : List Sn} (h : rdT s = some L) : Okt L ∧ txtS L = s := by
  unfold rdT at h
  split at h
  · cases h
  · rename_i h32
    rcases hi : it (pn (s, 0)).2 (pn (s, 0)).1 with _ | ⟨L', t⟩
    · rw [hi] at h; cases h
    · rw [hi] at h
      simp only at h
      split at h
      · rename_i he
        injection h with h; subst h
        obtain ⟨e1, e2⟩ := end_zero he
        obtain ⟨c1, c2⟩ := it_back hi e1
        obtain ⟨d1, d2⟩ := pn_back (s, 0) c1
        refine ⟨it_ok (by omega) hi, ?_⟩
        have hl := it_len hi
        simp only at hl c2 d2
        unfold txtS
        rw [e2, ba_nil] at c2
        rw [hl, c2, d2]
      · cases h
/-- and the text of a list says it -/
theorem it_of (L : List Sn) (ok : Okt L) (x : ByteArray) : ∀ j, j ≤ L.length → it (bodS L ++ x, 0) j = some (L.take j, bodS (L.drop j) ++ x, 0)
  | 0, _ => by simp [it]
  | j + 1, hj => by
    have hj' : j < L.length := by omega
    show (it (bodS L ++ x, 0) j).bind stp = _
    rw [it_of L ok x j (by omega), List.drop_eq_getElem_cons hj']
    have m := List.getElem_mem hj'
    have b1 := ok.id0 _ m
    have b2 := ok.idM _ m
    have b3 := ok.q0 _ m
    have b4 := ok.qM _ m
    have hlast : 0 < j → lastN (L.take j) < L[j].1 := fun h0 => by
      rw [lastN_get (by rw [List.length_take]; omega)]
      simp only [List.length_take, List.getElem_take]
      exact List.pairwise_iff_getElem.1 ok.s _ _ (by omega) hj' (by omega)
    have hl0 : lastN (L.take j) < L[j].1 := by
      rcases Nat.eq_zero_or_pos j with rfl | h0
      · simp [lastN]; omega
      · exact hlast h0
    rw [List.take_succ_eq_append_getElem hj']
    generalize L.take j = A at *
    rcases hy : L[j] with ⟨y1, y2⟩
    rw [hy] at b1 b2 b3 b4 hl0
    obtain ⟨m, rfl⟩ : ∃ m : Nat, y1 = m := ⟨y1.toNat, by simp only at b1; omega⟩
    obtain ⟨n, rfl⟩ : ∃ m : Nat, y2 = m := ⟨y2.toNat, by simp only at b3; omega⟩
    simp only at b1 b2 b3 b4 hl0
    show stp (A, ((Bt.numS (m : Int) ++ Bt.numS (n : Int)) ++ bodS (L.drop (j + 1))) ++ x, 0) = _
    rw [ba_assoc, ba_assoc]
    unfold stp
    simp only
    rw [pn_of m (by omega)]
    simp only
    rw [pn_of n (by omega)]
    simp only
    rw [if_pos ⟨by omega, b2, b4, hl0⟩]
theorem rdT_of {L : List Sn} (ok : Okt L) : rdT (txtS L) = some L := by
  have hn := ok.n
  unfold rdT txtS
  rw [pn_of L.length (by omega)]
  simp only
  rw [if_neg (by omega)]
  have h := it_of L ok ⟨#[]⟩ L.length (Nat.le_refl _)
  rw [ba_nil, List.take_length, List.drop_length] at h
  rw [h]
  simp only
  rw [show bodS [] ++ ⟨#[]⟩ = (⟨#[]⟩ : ByteArray) from ba_nil _, if_pos (by decide)]
end Go.Proofs.Ytkaocpfkigdpoaa
