/-
  TOKENS, PLAIN AND IN MEMORY: what Scan answers.
-/
import Derived.Test.YtffneogphgodnaaDoorFun2
import Derived.Test.YtffneogphgodnaaDoorFun3
import Derived.Test.YtffneogphgodnaaDoorFun4
import Derived.Deep.AppendLies
import Derived.Laws.OwnMore
namespace Go.Proofs.YtffneogphgodnaaDoor
open Go.RowKit
structure Tok where
  k : Int
  at_ : Nat
  t : ByteArray
  n : Int
  s : ByteArray
structure Out where
  T : List Tok
  at_ : Nat
  e : Int
def rst (s : ByteArray) (a : Nat) : ByteArray := s.extract a s.size
def tokAt (s : ByteArray) (a : Nat) : Tok := ⟨(oneT (rst s a)).k, a, (rst s a).extract 0 (oneT (rst s a)).m, (oneT (rst s a)).n, (oneT (rst s a)).s⟩
def scanF (s : ByteArray) : Nat → Nat → List Tok → Out
  | 0, a, _ => ⟨[], a, 90⟩
  | f + 1, a, T =>
    if s.size ≤ a then ⟨T ++ [⟨0, a, ⟨#[]⟩, 0, ⟨#[]⟩⟩], 0, 0⟩
    else if blankB (hd (rst s a)) then scanF s f (a + 1) T
    else if (oneT (rst s a)).m = 0 then ⟨[], a, 90⟩
    else scanF s f (a + (oneT (rst s a)).m) (T ++ [tokAt s a])
def scanO (s : ByteArray) : Out := if 4096 < s.size then ⟨[], 0, 2⟩ else scanF s (s.size + 1) 0 []
def encT (x : Tok) : List Value := [.int .i64 x.k, .int .i64 x.at_, .string x.t, .int .i64 x.n, .string x.s]
def cellsT (l : List Tok) : List Value := l.flatMap encT
theorem cellsT_one (l : List Tok) (x : Tok) : cellsT (l ++ [x]) = cellsT l ++ encT x := by unfold cellsT; rw [List.flatMap_append]; simp
theorem cellsT_get : ∀ {l : List Tok} {k : Nat} (h : k < l.length) (j : Nat), j < 5 → (cellsT l)[k * 5 + j]? = (encT l[k])[j]?
  | x :: l, 0, _, j, hj => by
    show (encT x ++ cellsT l)[0 * 5 + j]? = _
    rw [Nat.zero_mul, Nat.zero_add, List.getElem?_append_left (show j < (encT x).length from hj)]; rfl
  | x :: l, k + 1, h, j, hj => by
    have ih := cellsT_get (l := l) (k := k) (by simpa using h) j hj
    show (encT x ++ cellsT l)[(k + 1) * 5 + j]? = _
    have e : (encT x).length = 5 := rfl
    rw [List.getElem?_append_right (by omega), e, show (k + 1) * 5 + j - 5 = k * 5 + j by omega]
    exact ih
/-- tokens in memory -/
def Toks (w : World) (a : Option Addr) (L : List Tok) : Prop := ∀ p (h : p < L.length), ∃ g o, a = some ⟨g, o, none⟩ ∧ g < w.heap.size ∧
  w.cell? ⟨g, o + p * 5, none⟩ = some (.int .i64 L[p].k) ∧ w.cell? ⟨g, o + p * 5 + 1, none⟩ = some (.int .i64 L[p].at_) ∧ w.cell? ⟨g, o + p * 5 + 2, none⟩ = some (.string L[p].t) ∧ w.cell? ⟨g, o + p * 5 + 3, none⟩ = some (.int .i64 L[p].n) ∧ w.cell? ⟨g, o + p * 5 + 4, none⟩ = some (.string L[p].s)
theorem Toks.below {w w' : World} {a : Option Addr} {L : List Tok} (h : Toks w a L) (hb : Below w.heap.size w w') : Toks w' a L := fun p hp => by
  obtain ⟨g, o, e, hl, c0, c1, c2, c3, c4⟩ := h p hp
  have q : ∀ {i : Nat} {v : Value}, w.cell? ⟨g, i, none⟩ = some v → w'.cell? ⟨g, i, none⟩ = some v := fun hc => by rw [hb.cell (p := ⟨g, _, none⟩) hl]; exact hc
  exact ⟨g, o, e, Nat.lt_of_lt_of_le hl hb.size, q c0, q c1, q c2, q c3, q c4⟩
theorem toks_own {w : World} {B t g cap n : Nat} {l : List Tok} (hn : n = l.length) (h : w.ownsRow B t 5 (.slice (some ⟨g, 0, none⟩) n cap) n (cellsT l)) : Toks w (some ⟨g, 0, none⟩) l := fun p hp => by
  have hg : g < w.heap.size := (World.ownsRow.lt h g rfl).2
  subst hn
  refine ⟨g, 0, rfl, hg, ?_, ?_, ?_, ?_, ?_⟩
  · have := cellsT_get hp 0 (by decide); rw [Nat.zero_add, World.ownsRow.cellAt h _ (by omega)]; simpa [encT] using this
  · have := cellsT_get hp 1 (by decide); rw [Nat.zero_add, World.ownsRow.cellAt h _ (by omega)]; simpa [encT] using this
  · have := cellsT_get hp 2 (by decide); rw [Nat.zero_add, World.ownsRow.cellAt h _ (by omega)]; simpa [encT] using this
  · have := cellsT_get hp 3 (by decide); rw [Nat.zero_add, World.ownsRow.cellAt h _ (by omega)]; simpa [encT] using this
  · have := cellsT_get hp 4 (by decide); rw [Nat.zero_add, World.ownsRow.cellAt h _ (by omega)]; simpa [encT] using this
theorem row_form {w : World} {B t : Nat} {v : Value} {n : Nat} {xs : List Value} (h : w.ownsRow B t 5 v n xs) : ∃ a c, v = .slice a n c := by
  rcases h.2 with ⟨rfl, e⟩ | ⟨g, cap, cur, rfl, _⟩
  · exact ⟨none, 0, by rw [e]⟩
  · exact ⟨_, _, rfl⟩
theorem toks_row {w : World} {B t n cap : Nat} {p : Option Addr} {l : List Tok} (hn : n = l.length) (h : w.ownsRow B t 5 (.slice p n cap) n (cellsT l)) : Toks w p l := by
  rcases h.2 with ⟨e, e0⟩ | ⟨g, cap, cur, e, _⟩
  · intro i hi; omega
  · cases e
    exact toks_own hn h
theorem one_cells (x : Tok) : ∀ u ∈ encT x, u.oneCell' = true := by
  intro u hu
  simp [encT] at hu
  rcases hu with rfl | rfl | rfl | rfl | rfl <;> rfl
/-- what Scan answers -/
def Scand (w : World) (R : Out) (e : Ending) (w' : World) : Prop := ∃ p cp, e = .returned (.tuple #[.slice p R.T.length cp, .int .i64 R.at_, .int .i64 R.e]) ∧ Toks w' p R.T ∧ Below w.heap.size w w'
theorem rst_size (s : ByteArray) (a : Nat) : (rst s a).size = s.size - a := by unfold rst; rw [ByteArray.size_extract]; omega
theorem oneT_le (r : ByteArray) : (oneT r).m ≤ r.size := by
  have hi := inner_size r
  unfold oneT
  split
  · have := spanN_le wordB (bl r)
    rw [bl_len] at this
    exact this
  · split
    · unfold numT
      split
      · have := spanN_le digB (bl (unsg r))
        rw [bl_len] at this
        have := (unsg_size r).1
        show _ - _ + _ ≤ _
        omega
      · exact Nat.zero_le _
    · split
      · unfold textT textOk
        split
        · rename_i h
          simp only [Bool.and_eq_true, decide_eq_true_eq] at h
          show _ + 2 ≤ _
          omega
        · exact Nat.zero_le _
      · split
        · unfold bitsT
          split
          · rename_i h
            have := spanN_le hexB (bl (inner r))
            rw [bl_len] at this
            show 17 ≤ _
            omega
          · exact Nat.zero_le _
        · unfold signT
          split
          · rename_i h
            have hp : 0 < r.size := by
              rw [← bl_len]
              cases hb : bl r with
              | nil => rw [hb] at h; exact absurd h (by decide)
              | cons _ _ => simp
            unfold twoB
            split
            · rename_i h2
              simp only [Bool.and_eq_true, decide_eq_true_eq] at h2
              show 2 ≤ _
              omega
            · show 1 ≤ _; omega
          · exact Nat.zero_le _
end Go.Proofs.YtffneogphgodnaaDoor
