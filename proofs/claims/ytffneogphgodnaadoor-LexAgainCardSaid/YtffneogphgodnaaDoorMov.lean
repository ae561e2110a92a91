/-
  BLANKS AHEAD MOVE THE TOKENS, PLAIN.
-/
import Derived.Test.YtffneogphgodnaaDoorCov
namespace Go.Proofs.YtffneogphgodnaaDoor
open Go.RowKit
/-- a token n bytes further on -/
def sh (n : Nat) (x : Tok) : Tok := ⟨x.k, x.at_ + n, x.t, x.n, x.s⟩
def shO (n : Nat) (R : Out) : Out := ⟨R.T.map (sh n), if R.e = 0 then R.at_ else R.at_ + n, R.e⟩
theorem bl_app (a b : ByteArray) : bl (a ++ b) = bl a ++ bl b := by
  show (a ++ b).data.toList = a.data.toList ++ b.data.toList
  rw [ByteArray.data_append, Array.toList_append]
theorem rst_app (b s : ByteArray) (a : Nat) : rst (b ++ s) (b.size + a) = rst s a := by
  apply ba_ext
  show bl _ = bl _
  unfold rst
  rw [bl_extract, bl_extract, bl_app, ByteArray.size_append, List.drop_append, bl_len, List.drop_eq_nil_of_le (by rw [bl_len]; omega), List.nil_append, Nat.add_sub_cancel_left, show b.size + s.size - (b.size + a) = s.size - a by omega]
theorem tokAt_app (b s : ByteArray) (a : Nat) : tokAt (b ++ s) (b.size + a) = sh b.size (tokAt s a) := by
  unfold tokAt sh
  rw [rst_app, Nat.add_comm]
theorem scanF_app (b s : ByteArray) : ∀ (f a : Nat) (T : List Tok), scanF (b ++ s) f (b.size + a) (T.map (sh b.size)) = shO b.size (scanF s f a T)
  | 0, a, T => by
    show (⟨[], b.size + a, 90⟩ : Out) = ⟨[], a + b.size, 90⟩
    rw [Nat.add_comm]
  | f + 1, a, T => by
    unfold scanF
    rw [rst_app, ByteArray.size_append]
    by_cases h1 : s.size ≤ a
    · rw [if_pos (by omega), if_pos h1]
      show (⟨_ ++ _, 0, 0⟩ : Out) = ⟨List.map _ (_ ++ _), 0, 0⟩
      rw [List.map_append]
      show (⟨_ ++ [(⟨0, b.size + a, _, 0, _⟩ : Tok)], 0, 0⟩ : Out) = ⟨_ ++ [(⟨0, a + b.size, _, 0, _⟩ : Tok)], 0, 0⟩
      rw [Nat.add_comm]
    · rw [if_neg (by omega), if_neg h1]
      by_cases h2 : blankB (hd (rst s a)) = true
      · rw [if_pos h2, if_pos h2, Nat.add_assoc]
        exact scanF_app b s f (a + 1) T
      · rw [if_neg h2, if_neg h2]
        by_cases h3 : (oneT (rst s a)).m = 0
        · rw [if_pos h3, if_pos h3]
          show (⟨[], b.size + a, 90⟩ : Out) = ⟨[], a + b.size, 90⟩
          rw [Nat.add_comm]
        · rw [if_neg h3, if_neg h3, Nat.add_assoc, tokAt_app]
          have := scanF_app b s f (a + (oneT (rst s a)).m) (T ++ [tokAt s a])
          rw [List.map_append] at this
          exact this
theorem byt_app (b s : ByteArray) (k : Nat) (h : k < b.size) : byt (b ++ s) k = byt b k := by
  unfold byt
  rw [bl_app, List.getD_eq_getElem?_getD, List.getD_eq_getElem?_getD, List.getElem?_append_left (by rw [bl_len]; exact h)]
theorem scanF_blank (b s : ByteArray) (hb : ∀ k, k < b.size → blankB (byt b k) = true) (f : Nat) (T : List Tok) : ∀ d k : Nat, k + d = b.size → scanF (b ++ s) (d + f) k T = scanF (b ++ s) f b.size T
  | 0, k, h => by rw [Nat.zero_add, show k = b.size by omega]
  | d + 1, k, h => by
    rw [show d + 1 + f = (d + f) + 1 by omega]
    show (if (b ++ s).size ≤ k then _ else if blankB (hd (rst (b ++ s) k)) then scanF (b ++ s) (d + f) (k + 1) T else _) = _
    rw [if_neg (by rw [ByteArray.size_append]; omega), hd_rst, byt_app b s k (by omega), if_pos (hb k (by omega))]
    exact scanF_blank b s hb f T d (k + 1) (by omega)
theorem scanO_app (b s : ByteArray) (hb : ∀ k, k < b.size → blankB (byt b k) = true) (hs : b.size + s.size ≤ 4096) : scanO (b ++ s) = shO b.size (scanO s) := by
  unfold scanO
  rw [if_neg (by rw [ByteArray.size_append]; omega), if_neg (by omega), ByteArray.size_append, show b.size + s.size + 1 = b.size + (s.size + 1) by omega,
    scanF_blank b s hb (s.size + 1) [] b.size 0 (by omega)]
  have := scanF_app b s (s.size + 1) 0 []
  rw [Nat.add_zero] at this
  exact this
theorem scanF_e0 (s : ByteArray) : ∀ (f a : Nat) (T : List Tok), (scanF s f a T).e = 0 → (scanF s f a T).at_ = 0
  | 0, _, _, h => by cases h
  | f + 1, a, T, h => by
    unfold scanF at h ⊢
    split
    · rfl
    · rename_i h1
      rw [if_neg h1] at h
      split
      · rename_i h2
        rw [if_pos h2] at h
        exact scanF_e0 s f _ _ h
      · rename_i h2
        rw [if_neg h2] at h
        split
        · rename_i h3
          rw [if_pos h3] at h
          cases h
        · rename_i h3
          rw [if_neg h3] at h
          exact scanF_e0 s f _ _ h
theorem scanF_at (s : ByteArray) : ∀ (f a : Nat) (T : List Tok), a ≤ s.size → (scanF s f a T).at_ ≤ s.size
  | 0, _, _, h => h
  | f + 1, a, T, h => by
    unfold scanF
    split
    · exact Nat.zero_le _
    · split
      · exact scanF_at s f _ _ (by omega)
      · split
        · exact h
        · have := oneT_le (rst s a)
          rw [rst_size] at this
          exact scanF_at s f _ _ (by omega)
theorem scanO_at (s : ByteArray) : (scanO s).at_ ≤ s.size := by
  unfold scanO
  split
  · exact Nat.zero_le _
  · exact scanF_at s _ 0 [] (Nat.zero_le _)
/-- the row of blanks that the law makes -/
def fourB : ByteArray := ⟨#[32, 9, 10, 13]⟩
def mb : Nat → ByteArray
  | 0 => ⟨#[]⟩
  | i + 1 => mb i ++ fourB.extract (i % 4) (i % 4 + 1)
theorem four_size (i : Nat) : (fourB.extract (i % 4) (i % 4 + 1)).size = 1 := by
  rw [ByteArray.size_extract]
  have : fourB.size = 4 := rfl
  have := Nat.mod_lt i (show 4 > 0 by decide)
  omega
theorem mb_size : ∀ i, (mb i).size = i
  | 0 => rfl
  | i + 1 => by
    show (mb i ++ _).size = _
    rw [ByteArray.size_append, mb_size i, four_size]
theorem four_blank (i : Nat) : blankB (byt (fourB.extract (i % 4) (i % 4 + 1)) 0) = true := by
  have h := Nat.mod_lt i (show 4 > 0 by decide)
  generalize i % 4 = r at *
  match r, h with
  | 0, _ => decide +kernel
  | 1, _ => decide +kernel
  | 2, _ => decide +kernel
  | 3, _ => decide +kernel
theorem mb_blank : ∀ i k, k < i → blankB (byt (mb i) k) = true
  | i + 1, k, h => by
    show blankB (byt (mb i ++ _) k) = true
    by_cases hk : k < i
    · rw [byt_app _ _ _ (by rw [mb_size]; exact hk)]
      exact mb_blank i k hk
    · obtain rfl : k = i := by omega
      have e : byt (mb k ++ fourB.extract (k % 4) (k % 4 + 1)) k = byt (fourB.extract (k % 4) (k % 4 + 1)) 0 := by
        unfold byt
        rw [bl_app, List.getD_eq_getElem?_getD, List.getD_eq_getElem?_getD, List.getElem?_append_right (by rw [bl_len, mb_size]; omega), bl_len, mb_size, Nat.sub_self]
      rw [e]
      exact four_blank k
end Go.Proofs.YtffneogphgodnaaDoor
