
/-
  WHAT IS READ HAS ONE FORM: written again it is the bytes that were read. Plain.
-/
import Derived.Test.YtkdaifcnlobhkaaBMeths
namespace Go.Proofs.Ytkdaifcnlobhkaa.Bt
open Go.RowKit
theorem bytes_ext {a b : ByteArray} (h : a.data.toList = b.data.toList) : a = b := ByteArray.ext (Array.toList_inj.1 h)
theorem cat_data (a b : ByteArray) : (a ++ b).data.toList = a.data.toList ++ b.data.toList := by simp
theorem ext_data (s : ByteArray) (k : Nat) : (s.extract k s.size).data.toList = s.data.toList.drop k := by
  rw [Lib.extract_data, List.take_of_length_le]
  rw [List.length_drop, ← Lib.size_eq]
  exact Nat.le_refl _
def u8l (l : List Int) : List UInt8 := l.map fun n => UInt8.ofNat n.toNat
theorem u8s_snoc (l : List Int) (n : Int) : u8l (l ++ [n]) = u8l l ++ [UInt8.ofNat n.toNat] := by simp [u8l]
theorem be_join (l : List UInt8) : u8l (be l.length (joinN l)) = l := by
  have h : ∀ (k : Nat) (l : List UInt8), l.length = k → u8l (be k (joinN l)) = l := by
    intro k
    induction k with
    | zero => intro l hl; rw [List.eq_nil_of_length_eq_zero hl]; rfl
    | succ k ih =>
      intro l hl
      have hne : l ≠ [] := fun e => by rw [e] at hl; simp at hl
      obtain ⟨m, b, rfl⟩ : ∃ m b, l = m ++ [b] := ⟨l.dropLast, l.getLast hne, (List.dropLast_concat_getLast hne).symm⟩
      have hb := b.toNat_lt
      have hm : m.length = k := by simpa using hl
      rw [joinN_snoc]
      have e1 : (((joinN m * 256 + b.toNat : Nat) : Int) / 256) = ((joinN m : Nat) : Int) := by omega
      have e2 : (((joinN m * 256 + b.toNat : Nat) : Int) % 256).toNat = b.toNat := by omega
      simp only [be]
      rw [u8s_snoc, e1, e2, ih m hm]
      simp
  exact h _ l rfl
theorem leastN_lt (k : Nat) (h : 2 ≤ k) : leastN k = 256 ^ (k - 1) := by unfold leastN; rw [if_neg (by omega)]
theorem wid_of {n : Nat} {k : Nat} (h1 : 1 ≤ k) (h2 : k ≤ 8) (hlo : leastN k ≤ n) (hhi : n < 256 ^ k) : wid (n : Int) = k := by
  have hk : k = 1 ∨ k = 2 ∨ k = 3 ∨ k = 4 ∨ k = 5 ∨ k = 6 ∨ k = 7 ∨ k = 8 := by omega
  rcases hk with rfl | rfl | rfl | rfl | rfl | rfl | rfl | rfl
  all_goals
    simp [leastN] at hlo hhi
    unfold wid
    repeat' split
    all_goals omega
/-- a number that is read, written again, is the bytes that were read -/
theorem num_one (l : List UInt8) (h : (rdNum l).2.2 = 0) : (numS ((rdNum l).1 : Int)).data.toList = l.take (rdNum l).2.1 := by
  unfold numS
  rw [strOfNums_data]
  match l with
  | [] => simp [rdNum] at h
  | b :: t =>
    have hb := b.toNat_lt
    simp only [rdNum] at h ⊢
    split at h
    · rename_i hb1
      rw [if_pos hb1]
      unfold numI
      rw [if_pos (by simp only; omega)]
      simp
    · rename_i hb1
      rw [if_neg hb1]
      split at h
      · simp at h
      · rename_i hlen
        rw [if_neg hlen]
        split at h
        · simp at h
        · rename_i hlo
          rw [if_neg hlo]
          simp only
          have htl : (t.take (b.toNat - 247)).length = b.toNat - 247 := by rw [List.length_take]; omega
          have hlt := joinN_lt (t.take (b.toNat - 247))
          rw [htl] at hlt
          have hw := wid_of (n := joinN (t.take (b.toNat - 247))) (k := b.toNat - 247) (by omega) (by omega) (by omega) hlt
          have hbe := be_join (t.take (b.toNat - 247))
          rw [htl] at hbe
          have hge : 248 ≤ leastN (b.toNat - 247) := by
            unfold leastN
            split
            · omega
            · exact Nat.le_trans (by decide : 248 ≤ 256 ^ 1) (Nat.pow_le_pow_right (by decide) (by omega))
          have e : (((247 + (b.toNat - 247) : Nat) : Int)).toNat = b.toNat := by omega
          have hn : ¬ ((joinN (t.take (b.toNat - 247)) : Nat) : Int) ≤ 247 := by omega
          unfold u8l at hbe
          unfold numI
          rw [if_neg hn, hw, List.map_cons, List.take_succ_cons, e, hbe]
          simp
theorem zig_unz (n : Nat) : Lib.zigzag (unz n) = n := by
  unfold unz Lib.zigzag
  split
  · rename_i h; rw [if_pos (by omega)]; omega
  · rename_i h; rw [if_neg (by omega)]; omega
theorem take_cat (s x : ByteArray) (k : Nat) (h : x.data.toList = s.data.toList.take k) : x ++ s.extract k s.size = s := by
  apply bytes_ext
  rw [cat_data, ext_data, h, List.take_append_drop]
theorem num_back (s : ByteArray) (h : (rdNum s.data.toList).2.2 = 0) : numS ((rdNum s.data.toList).1 : Int) ++ s.extract (rdNum s.data.toList).2.1 s.size = s := take_cat s _ _ (num_one _ h)
theorem int_back (s : ByteArray) (h : (rdInt s.data.toList).2.2 = 0) : intS (rdInt s.data.toList).1 ++ s.extract (rdInt s.data.toList).2.1 s.size = s := by
  unfold intS rdInt
  simp only [zig_unz]
  exact num_back s h
theorem text_back (s : ByteArray) (most : Int) (h : (rdText s most).2.2 = 0) : textS (rdText s most).1 ++ s.extract (rdText s most).2.1 s.size = s := by
  rcases hR : rdNum s.data.toList with ⟨N, K, E⟩
  have hle := rdNum_le s
  have hone := num_one s.data.toList
  rw [hR] at hle hone
  rw [rdText_eq s most hR] at h ⊢
  split at h
  · rename_i hE; exact absurd h hE
  · rename_i hE
    rw [if_neg hE]
    split at h
    · simp at h
    · rename_i h2
      rw [if_neg h2]
      split at h
      · simp at h
      · rename_i h3
        rw [if_neg h3]
        simp only at hle hone ⊢
        apply take_cat
        have hsz : (s.extract K (K + N)).size = N := by simp; omega
        unfold textS
        rw [cat_data, hsz, hone (by simpa using hE), Lib.extract_data, List.take_add]
        congr 2
        omega
end Go.Proofs.Ytkdaifcnlobhkaa.Bt
