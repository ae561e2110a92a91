
/-
  WHAT IS WRITTEN IS READ AS IT WAS: plain, of each kind.
-/
import Derived.Test.YtkdaifcnlobhkaaBOne
namespace Go.Proofs.Ytkdaifcnlobhkaa.Bt
open Go.RowKit
theorem join_be (k : Nat) : ∀ n : Nat, joinN (u8l (be k (n : Int))) = n % 256 ^ k := by
  induction k with
  | zero => intro n; simp [be, u8l, joinN, Nat.mod_one]
  | succ k ih =>
    intro n
    have e : ((n : Int) / 256) = ((n / 256 : Nat) : Int) := by omega
    rw [be, u8s_snoc, joinN_snoc, e, ih, Nat.pow_succ, Nat.mul_comm (256 ^ k) 256, Nat.mod_mul]
    have e2 : (UInt8.ofNat ((n : Int) % 256).toNat).toNat = n % 256 := by
      rw [UInt8.toNat_ofNat']; omega
    rw [e2]; omega
theorem u8l_len (l : List Int) : (u8l l).length = l.length := by simp [u8l]
theorem wid_hi {n : Nat} (h : n < 18446744073709551616) : n < 256 ^ wid (n : Int) := by
  unfold wid
  repeat' split
  all_goals simp only [Nat.reducePow]; omega
theorem wid_lo {n : Nat} (h : 247 < n) : leastN (wid (n : Int)) ≤ n := by
  unfold wid leastN
  repeat' split
  all_goals first | omega | (simp only [Nat.reduceSub, Nat.reducePow]; omega)
theorem rd_num (n : Nat) (h : n < 18446744073709551616) (more : List UInt8) : rdNum ((numS (n : Int)).data.toList ++ more) = (n, (numS (n : Int)).size, 0) := by
  rw [Lib.size_eq]
  unfold numS
  rw [strOfNums_data]
  by_cases h1 : (n : Int) ≤ 247
  · unfold numI
    rw [if_pos h1]
    have e : (UInt8.ofNat ((n : Int).toNat)).toNat = n := by rw [UInt8.toNat_ofNat']; omega
    simp only [List.map_cons, List.map_nil, List.cons_append, List.nil_append, rdNum, e]
    rw [if_pos (by omega)]
    simp
  · unfold numI
    rw [if_neg h1]
    have hw := wid_le (n : Int)
    have e : (UInt8.ofNat (((247 + wid (n : Int) : Nat) : Int).toNat)).toNat = 247 + wid (n : Int) := by rw [UInt8.toNat_ofNat']; omega
    simp only [List.map_cons, List.cons_append, rdNum, e]
    have hl : (List.map (fun m : Int => UInt8.ofNat m.toNat) (be (wid (n : Int)) (n : Int))).length = wid (n : Int) := by rw [List.length_map, be_len]
    have ht : (List.map (fun m : Int => UInt8.ofNat m.toNat) (be (wid (n : Int)) (n : Int)) ++ more).take (wid (n : Int)) = u8l (be (wid (n : Int)) (n : Int)) := by
      rw [List.take_append_of_le_length (by omega), List.take_of_length_le (by omega)]; rfl
    rw [if_neg (by omega), if_neg (by rw [List.length_append, hl]; omega), show 247 + wid (n : Int) - 247 = wid (n : Int) by omega, ht, join_be, Nat.mod_eq_of_lt (wid_hi h), if_neg (by have := wid_lo (n := n) (by omega); omega)]
    simp only [List.length_cons, hl]
theorem rd_int (n : Int) (h0 : -9223372036854775808 ≤ n) (h1 : n ≤ 9223372036854775807) (more : List UInt8) : rdInt ((intS n).data.toList ++ more) = (n, (intS n).size, 0) := by
  unfold rdInt intS
  rw [rd_num _ (by have := zig_lt h0 h1; omega)]
  have e : unz (Lib.zigzag n) = n := by
    unfold unz Lib.zigzag
    split <;> split <;> omega
  rw [e]
theorem rd_text (s more : ByteArray) (hs : s.size < 9223372036854775808) : rdText (textS s ++ more) (s.size : Int) = (s, (textS s).size, 0) := by
  have hd : (textS s ++ more).data.toList = (numS (s.size : Int)).data.toList ++ (s.data.toList ++ more.data.toList) := by
    unfold textS; rw [cat_data, cat_data, List.append_assoc]
  have hR : rdNum (textS s ++ more).data.toList = (s.size, (numS (s.size : Int)).size, 0) := by rw [hd]; exact rd_num _ (by omega) _
  have hz : (textS s ++ more).size = (numS (s.size : Int)).size + s.size + more.size := by unfold textS; rw [ByteArray.size_append, ByteArray.size_append]
  rw [rdText_eq _ _ hR, if_neg (by simp), if_neg (by omega), if_neg (by omega)]
  have ht : (textS s).size = (numS (s.size : Int)).size + s.size := by unfold textS; rw [ByteArray.size_append]
  rw [ht]
  refine congrArg (fun x => (x, _)) ?_
  apply bytes_ext
  rw [Lib.extract_data, hd, Lib.size_eq (numS (s.size : Int)), List.drop_left, Nat.add_sub_cancel_left, Lib.size_eq s, List.take_left]
end Go.Proofs.Ytkdaifcnlobhkaa.Bt
