/-
  OF PACKS THAT WERE CUT OFF THOSE ARE FOUND THAT ARE WHOLE. Plain.
-/
import Derived.Test.YtpnkdpmhphhenabBack
namespace Go.Proofs.Ytpnkdpmhphhenab
open Go.RowKit Go.Sort
/-- where the first k packs end -/
def psz (xs : List ByteArray) (k : Nat) : Nat := (packs (xs.take k)).size
theorem psz_zero (xs : List ByteArray) : psz xs 0 = 0 := rfl
theorem psz_eq (xs : List ByteArray) (k : Nat) (hk : k ≤ xs.length) : psz xs k = total (xs.take k) + 7 * k := by
  unfold psz; rw [packs_size, List.length_take, Nat.min_eq_left hk]
theorem psz_next (xs : List ByteArray) (k : Nat) (hk : k < xs.length) : psz xs (k + 1) = psz xs k + xs[k].size + 7 := by
  rw [psz_eq xs (k + 1) hk, psz_eq xs k (by omega), take_next xs k hk, total_snoc]; omega
theorem psz_all (xs : List ByteArray) : psz xs xs.length = (packs xs).size := by unfold psz; rw [List.take_length]
theorem packs_append (l m : List ByteArray) : packs (l ++ m) = packs l ++ packs m := by
  induction l with
  | nil => rw [List.nil_append]; simp only [packs, nil_cat]
  | cons a l ih => simp only [List.cons_append, packs, ih, cat_assoc]
theorem unp_nil : (unp ⟨#[]⟩).2.2 = 5 := by decide +kernel
/-- of a pack that was cut off nothing is found -/
theorem unp_cut (z t : ByteArray) (h : z.size ≤ 1048576) (j : Nat) (hj : j < z.size + 7) : (unp ((packS z ++ t).extract 0 j)).2.2 ≠ 0 := by
  have hs : (packS z ++ t).size = z.size + 7 + t.size := by rw [ByteArray.size_append, pack_size]
  have hsz : ((packS z ++ t).extract 0 j).size = j := by simp; rw [pack_size]; omega
  by_cases h3 : j < 3
  · unfold unp; rw [if_pos (by omega)]; simp
  · have hl : len3 ((packS z ++ t).extract 0 j) = z.size := by
      refine len3_front (t := (z.data.toList ++ ((footS (frontS z)).data.toList ++ t.data.toList)).take (j - 3)) z h ?_
      rw [Lib.extract_data, pack_list z h, List.drop_zero, Nat.sub_zero, List.take_append]
      rw [List.take_of_length_le (by simp; omega)]
      simp
    rw [unp_eq _ (by omega), hl, hsz]
    by_cases h4 : 1048576 < z.size
    · omega
    · rw [if_neg h4, if_pos hj]; simp
/-- what is found of packs that were cut at 'at', where the first m end ahead of it, and the next one does not -/
theorem all_cut (xs : List ByteArray) (ht : total xs ≤ 40000) (at_ m : Nat) (hm : m ≤ xs.length) (h1 : psz xs m ≤ at_) (h3 : m < xs.length → at_ < psz xs (m + 1)) :
    allS ((packs xs).extract 0 at_) = (xs.take m, (packs xs).extract (psz xs m) at_) := by
  have hx : packs xs = packs (xs.take m) ++ packs (xs.drop m) := by rw [← packs_append, List.take_append_drop]
  have hsp : (packs xs).extract 0 at_ = packs (xs.take m) ++ (packs xs).extract (psz xs m) at_ := by
    rw [extract_split (packs xs) (a := 0) (b := psz xs m) (c := at_) (Nat.zero_le _) h1]
    congr 1
    apply bytes_ext
    rw [Lib.extract_data, hx, append_data, List.drop_zero, Nat.sub_zero, List.take_append_of_le_length (by rw [← Lib.size_eq]; exact Nat.le_refl _), List.take_of_length_le (by rw [← Lib.size_eq]; exact Nat.le_refl _)]
  have htail : (packs xs).extract (psz xs m) at_ = (packs (xs.drop m)).extract 0 (at_ - psz xs m) := by
    apply bytes_ext
    rw [Lib.extract_data, Lib.extract_data, hx, append_data]
    have hlen : (packs (xs.take m)).data.toList.length = psz xs m := (Lib.size_eq _).symm
    rw [show psz xs m = (packs (xs.take m)).data.toList.length from hlen.symm, List.drop_left]
    simp
  have herr : (unp ((packs xs).extract (psz xs m) at_)).2.2 ≠ 0 := by
    rw [htail]
    by_cases hmn : m < xs.length
    · rw [List.drop_eq_getElem_cons hmn]
      simp only [packs]
      refine unp_cut _ _ ?_ _ ?_
      · have := total_le (List.getElem_mem hmn); omega
      · have := h3 hmn; rw [psz_next xs m hmn] at this; omega
    · have : m = xs.length := by omega
      subst this
      rw [List.drop_length]
      have e : (packs []).extract 0 (at_ - psz xs xs.length) = ⟨#[]⟩ := by
        apply bytes_ext
        rw [Lib.extract_data]; simp [packs]
      rw [e, unp_nil]; decide
  rw [hsp, all_back (xs.take m) _ (by have := total_take xs m; omega) herr]
end Go.Proofs.Ytpnkdpmhphhenab
