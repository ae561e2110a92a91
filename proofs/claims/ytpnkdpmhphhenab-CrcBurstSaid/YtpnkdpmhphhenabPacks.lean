/-
  PACKS ONE BEHIND THE OTHER ARE FOUND. Plain, over the bytes of strings.
-/
import Derived.Test.YtpnkdpmhphhenabFew
namespace Go.Proofs.Ytpnkdpmhphhenab
open Go.RowKit Go.Sort
theorem head3_list (n : Nat) (h : n ≤ 1048576) : ((head3 n).map fun m => UInt8.ofNat m.toNat) = [UInt8.ofNat (n / 65536), UInt8.ofNat (n / 256 % 256), UInt8.ofNat (n % 256)] := by
  simp only [head3, List.map_cons, List.map_nil]
  have e1 : (((n : Int) / 65536).toNat) = n / 65536 := by omega
  have e2 : (((n : Int) / 256 % 256).toNat) = n / 256 % 256 := by omega
  have e3 : (((n : Int) % 256).toNat) = n % 256 := by omega
  rw [e1, e2, e3]
/-- the bytes of a front: three for the length, and the body -/
theorem front_list (b : ByteArray) (h : b.size ≤ 1048576) : (frontS b).data.toList = [UInt8.ofNat (b.size / 65536), UInt8.ofNat (b.size / 256 % 256), UInt8.ofNat (b.size % 256)] ++ b.data.toList := by
  unfold frontS
  rw [append_data, strOfNums_data, head3_list _ h]
theorem ofNat_toNat {n : Nat} (h : n < 256) : (UInt8.ofNat n).toNat = n := by rw [UInt8.toNat_ofNat']; omega
/-- whatever begins with a front's first three bytes says the body's length -/
theorem len3_front {t : List UInt8} {S : ByteArray} (b : ByteArray) (h : b.size ≤ 1048576) (hS : S.data.toList = [UInt8.ofNat (b.size / 65536), UInt8.ofNat (b.size / 256 % 256), UInt8.ofNat (b.size % 256)] ++ t) : len3 S = b.size := by
  unfold len3
  rw [hS]
  simp only [List.cons_append, List.nil_append, List.getD_cons_zero, List.getD_cons_succ]
  rw [ofNat_toNat (by omega), ofNat_toNat (by omega), ofNat_toNat (by omega)]
  omega
theorem pack_list (b : ByteArray) (h : b.size ≤ 1048576) (t : ByteArray) : (packS b ++ t).data.toList = [UInt8.ofNat (b.size / 65536), UInt8.ofNat (b.size / 256 % 256), UInt8.ofNat (b.size % 256)] ++ (b.data.toList ++ ((footS (frontS b)).data.toList ++ t.data.toList)) := by
  unfold packS
  rw [append_data, append_data, front_list b h]
  simp
/-- a pack at the front is found -/
theorem unp_pack (b t : ByteArray) (h : b.size ≤ 1048576) : unp (packS b ++ t) = (b, t, 0) := by
  have hl : len3 (packS b ++ t) = b.size := len3_front b h (pack_list b h t)
  have hs : (packS b ++ t).size = b.size + 7 + t.size := by rw [ByteArray.size_append, pack_size]
  have hf : (footS (frontS b)).data.toList.length = 4 := by rw [← Lib.size_eq]; exact foot_size _
  have hb : b.data.toList.length = b.size := (Lib.size_eq b).symm
  have e1 : (packS b ++ t).extract 0 (b.size + 3) = frontS b := by
    apply bytes_ext
    rw [Lib.extract_data, pack_list b h, front_list b h]
    simp [hb]
  have e2 : (packS b ++ t).extract (b.size + 3) (b.size + 7) = footS (frontS b) := by
    apply bytes_ext
    rw [Lib.extract_data, pack_list b h, show b.size + 7 - (b.size + 3) = 4 by omega, show b.size + 3 = 3 + b.size by omega, ← List.drop_drop]
    simp [List.drop_append, hb, hf]
  have e3 : (packS b ++ t).extract 3 (b.size + 3) = b := by
    apply bytes_ext
    rw [Lib.extract_data, pack_list b h]
    simp [hb]
  have e4 : (packS b ++ t).extract (b.size + 7) (packS b ++ t).size = t := by
    apply bytes_ext
    rw [Lib.extract_data, List.take_of_length_le (by rw [List.length_drop, ← Lib.size_eq]; exact Nat.le_refl _), pack_list b h]
    rw [show b.size + 7 = 3 + (b.size + 4) by omega, ← List.drop_drop]
    simp [List.drop_append, hb, hf]
  rw [unp_eq _ (by omega), hl, if_neg (by omega), if_neg (by omega), e1, e2, e3, e4, if_neg (by simp)]
/-- packs one behind the other -/
def packs : List ByteArray → ByteArray
  | [] => ⟨#[]⟩
  | b :: l => packS b ++ packs l
theorem cat_nil (s : ByteArray) : s ++ (⟨#[]⟩ : ByteArray) = s := bytes_ext (by rw [append_data]; simp)
theorem nil_cat (s : ByteArray) : (⟨#[]⟩ : ByteArray) ++ s = s := bytes_ext (by rw [append_data]; simp)
theorem cat_assoc (a b c : ByteArray) : a ++ b ++ c = a ++ (b ++ c) := bytes_ext (by simp only [append_data, List.append_assoc])
theorem packs_snoc (l : List ByteArray) (b : ByteArray) : packs (l ++ [b]) = packs l ++ packS b := by
  induction l with
  | nil => simp only [List.nil_append, packs, cat_nil, nil_cat]
  | cons a l ih => simp only [List.cons_append, packs, ih, cat_assoc]
theorem packs_size (l : List ByteArray) : (packs l).size = total l + 7 * l.length := by
  induction l with
  | nil => rfl
  | cons a l ih => simp only [packs, ByteArray.size_append, pack_size, ih, total, List.length_cons]; omega
theorem at_packs {S : ByteArray} (zs : List ByteArray) : ∀ (ys : List ByteArray) (t : ByteArray), (∀ z ∈ zs, z.size ≤ 1048576) → At S ys (packs zs ++ t) → At S (ys ++ zs) t := by
  induction zs with
  | nil => intro ys t _ h; simpa [packs, nil_cat] using h
  | cons z zs ih =>
    intro ys t hz h
    simp only [packs, cat_assoc] at h
    have hu := unp_pack z (packs zs ++ t) (hz z (by simp))
    have h1 := h.next (by rw [hu])
    rw [hu] at h1
    have := ih (ys ++ [z]) t (fun y hy => hz y (by simp [hy])) h1
    simpa using this
theorem total_le {l : List ByteArray} {x : ByteArray} (h : x ∈ l) : x.size ≤ total l := by
  induction l with
  | nil => simp at h
  | cons y l ih =>
    simp only [total]
    rcases List.mem_cons.1 h with rfl | h
    · omega
    · have := ih h; omega
/-- all packs are found; what begins no pack is left -/
theorem all_back (l : List ByteArray) (t : ByteArray) (hl : total l ≤ 40000) (ht : (unp t).2.2 ≠ 0) : allS (packs l ++ t) = (l, t) := by
  have h := at_packs l [] t (fun z hz => by have := total_le hz; omega) (At.start _)
  simpa using h.stop ht
theorem all_more (l : List ByteArray) (t : ByteArray) (hl : total l ≤ 40000) (ht : (unp t).2.2 = 0) : ∃ ys, allS (packs l ++ t) = (l ++ ys, (allS (packs l ++ t)).2) ∧ 0 < ys.length := by
  have h := at_packs l [] t (fun z hz => by have := total_le hz; omega) (At.start _)
  rw [List.nil_append] at h
  have hle := h.less
  refine ⟨(alls ((packs l ++ t).size + 1 - l.length) t).1, ?_, ?_⟩
  · rw [h.rest]
  · rw [show (packs l ++ t).size + 1 - l.length = ((packs l ++ t).size - l.length) + 1 by omega, alls_step _ _ ht]
    simp
end Go.Proofs.Ytpnkdpmhphhenab
