/-
  What is written is read as it was, plainly.
-/
import Derived.Test.YtlcgicgdlhnfoaaBld
import Derived.Test.YtlcgicgdlhnfoaaBtp
import Derived.Test.YtlcgicgdlhnfoaaBWas
namespace Go.Proofs.Ytlcgicgdlhnfoaa
open Go.RowKit
theorem drop_cat (a b : ByteArray) : (a ++ b).extract a.size (a ++ b).size = b := Bt.bytes_ext (by
  rw [Bt.ext_data, Bt.cat_data, List.drop_left' (by rw [Lib.size_eq])])
theorem num_put (n : Nat) (hn : n < 18446744073709551616) (rest : ByteArray) : pn (Bt.numS (n : Int) ++ rest, 0) = (n, (rest, 0)) := by
  unfold pn Bt.tNum
  simp only
  rw [Bt.cat_data, Bt.rd_num n hn, Bt.tk_ok, drop_cat]
theorem pNs_put (xs : List Int) (hx : ∀ x ∈ xs, 0 ≤ x ∧ x ≤ 549755813888) (rest : ByteArray) : ∀ k, k ≤ xs.length → pNs k (pkS xs ++ rest, 0) = (xs.take k, (pkS (xs.drop k) ++ rest, 0))
  | 0, _ => by rw [List.take_zero, List.drop_zero]; rfl
  | k + 1, hk => by
    have ih := pNs_put xs hx rest k (by omega)
    have hkl : k < xs.length := by omega
    show ((pNs k (pkS xs ++ rest, 0)).1 ++ [IntKind.i64.wrap ((pn (pNs k (pkS xs ++ rest, 0)).2).1 : Int)], (pn (pNs k (pkS xs ++ rest, 0)).2).2) = _
    rw [ih, List.drop_eq_getElem_cons hkl]
    have hy := hx xs[k] (List.getElem_mem hkl)
    have hp : pkS (xs[k] :: xs.drop (k + 1)) ++ rest = Bt.numS ((xs[k].toNat : Nat) : Int) ++ (pkS (xs.drop (k + 1)) ++ rest) := by
      show Bt.numS xs[k] ++ pkS (xs.drop (k + 1)) ++ rest = _
      rw [ba_assoc, Int.toNat_of_nonneg hy.1]
    simp only [hp]
    rw [num_put _ (by omega)]
    simp only
    rw [List.take_succ_eq_append_getElem hkl, Int.toNat_of_nonneg hy.1, show IntKind.i64.wrap xs[k] = xs[k] by rw [IntKind.wrap_i64]; omega]
theorem pMt_put {xs : List Int} (h : mayB xs = true) (rest : ByteArray) : pMt (mtS xs ++ rest, 0) = (xs, (rest, 0)) := by
  have hl := mayB_len h
  unfold pMt mtS
  rw [ba_assoc, num_put _ (by omega)]
  simp only
  rw [Nat.min_eq_left (by omega), pNs_put xs (mayB_all h) rest xs.length (Nat.le_refl _), List.take_of_length_le (Nat.le_refl _), List.drop_of_length_le (Nat.le_refl _)]
  rw [show pkS [] = ⟨#[]⟩ from rfl, ba_nil_l]
theorem pLd_put {base : Int} {LL : List (List Int)} (sh : Shr LL) (hb : base + LL.length ≤ 549755813888) (rest : ByteArray) : ∀ k, k ≤ LL.length → pLd base k (bodS LL ++ rest, 0) = some (LL.take k, (bodS (LL.drop k) ++ rest, 0))
  | 0, _ => by rw [List.take_zero, List.drop_zero]; rfl
  | k + 1, hk => by
    have ih := pLd_put sh hb rest k (by omega)
    have hkl : k < LL.length := by omega
    have hm := sh LL[k] (List.getElem_mem hkl)
    show (pLd base k (bodS LL ++ rest, 0)).bind _ = _
    rw [ih, List.drop_eq_getElem_cons hkl]
    have hp : bodS (LL[k] :: LL.drop (k + 1)) ++ rest = mtS LL[k] ++ (bodS (LL.drop (k + 1)) ++ rest) := by
      show mtS LL[k] ++ bodS (LL.drop (k + 1)) ++ rest = _
      rw [ba_assoc]
    have hE : ptE base (LL.take k) LL[k] = 0 := by
      unfold ptE
      rw [if_pos hm, List.length_take, Nat.min_eq_left (by omega), if_neg (by omega)]
    show (if ptE base (LL.take k) (pMt (bodS (LL[k] :: LL.drop (k + 1)) ++ rest, 0)).1 = 0 then some (LL.take k ++ [(pMt (bodS (LL[k] :: LL.drop (k + 1)) ++ rest, 0)).1], (pMt (bodS (LL[k] :: LL.drop (k + 1)) ++ rest, 0)).2) else none) = _
    rw [hp, pMt_put hm]
    simp only
    rw [if_pos hE, List.take_succ_eq_append_getElem hkl]
theorem pLoad_put {base : Int} {LL : List (List Int)} (ok : BOk base LL) (sh : Shr LL) : pLoad (txtS base LL) = some (base, LL) := by
  have h0 := ok.b0
  have h1 := ok.b1
  have h2 := ok.n
  obtain ⟨b, rfl⟩ : ∃ b : Nat, base = (b : Int) := ⟨base.toNat, by omega⟩
  have hT : txtS (b : Int) LL = Bt.numS (b : Int) ++ (Bt.numS (LL.length : Int) ++ bodS LL) := by unfold txtS; rw [ba_assoc]
  have p0 : pn (txtS (b : Int) LL, 0) = (b, (Bt.numS (LL.length : Int) ++ bodS LL, 0)) := by rw [hT, num_put _ (by omega)]
  have p1 : pn (Bt.numS (LL.length : Int) ++ bodS LL, 0) = (LL.length, (bodS LL, 0)) := num_put _ (by omega) _
  have p2 := pLd_put (base := (b : Int)) sh h1 ⟨#[]⟩ LL.length (Nat.le_refl _)
  rw [ba_nil, List.take_of_length_le (Nat.le_refl _), List.drop_of_length_le (Nat.le_refl _), ba_nil] at p2
  unfold pLoad
  rw [p0]
  simp only
  rw [p1]
  simp only
  rw [if_neg (by omega), p2]
  rfl
end Go.Proofs.Ytlcgicgdlhnfoaa
