/-
  A book's text, plainly.
-/
import Derived.Test.YtlcgicgdlhnfoaaBmi
import Derived.Test.YtlcgicgdlhnfoaaBOne
namespace Go.Proofs.Ytlcgicgdlhnfoaa
open Go.RowKit
theorem mixedE : Try.prog.follows .mixedOrders = true := by kernel_rfl
theorem ba_assoc (a b c : ByteArray) : a ++ b ++ c = a ++ (b ++ c) := ByteArray.append_assoc
theorem ba_nil (a : ByteArray) : a ++ ⟨#[]⟩ = a := by apply ByteArray.ext; simp
theorem ba_nil_l (a : ByteArray) : (⟨#[]⟩ : ByteArray) ++ a = a := by apply ByteArray.ext; simp
theorem ba_size (a b : ByteArray) : (a ++ b).size = a.size + b.size := ByteArray.size_append
/-- numbers' bytes -/
def pkS : List Int → ByteArray
  | [] => ⟨#[]⟩
  | x :: r => Bt.numS x ++ pkS r
/-- a match's bytes -/
def mtS (xs : List Int) : ByteArray := Bt.numS (xs.length : Int) ++ pkS xs
def bodS : List (List Int) → ByteArray
  | [] => ⟨#[]⟩
  | x :: r => mtS x ++ bodS r
def txtS (base : Int) (LL : List (List Int)) : ByteArray := Bt.numS base ++ Bt.numS (LL.length : Int) ++ bodS LL
theorem pkS_app (l r : List Int) : pkS (l ++ r) = pkS l ++ pkS r := by
  induction l with
  | nil => exact (ba_nil_l _).symm
  | cons x l ih => rw [List.cons_append]; show Bt.numS x ++ pkS (l ++ r) = _; rw [ih, ← ba_assoc]; rfl
theorem pkS_take {L : List Int} {j : Nat} (h : j < L.length) : pkS (L.take (j + 1)) = pkS (L.take j) ++ Bt.numS L[j] := by
  rw [List.take_succ_eq_append_getElem h, pkS_app]
  congr 1
  exact ba_nil _
theorem bodS_app (l r : List (List Int)) : bodS (l ++ r) = bodS l ++ bodS r := by
  induction l with
  | nil => exact (ba_nil_l _).symm
  | cons x l ih => rw [List.cons_append]; show mtS x ++ bodS (l ++ r) = _; rw [ih, ← ba_assoc]; rfl
theorem bodS_one (x : List Int) : bodS [x] = mtS x := ba_nil _
theorem pkS_size (L : List Int) : (pkS L).size ≤ 9 * L.length := by
  induction L with
  | nil => exact Nat.zero_le _
  | cons x r ih =>
    have := Bt.numS_size x
    show (Bt.numS x ++ pkS r).size ≤ _
    rw [ba_size, List.length_cons]; omega
theorem mtS_size {xs : List Int} (h : xs.length ≤ 16) : (mtS xs).size ≤ 153 := by
  have := Bt.numS_size (xs.length : Int)
  have := pkS_size xs
  unfold mtS
  rw [ba_size]; omega
theorem bodS_size : ∀ {L : List (List Int)}, (∀ x ∈ L, x.length ≤ 16) → (bodS L).size ≤ 153 * L.length
  | [], _ => Nat.zero_le _
  | x :: r, h => by
    have h1 := mtS_size (h x (by simp))
    have h2 := bodS_size (L := r) (fun y hy => h y (by simp [hy]))
    show (mtS x ++ bodS r).size ≤ _
    rw [ba_size, List.length_cons]; omega
end Go.Proofs.Ytlcgicgdlhnfoaa
