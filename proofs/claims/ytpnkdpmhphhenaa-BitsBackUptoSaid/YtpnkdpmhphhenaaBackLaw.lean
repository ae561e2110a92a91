/-
  THE LAW BitsBack AS A WALK.
-/
import Derived.Test.YtpnkdpmhphhenaaAgain
namespace Go.Proofs.Ytpnkdpmhphhenaa
open Go.RowKit Go.Sort
/-- a thing that is written -/
structure Thg where
  k : Int
  n : Nat
  m : Int
  f : Nat
  s : ByteArray
  c : Bool
def Thg.val (x : Thg) : Value := .agg #[.int .u8 x.k, .int .u64 (x.n : Int), .int .i64 x.m, .float .f64 x.f, .string x.s, .bool x.c]
structure Thg.ok (x : Thg) : Prop where
  k0 : 0 ≤ x.k
  k1 : x.k < 256
  n1 : x.n < 18446744073709551616
  m0 : -9223372036854775808 ≤ x.m
  m1 : x.m ≤ 9223372036854775807
  f1 : x.f < 18446744073709551616
  s1 : x.s.size ≤ 281474976710656
/-- its bytes -/
def Thg.bytes (x : Thg) : ByteArray := if x.k % 5 = 0 then numS (x.n : Int) else if x.k % 5 = 1 then intS x.m else if x.k % 5 = 2 then realS x.f else if x.k % 5 = 3 then textS x.s else flagS x.c
theorem written_any (x : Thg) (h : x.ok) (w : World) : Calls Try.prog 27 #[x.val] w fun r w' => r = .returned (.string x.bytes) ∧ Below w.heap.size w w' := by
  obtain ⟨k, n, m, f, s, c⟩ := x
  obtain ⟨k0, k1, n1, m0, m1, f1, s1⟩ := h
  simp only at k0 k1 n1 m0 m1 f1 s1
  unfold Thg.val Thg.bytes
  simp only
  have hk : k % 5 = 0 ∨ k % 5 = 1 ∨ k % 5 = 2 ∨ k % 5 = 3 ∨ k % 5 = 4 := by omega
  rcases hk with e | e | e | e | e
  · rw [if_pos e]; exact written_num k n m f s c e k0 k1 (by omega) (by omega) w
  · rw [if_neg (by omega), if_pos e]; exact written_int k n m f s c e k0 k1 m0 m1 w
  · rw [if_neg (by omega), if_neg (by omega), if_pos e]; exact written_real k n m f s c e k0 k1 f1 w
  · rw [if_neg (by omega), if_neg (by omega), if_neg (by omega), if_pos e]; exact written_text k n m f s c e k0 k1 (by omega) w
  · rw [if_neg (by omega), if_neg (by omega), if_neg (by omega), if_neg (by omega)]; exact written_flag k n m f s c e k0 k1 w
theorem cat_size (s t : ByteArray) : (s ++ t).extract s.size (s ++ t).size = t := by
  apply bytes_ext
  rw [ext_data, cat_data, Lib.size_eq, List.drop_left]
/-- what is written of a thing is read, and what stands behind it is left -/
theorem again_any (x : Thg) (h : x.ok) {w : World} {b : Nat} (more : ByteArray) (ht : TapeAt w b (x.bytes ++ more) 0) (hr : (x.bytes ++ more).size ≤ 281474976710656) :
    Calls Try.prog 28 #[.pointer (some ⟨b, 0, none⟩), x.val] w fun e w' => e = .returned (.bool true) ∧ w.grownBy w' (some b) ∧ TapeAt w' b more 0 := by
  obtain ⟨k, n, m, f, s, c⟩ := x
  obtain ⟨k0, k1, n1, m0, m1, f1, s1⟩ := h
  simp only at k0 k1 n1 m0 m1 f1 s1
  unfold Thg.val
  unfold Thg.bytes at ht hr
  simp only at ht hr ⊢
  have hk : k % 5 = 0 ∨ k % 5 = 1 ∨ k % 5 = 2 ∨ k % 5 = 3 ∨ k % 5 = 4 := by omega
  rcases hk with e | e | e | e | e
  · rw [if_pos e] at ht hr
    refine again_num ht hr k0 k1 e n rfl ?_
    unfold tNum
    rw [cat_data, rd_num n n1, tk_ok, cat_size]
  · rw [if_neg (by omega), if_pos e] at ht hr
    refine again_int ht hr k0 k1 e ?_
    unfold tInt
    rw [cat_data, rd_int m m0 m1, tk_ok, cat_size]
  · rw [if_neg (by omega), if_neg (by omega), if_pos e] at ht hr
    refine again_real ht hr k0 k1 e ?_
    unfold tReal
    rw [cat_data, rd_real f f1, tk_ok, cat_size]
  · rw [if_neg (by omega), if_neg (by omega), if_neg (by omega), if_pos e] at ht hr
    refine again_text ht hr k0 k1 e (by omega) ?_
    unfold tText
    rw [rd_text s more (by omega), tk_ok, cat_size]
  · rw [if_neg (by omega), if_neg (by omega), if_neg (by omega), if_neg (by omega)] at ht hr
    refine again_flag ht hr k0 k1 e ?_
    unfold tFlag
    rw [cat_data, rd_flag c, tk_ok, cat_size]
end Go.Proofs.Ytpnkdpmhphhenaa
