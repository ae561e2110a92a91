/-
  A TOKEN, PLAIN: what stands at the front of a text; numbers as decimal and as hexadecimal digits say them.
-/
import Derived.Test.YtffneogphgodnaaDoorByt
import Derived.Lib.AtoiAll
import Derived.Lib.Strings
import Derived.ShutString
namespace Go.Proofs.YtffneogphgodnaaDoor
open Go.RowKit
/-- a token at the front: its kind, how many bytes (0: none), its number, its text's inside -/
structure T1 where
  k : Int
  m : Nat
  n : Int
  s : ByteArray
def t0 : T1 := ⟨0, 0, 0, ⟨#[]⟩⟩
def decN (l : List UInt8) : Nat := l.foldl (fun a b => a * 10 + (b.toNat - 48)) 0
def hexD (b : UInt8) : Nat := if b.toNat ≤ 57 then b.toNat - 48 else b.toNat - 87
def hexN (l : List UInt8) : Nat := l.foldl (fun a b => a * 16 + hexD b) 0
def negB (r : ByteArray) : Bool := (bl r).head? == some 45
/-- behind the sign -/
def unsg (r : ByteArray) : ByteArray := if negB r then r.extract 1 r.size else r
def wordT (r : ByteArray) : T1 := ⟨1, spanN wordB (bl r), 0, ⟨#[]⟩⟩
def numOk (r : ByteArray) : Bool := decide (1 ≤ spanN digB (bl (unsg r))) && (decide (spanN digB (bl (unsg r)) ≤ 18) && !(decide (1 < spanN digB (bl (unsg r))) && decide ((bl (unsg r)).headD 0 = 48)))
def sgn (b : Bool) (n : Nat) : Int := if b then -(n : Int) else n
def numT (r : ByteArray) : T1 := if numOk r then ⟨2, (r.size - (unsg r).size) + spanN digB (bl (unsg r)), sgn (negB r) (decN ((bl (unsg r)).take (spanN digB (bl (unsg r))))), ⟨#[]⟩⟩ else t0
def inner (r : ByteArray) : ByteArray := r.extract 1 r.size
def textOk (r : ByteArray) : Bool := decide (spanN textB (bl (inner r)) ≤ 64) && (decide (spanN textB (bl (inner r)) < (inner r).size) && decide ((bl (inner r)).getD (spanN textB (bl (inner r))) 0 = 39))
def textT (r : ByteArray) : T1 := if textOk r then ⟨3, spanN textB (bl (inner r)) + 2, 0, (inner r).extract 0 (spanN textB (bl (inner r)))⟩ else t0
def w64 (n : Nat) : Int := IntKind.i64.wrap (n : Int)
def bitsT (r : ByteArray) : T1 := if spanN hexB (bl (inner r)) = 16 then ⟨5, 17, w64 (hexN ((bl (inner r)).take 16)), ⟨#[]⟩⟩ else t0
def signs : List UInt8 := [40, 41, 91, 93, 123, 125, 44, 59, 124, 42, 43, 63, 33, 61, 60, 62, 47]
def twoB (r : ByteArray) : Bool := decide (1 < r.size) && (decide ((bl r).getD 1 0 = 61) && decide ((bl r).headD 0 ∈ ([33, 60, 62] : List UInt8)))
def signT (r : ByteArray) : T1 := if (bl r).headD 0 ∈ signs then (if twoB r then ⟨4, 2, 0, ⟨#[]⟩⟩ else ⟨4, 1, 0, ⟨#[]⟩⟩) else t0
def hd (r : ByteArray) : Int := ((bl r).headD 0).toNat
/-- what begins at the front of a text that is not empty and begins with no blank -/
def oneT (r : ByteArray) : T1 :=
  if lettB (hd r) then wordT r else if digB (hd r) || decide (hd r = 45) then numT r else if hd r = 39 then textT r else if hd r = 35 then bitsT r else signT r
def tokV (k at_ : Int) (t : ByteArray) (n : Int) (s : ByteArray) : Value := .agg #[.int .i64 k, .int .i64 at_, .string t, .int .i64 n, .string s]
def T1.val (x : T1) (r : ByteArray) : Value := tokV x.k 0 (r.extract 0 x.m) x.n x.s
theorem ba_ext {a b : ByteArray} (h : a.data.toList = b.data.toList) : a = b := ByteArray.ext (Array.toList_inj.1 h)
theorem bl_extract (r : ByteArray) (a b : Nat) : bl (r.extract a b) = ((bl r).drop a).take (b - a) := by unfold bl; rw [Lib.extract_data]
theorem extract_zero (r : ByteArray) : r.extract 0 0 = ⟨#[]⟩ := ba_ext (by rw [Lib.extract_data]; simp)
theorem bl_inner (r : ByteArray) : bl (inner r) = (bl r).drop 1 := by
  unfold inner
  rw [bl_extract, List.take_of_length_le (by rw [List.length_drop, bl_len]; exact Nat.le_refl _)]
theorem inner_size (r : ByteArray) : (inner r).size = r.size - 1 := by rw [← bl_len, bl_inner, List.length_drop, bl_len]
theorem headD_get : ∀ (l : List UInt8) (h : 0 < l.length), l.headD 0 = l[0]
  | c :: _, _ => rfl
theorem headq_get : ∀ (l : List UInt8) (h : 0 < l.length), l.head? = some l[0]
  | c :: _, _ => rfl
theorem head_at (s : ByteArray) (h : 0 < s.size) : (bl s).headD 0 = s[0] := (headD_get _ (by rw [bl_len]; exact h)).trans (bl_at s 0 h)
theorem headq_at (s : ByteArray) (h : 0 < s.size) : (bl s).head? = some s[0] := (headq_get _ (by rw [bl_len]; exact h)).trans (congrArg some (bl_at s 0 h))
/-- digits, as the library reads them -/
theorem dig_of {l : List UInt8} (h : ∀ b ∈ l, digB (b.toNat : Int) = true) (a : Nat) : Lib.decFrom a l = some (l.foldl (fun a b => a * 10 + (b.toNat - 48)) a) := by
  induction l generalizing a with
  | nil => rfl
  | cons b l ih =>
    have hb := h b (by simp)
    unfold digB at hb
    simp only [Bool.and_eq_true, decide_eq_true_eq] at hb
    simp only [Lib.decFrom, List.foldl_cons]
    have : Lib.digitVal b = some (b.toNat - 48) := by unfold Lib.digitVal; rw [if_pos (by omega)]
    rw [this]
    exact ih (fun c hc => h c (by simp [hc])) _
theorem span_take (p : Int → Bool) : ∀ l : List UInt8, l.take (spanN p l) = l.takeWhile fun c => p (c.toNat : Int)
  | [] => rfl
  | c :: l => by
    have ih := span_take p l
    unfold spanN at ih ⊢
    rw [List.takeWhile_cons]
    split
    · simp [ih]
    · rfl
theorem span_all_of (p : Int → Bool) (l : List UInt8) : ∀ b ∈ l.take (spanN p l), p (b.toNat : Int) = true := by
  intro b hb
  rw [span_take] at hb
  exact (List.all_eq_true.1 (List.all_takeWhile (p := fun c : UInt8 => p (c.toNat : Int)) (l := l))) b hb
end Go.Proofs.YtffneogphgodnaaDoor
