/-
  THE WALKS OF bits.whole, float, flag, AND OF THE TAPE'S FIVE READING CALLS.
-/
import Derived.Test.YtlcgicgdlhnfoaaBTake
namespace Go.Proofs.Ytlcgicgdlhnfoaa.Bt
open Go.RowKit
/-- a whole number at the front -/
def rdInt (l : List UInt8) : Int × Nat × Int := (unz (rdNum l).1, (rdNum l).2.1, (rdNum l).2.2)
/-- what a call of a tape answers, what is left, and the error: r is what stands at the front -/
def tk {α : Type} (z : α) (s : ByteArray) (e : Int) (r : α × Nat × Int) : α × ByteArray × Int :=
  if e ≠ 0 then (z, s, e) else if r.2.2 ≠ 0 then (z, s, r.2.2) else (r.1, s.extract r.2.1 s.size, 0)
theorem tk_stays {α : Type} (z : α) (s : ByteArray) {e : Int} (r : α × Nat × Int) (he : e ≠ 0) : tk z s e r = (z, s, e) := by unfold tk; rw [if_pos he]
theorem tk_bad {α : Type} (z : α) (s : ByteArray) (v : α) (k : Nat) {e : Int} (he : e ≠ 0) : tk z s 0 (v, k, e) = (z, s, e) := by unfold tk; rw [if_neg (by simp), if_pos he]
theorem tk_ok {α : Type} (z : α) (s : ByteArray) (v : α) (k : Nat) : tk z s 0 (v, k, 0) = (v, s.extract k s.size, 0) := by unfold tk; rw [if_neg (by simp), if_neg (by simp)]
theorem grownBy_refl (w : World) (r : Option Nat) : w.grownBy w r := ⟨rfl, rfl, rfl, Nat.le_refl _, fun _ _ _ => rfl⟩
theorem rdInt_le (s : ByteArray) : (rdInt s.data.toList).2.1 ≤ s.size := by
  have := (rdNum_facts s.data.toList).2.1
  rw [← Lib.size_eq] at this; exact this
theorem rdNum_le (s : ByteArray) : (rdNum s.data.toList).2.1 ≤ s.size := by
  have := (rdNum_facts s.data.toList).2.1
  rw [← Lib.size_eq] at this; exact this
/-- the value that a tape's Num answers -/
def vNum (x : Nat × ByteArray × Int) : Value := .int .u64 (x.1 : Int)
/-- what a tape's Num makes of it -/
def tNum (s : ByteArray) (e : Int) : Nat × ByteArray × Int := tk 0 s e (rdNum s.data.toList)
theorem tapeNum_core {w : World} {b : Nat} {s : ByteArray} {e : Int} (h : TapeAt w b s e) (hs : s.size ≤ 281474976710656) :
    Calls Try.prog 41 #[.pointer (some ⟨b, 0, none⟩), .func (.func 42) #[] #[]] w fun r w' => r = .returned (vNum (tNum s e)) ∧ w.grownBy w' (some b) ∧ TapeAt w' b (tNum s e).2.1 (tNum s e).2.2 := by
  unfold tNum
  by_cases he : e = 0
  · subst he
    have hf := rdNum_le s
    have hnum := number_any s (by omega) w
    rcases hR : rdNum s.data.toList with ⟨v, k, e⟩
    rw [hR] at hf hnum
    by_cases he : e = 0
    · subst he
      rw [tk_ok]
      exact takeNum_ok v k h hf (hnum.mono fun r w' ⟨hr, hw⟩ => ⟨hr, hw ▸ Below.refl _ _⟩)
    · rw [tk_bad _ _ _ _ he]
      exact takeNum_bad v k e h he (hnum.mono fun r w' ⟨hr, hw⟩ => ⟨hr, hw ▸ Below.refl _ _⟩)
  · rw [tk_stays _ _ _ he]
    exact (takeNum_stays _ h he).mono fun r w' ⟨hr, hw⟩ => ⟨hr, hw ▸ grownBy_refl _ _, hw ▸ h⟩
theorem tapeNum_any {w : World} {b : Nat} {s : ByteArray} {e : Int} (h : TapeAt w b s e) (hs : s.size ≤ 281474976710656) :
    Calls Try.prog 31 #[.pointer (some ⟨b, 0, none⟩)] w fun r w' => r = .returned (vNum (tNum s e)) ∧ w.grownBy w' (some b) ∧ TapeAt w' b (tNum s e).2.1 (tNum s e).2.2 := by
  have H := Lib.hid (tapeNum_core h hs)
  go_enter Try.func31, Try.ntmps31
  go_wp2_with fail
  refine H.out.mono ?_
  rintro r w1 ⟨rfl, hb⟩
  go_wp2_with fail
  go_ret
  exact ⟨rfl, hb⟩
theorem tapeNum_nil (w : World) : Calls Try.prog 31 #[.pointer none] w fun r w' => r = .returned (.int .u64 0) ∧ w = w' := by
  go_enter Try.func31, Try.ntmps31
  go_wp2_with fail
  refine (takeNum_nil _ _).mono ?_
  rintro r w1 ⟨rfl, rfl⟩
  go_wp2_with fail
  go_ret
  exact ⟨rfl, rfl⟩

/-- the value that a tape's Int answers -/
def vInt (x : Int × ByteArray × Int) : Value := .int .i64 x.1
/-- what a tape's Int makes of it -/
def tInt (s : ByteArray) (e : Int) : Int × ByteArray × Int := tk 0 s e (rdInt s.data.toList)
theorem rdText_le (s : ByteArray) (most : Int) : (rdText s most).2.1 ≤ s.size := by
  have h := rdNum_le s
  rcases hR : rdNum s.data.toList with ⟨N, K, E⟩
  rw [rdText_eq s most hR]
  rw [hR] at h
  split
  · exact Nat.zero_le _
  · split
    · exact Nat.zero_le _
    · split
      · exact Nat.zero_le _
      · simp only at *; omega
def vText (x : ByteArray × ByteArray × Int) : Value := .string x.1
/-- what a tape's Text makes of it -/
def tText (s : ByteArray) (e : Int) (most : Int) : ByteArray × ByteArray × Int := tk ⟨#[]⟩ s e (rdText s most)
end Go.Proofs.Ytlcgicgdlhnfoaa.Bt
