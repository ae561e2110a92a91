/-
  A FLAG'S BYTE, and a flag off a tape.
-/
import Derived.Test.YtkdaifcnlobhkaaBWas
namespace Go.Proofs.Ytkdaifcnlobhkaa.Bt
open Go.RowKit
theorem flag_any (b : Bool) (w : World) :
    Calls Try.prog 42 #[.bool b] w fun e w' => e = .returned (.string (flagS b)) ∧ w = w' := by
  cases b
  all_goals
    go_enter Try.func42, Try.ntmps42
    go_wp2
    go_ret
    exact ⟨rfl, rfl⟩
set_option maxHeartbeats 400000 in
theorem takeFlag_ok {w : World} {b : Nat} {s : ByteArray} (n : Bool) (k : Nat) (h : TapeAt w b s 0) (hk : k ≤ s.size)
    (hhow : Hid (Calls Try.prog 81 #[.string s] w fun e w' => e = .returned (.tuple #[.bool n, .int .i64 (k : Int), .int .i64 0]) ∧ Below w.heap.size w w')) :
    Calls Try.prog 80 #[.pointer (some ⟨b, 0, none⟩), .func (.func 81) #[] #[]] w fun r w' => r = .returned (.bool n) ∧ w.grownBy w' (some b) ∧ TapeAt w' b (s.extract k s.size) 0 := by
  have g0 := h.c0
  go_enter Try.func80, Try.ntmps80
  go_wp2_with fail
  refine (err_any h).mono ?_
  rintro r w1 ⟨rfl, rfl⟩
  go_wp2_with fail
  refine hhow.out.mono ?_
  rintro r w1 ⟨rfl, hb⟩
  have h' := h.next hb
  have g0' := h'.c0
  have gf := h'.f 0
  go_wp2_with fail
  go_ret
  exact ⟨rfl, grownBy_set hb _ _ _, h'.set0⟩
set_option maxHeartbeats 400000 in
theorem takeFlag_bad {w : World} {b : Nat} {s : ByteArray} (n : Bool) (k e : Int) (h : TapeAt w b s 0) (he : e ≠ 0)
    (hhow : Hid (Calls Try.prog 81 #[.string s] w fun r w' => r = .returned (.tuple #[.bool n, .int .i64 k, .int .i64 e]) ∧ Below w.heap.size w w')) :
    Calls Try.prog 80 #[.pointer (some ⟨b, 0, none⟩), .func (.func 81) #[] #[]] w fun r w' => r = .returned (.bool false) ∧ w.grownBy w' (some b) ∧ TapeAt w' b s e := by
  have g0 := h.c0
  have hEb : (e != 0) = true := by simp [he]
  go_enter Try.func80, Try.ntmps80
  go_wp2_with fail
  refine (err_any h).mono ?_
  rintro r w1 ⟨rfl, rfl⟩
  go_wp2_with fail
  refine hhow.out.mono ?_
  rintro r w1 ⟨rfl, hb⟩
  have h' := h.next hb
  have g1' := h'.c1
  have gf := h'.f 1
  go_wp2_with fail
  go_ret
  exact ⟨rfl, grownBy_set hb _ _ _, h'.set1⟩
set_option maxHeartbeats 400000 in
theorem takeFlag_stays {w : World} {b : Nat} {s : ByteArray} {e : Int} (fv : Value) (h : TapeAt w b s e) (he : e ≠ 0) :
    Calls Try.prog 80 #[.pointer (some ⟨b, 0, none⟩), fv] w fun r w' => r = .returned (.bool false) ∧ w = w' := by
  have hEb : (e != 0) = true := by simp [he]
  go_enter Try.func80, Try.ntmps80
  go_wp2_with fail
  refine (err_any h).mono ?_
  rintro r w1 ⟨rfl, rfl⟩
  go_wp2_with fail
  go_ret
  exact ⟨rfl, rfl⟩
set_option maxHeartbeats 400000 in
theorem takeFlag_nil (w : World) (fv : Value) :
    Calls Try.prog 80 #[.pointer none, fv] w fun r w' => r = .returned (.bool false) ∧ w = w' := by
  go_enter Try.func80, Try.ntmps80
  go_wp2_with fail
  refine (err_nil _).mono ?_
  rintro r w1 ⟨rfl, rfl⟩
  go_wp2_with fail
  go_ret
  exact ⟨rfl, rfl⟩

/-- a flag at the front -/
def rdFlag : List UInt8 → Bool × Nat × Int
  | [] => (false, 0, 5)
  | b :: _ => if 1 < b.toNat then (false, 0, 3) else ((b.toNat : Int) == 1, 1, 0)
theorem flagr_any (s : ByteArray) (w : World) :
    Calls Try.prog 81 #[.string s] w fun e w' => e = .returned (.tuple #[.bool (rdFlag s.data.toList).1, .int .i64 (rdFlag s.data.toList).2.1, .int .i64 (rdFlag s.data.toList).2.2]) ∧ w = w' := by
  by_cases h0 : s.size = 0
  · have e0 : s = ⟨#[]⟩ := by
      apply ByteArray.ext
      exact Array.eq_empty_of_size_eq_zero h0
    subst e0
    go_enter Try.func81, Try.ntmps81
    go_wp2_with fail
    go_ret3
    exact ⟨rfl, rfl⟩
  have h1 : 0 < s.size := by omega
  have he := head_drop s h1
  have hne : s.toList.isEmpty = false := by
    rw [Lib.toList_data, he]; rfl
  have hb := s[0].toNat_lt
  have hbi : (s[0].toNat : Int) ≤ 255 := by omega
  have He := Lib.hid he
  clear he
  by_cases h2 : 1 < s[0].toNat
  · go_enter Try.func81, Try.ntmps81
    go_wp2_with fail
    go_ret3
    refine ⟨?_, rfl⟩
    rw [He.out]; simp only [rdFlag, if_pos h2]; rfl
  · go_enter Try.func81, Try.ntmps81
    go_wp2_with fail
    go_ret3
    refine ⟨?_, rfl⟩
    rw [He.out]; simp only [rdFlag, if_neg h2]
    rfl
theorem rdFlag_le (s : ByteArray) : (rdFlag s.data.toList).2.1 ≤ s.size := by
  rw [Lib.size_eq]
  match s.data.toList with
  | [] => exact Nat.zero_le _
  | b :: t =>
    simp only [rdFlag]
    split
    · exact Nat.zero_le _
    · simp

/-- the value that a tape's Flag answers -/
def vFlag (x : Bool × ByteArray × Int) : Value := .bool x.1
/-- what a tape's Flag makes of it -/
def tFlag (s : ByteArray) (e : Int) : Bool × ByteArray × Int := tk false s e (rdFlag s.data.toList)
theorem tapeFlag_core {w : World} {b : Nat} {s : ByteArray} {e : Int} (h : TapeAt w b s e) (_hs : s.size ≤ 281474976710656) :
    Calls Try.prog 80 #[.pointer (some ⟨b, 0, none⟩), .func (.func 81) #[] #[]] w fun r w' => r = .returned (vFlag (tFlag s e)) ∧ w.grownBy w' (some b) ∧ TapeAt w' b (tFlag s e).2.1 (tFlag s e).2.2 := by
  unfold tFlag
  by_cases he : e = 0
  · subst he
    have hf := rdFlag_le s
    have hnum := flagr_any s w
    rcases hR : rdFlag s.data.toList with ⟨v, k, e⟩
    rw [hR] at hf hnum
    by_cases he : e = 0
    · subst he
      rw [tk_ok]
      exact takeFlag_ok v k h hf (hnum.mono fun r w' ⟨hr, hw⟩ => ⟨hr, hw ▸ Below.refl _ _⟩)
    · rw [tk_bad _ _ _ _ he]
      exact takeFlag_bad v k e h he (hnum.mono fun r w' ⟨hr, hw⟩ => ⟨hr, hw ▸ Below.refl _ _⟩)
  · rw [tk_stays _ _ _ he]
    exact (takeFlag_stays _ h he).mono fun r w' ⟨hr, hw⟩ => ⟨hr, hw ▸ grownBy_refl _ _, hw ▸ h⟩
theorem tapeFlag_any {w : World} {b : Nat} {s : ByteArray} {e : Int} (h : TapeAt w b s e) (_hs : s.size ≤ 281474976710656) :
    Calls Try.prog 72 #[.pointer (some ⟨b, 0, none⟩)] w fun r w' => r = .returned (vFlag (tFlag s e)) ∧ w.grownBy w' (some b) ∧ TapeAt w' b (tFlag s e).2.1 (tFlag s e).2.2 := by
  have H := Lib.hid (tapeFlag_core h _hs)
  go_enter Try.func72, Try.ntmps72
  go_wp2_with fail
  refine H.out.mono ?_
  rintro r w1 ⟨rfl, hb⟩
  go_wp2_with fail
  go_ret
  exact ⟨rfl, hb⟩
theorem flag_back (s : ByteArray) (h : (rdFlag s.data.toList).2.2 = 0) : flagS (rdFlag s.data.toList).1 ++ s.extract (rdFlag s.data.toList).2.1 s.size = s := by
  apply take_cat
  match hm : s.data.toList with
  | [] => rw [hm] at h; simp [rdFlag] at h
  | b :: t =>
    rw [hm] at h
    simp only [rdFlag] at h ⊢
    split at h
    · simp at h
    · rename_i h1
      rw [if_neg h1]
      have hb : b.toNat = 0 ∨ b.toNat = 1 := by omega
      rcases hb with hb | hb
      · have e : b = 0 := UInt8.toNat_inj.1 hb
        subst e; rfl
      · have e : b = 1 := UInt8.toNat_inj.1 hb
        subst e; rfl
theorem rd_flag (b : Bool) (more : List UInt8) : rdFlag ((flagS b).data.toList ++ more) = (b, (flagS b).size, 0) := by
  cases b <;> rfl
end Go.Proofs.Ytkdaifcnlobhkaa.Bt
