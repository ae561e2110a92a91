/-
  WHAT THE ROWS REST ON, part 4: BTake BMeths BOne BWas Drop Mvp Put Put2 May Dsk CPlain CSum CRsum.
-/
import Derived.Test.YthnnenhpcceckaaGreatRows
import Derived.WalkKit
import Derived.WalkSpells
import Derived.WalkLawsBesides
import Derived.Handy
import Derived.Lib.Hide
import Derived.Laws.BytesArg
import Derived.Lib.Zigzag
import Derived.Test.YthnnenhpcceckaaGreatPart3
/-
  THE WALKS OF bits.take at its five instances: a call that reads at the tape's place, goes behind it, or notes an error and stays.
-/
namespace Go.Proofs.YthnnenhpcceckaaGreat.Bt
open Go.RowKit


set_option maxHeartbeats 400000 in
theorem takeNum_ok {w : World} {b : Nat} {s : ByteArray} (n : Nat) (k : Nat) (h : TapeAt w b s 0) (hk : k ≤ s.size)
    (hhow : Hid (Calls Tryz.prog 85 #[.string s] w fun e w' => e = .returned (.tuple #[.int .u64 (n : Int), .int .i64 (k : Int), .int .i64 0]) ∧ Below w.heap.size w w')) :
    Calls Tryz.prog 84 #[.pointer (some ⟨b, 0, none⟩), .func (.func 85) #[] #[]] w fun r w' => r = .returned (.int .u64 (n : Int)) ∧ w.grownBy w' (some b) ∧ TapeAt w' b (s.extract k s.size) 0 := by
  have g0 := h.c0
  go_enter Tryz.func84, Tryz.ntmps84
  go_wp2_with fail
  refine (err_any h).mono ?_
  rintro r w1 ⟨rfl, rfl⟩
  go_wp2_with fail
  refine hhow.out.mono ?_
  rintro r w1 ⟨rfl, hb⟩
  have h' := h.next hb
  have g0' := h'.c0
  have gf := h'.f 0
  go_wp2_with fail
  go_ret
  exact ⟨rfl, grownBy_set hb _ _ _, h'.set0⟩
set_option maxHeartbeats 400000 in
theorem takeNum_bad {w : World} {b : Nat} {s : ByteArray} (n : Nat) (k e : Int) (h : TapeAt w b s 0) (he : e ≠ 0)
    (hhow : Hid (Calls Tryz.prog 85 #[.string s] w fun r w' => r = .returned (.tuple #[.int .u64 (n : Int), .int .i64 k, .int .i64 e]) ∧ Below w.heap.size w w')) :
    Calls Tryz.prog 84 #[.pointer (some ⟨b, 0, none⟩), .func (.func 85) #[] #[]] w fun r w' => r = .returned (.int .u64 0) ∧ w.grownBy w' (some b) ∧ TapeAt w' b s e := by
  have g0 := h.c0
  have hEb : (e != 0) = true := by simp [he]
  go_enter Tryz.func84, Tryz.ntmps84
  go_wp2_with fail
  refine (err_any h).mono ?_
  rintro r w1 ⟨rfl, rfl⟩
  go_wp2_with fail
  refine hhow.out.mono ?_
  rintro r w1 ⟨rfl, hb⟩
  have h' := h.next hb
  have g1' := h'.c1
  have gf := h'.f 1
  go_wp2_with fail
  go_ret
  exact ⟨rfl, grownBy_set hb _ _ _, h'.set1⟩
set_option maxHeartbeats 400000 in
theorem takeNum_stays {w : World} {b : Nat} {s : ByteArray} {e : Int} (fv : Value) (h : TapeAt w b s e) (he : e ≠ 0) :
    Calls Tryz.prog 84 #[.pointer (some ⟨b, 0, none⟩), fv] w fun r w' => r = .returned (.int .u64 0) ∧ w = w' := by
  have hEb : (e != 0) = true := by simp [he]
  go_enter Tryz.func84, Tryz.ntmps84
  go_wp2_with fail
  refine (err_any h).mono ?_
  rintro r w1 ⟨rfl, rfl⟩
  go_wp2_with fail
  go_ret
  exact ⟨rfl, rfl⟩
set_option maxHeartbeats 400000 in
theorem takeNum_nil (w : World) (fv : Value) :
    Calls Tryz.prog 84 #[.pointer none, fv] w fun r w' => r = .returned (.int .u64 0) ∧ w = w' := by
  go_enter Tryz.func84, Tryz.ntmps84
  go_wp2_with fail
  refine (err_nil _).mono ?_
  rintro r w1 ⟨rfl, rfl⟩
  go_wp2_with fail
  go_ret
  exact ⟨rfl, rfl⟩


set_option maxHeartbeats 400000 in
theorem takeInt_ok {w : World} {b : Nat} {s : ByteArray} (n : Int) (k : Nat) (h : TapeAt w b s 0) (hk : k ≤ s.size)
    (hhow : Hid (Calls Tryz.prog 87 #[.string s] w fun e w' => e = .returned (.tuple #[.int .i64 n, .int .i64 (k : Int), .int .i64 0]) ∧ Below w.heap.size w w')) :
    Calls Tryz.prog 86 #[.pointer (some ⟨b, 0, none⟩), .func (.func 87) #[] #[]] w fun r w' => r = .returned (.int .i64 n) ∧ w.grownBy w' (some b) ∧ TapeAt w' b (s.extract k s.size) 0 := by
  have g0 := h.c0
  go_enter Tryz.func86, Tryz.ntmps86
  go_wp2_with fail
  refine (err_any h).mono ?_
  rintro r w1 ⟨rfl, rfl⟩
  go_wp2_with fail
  refine hhow.out.mono ?_
  rintro r w1 ⟨rfl, hb⟩
  have h' := h.next hb
  have g0' := h'.c0
  have gf := h'.f 0
  go_wp2_with fail
  go_ret
  exact ⟨rfl, grownBy_set hb _ _ _, h'.set0⟩
set_option maxHeartbeats 400000 in
theorem takeInt_bad {w : World} {b : Nat} {s : ByteArray} (n : Int) (k e : Int) (h : TapeAt w b s 0) (he : e ≠ 0)
    (hhow : Hid (Calls Tryz.prog 87 #[.string s] w fun r w' => r = .returned (.tuple #[.int .i64 n, .int .i64 k, .int .i64 e]) ∧ Below w.heap.size w w')) :
    Calls Tryz.prog 86 #[.pointer (some ⟨b, 0, none⟩), .func (.func 87) #[] #[]] w fun r w' => r = .returned (.int .i64 0) ∧ w.grownBy w' (some b) ∧ TapeAt w' b s e := by
  have g0 := h.c0
  have hEb : (e != 0) = true := by simp [he]
  go_enter Tryz.func86, Tryz.ntmps86
  go_wp2_with fail
  refine (err_any h).mono ?_
  rintro r w1 ⟨rfl, rfl⟩
  go_wp2_with fail
  refine hhow.out.mono ?_
  rintro r w1 ⟨rfl, hb⟩
  have h' := h.next hb
  have g1' := h'.c1
  have gf := h'.f 1
  go_wp2_with fail
  go_ret
  exact ⟨rfl, grownBy_set hb _ _ _, h'.set1⟩
set_option maxHeartbeats 400000 in
theorem takeInt_stays {w : World} {b : Nat} {s : ByteArray} {e : Int} (fv : Value) (h : TapeAt w b s e) (he : e ≠ 0) :
    Calls Tryz.prog 86 #[.pointer (some ⟨b, 0, none⟩), fv] w fun r w' => r = .returned (.int .i64 0) ∧ w = w' := by
  have hEb : (e != 0) = true := by simp [he]
  go_enter Tryz.func86, Tryz.ntmps86
  go_wp2_with fail
  refine (err_any h).mono ?_
  rintro r w1 ⟨rfl, rfl⟩
  go_wp2_with fail
  go_ret
  exact ⟨rfl, rfl⟩
set_option maxHeartbeats 400000 in
theorem takeInt_nil (w : World) (fv : Value) :
    Calls Tryz.prog 86 #[.pointer none, fv] w fun r w' => r = .returned (.int .i64 0) ∧ w = w' := by
  go_enter Tryz.func86, Tryz.ntmps86
  go_wp2_with fail
  refine (err_nil _).mono ?_
  rintro r w1 ⟨rfl, rfl⟩
  go_wp2_with fail
  go_ret
  exact ⟨rfl, rfl⟩


set_option maxHeartbeats 400000 in
theorem takeText_ok {w : World} {b : Nat} {s : ByteArray} {m : Addr} (n : ByteArray) (k : Nat) (h : TapeAt w b s 0) (hk : k ≤ s.size)
    (hhow : Hid (Calls Tryz.prog 91 #[.string s, .pointer (some m)] w fun e w' => e = .returned (.tuple #[.string n, .int .i64 (k : Int), .int .i64 0]) ∧ Below w.heap.size w w')) :
    Calls Tryz.prog 90 #[.pointer (some ⟨b, 0, none⟩), .func (.func 91) #[] #[.pointer (some m)]] w fun r w' => r = .returned (.string n) ∧ w.grownBy w' (some b) ∧ TapeAt w' b (s.extract k s.size) 0 := by
  have g0 := h.c0
  go_enter Tryz.func90, Tryz.ntmps90
  go_wp2_with fail
  refine (err_any h).mono ?_
  rintro r w1 ⟨rfl, rfl⟩
  go_wp2_with fail
  refine hhow.out.mono ?_
  rintro r w1 ⟨rfl, hb⟩
  have h' := h.next hb
  have g0' := h'.c0
  have gf := h'.f 0
  go_wp2_with fail
  go_ret
  exact ⟨rfl, grownBy_set hb _ _ _, h'.set0⟩
set_option maxHeartbeats 400000 in
theorem takeText_bad {w : World} {b : Nat} {s : ByteArray} {m : Addr} (n : ByteArray) (k e : Int) (h : TapeAt w b s 0) (he : e ≠ 0)
    (hhow : Hid (Calls Tryz.prog 91 #[.string s, .pointer (some m)] w fun r w' => r = .returned (.tuple #[.string n, .int .i64 k, .int .i64 e]) ∧ Below w.heap.size w w')) :
    Calls Tryz.prog 90 #[.pointer (some ⟨b, 0, none⟩), .func (.func 91) #[] #[.pointer (some m)]] w fun r w' => r = .returned (.string ⟨#[]⟩) ∧ w.grownBy w' (some b) ∧ TapeAt w' b s e := by
  have g0 := h.c0
  have hEb : (e != 0) = true := by simp [he]
  go_enter Tryz.func90, Tryz.ntmps90
  go_wp2_with fail
  refine (err_any h).mono ?_
  rintro r w1 ⟨rfl, rfl⟩
  go_wp2_with fail
  refine hhow.out.mono ?_
  rintro r w1 ⟨rfl, hb⟩
  have h' := h.next hb
  have g1' := h'.c1
  have gf := h'.f 1
  go_wp2_with fail
  go_ret
  exact ⟨rfl, grownBy_set hb _ _ _, h'.set1⟩
set_option maxHeartbeats 400000 in
theorem takeText_stays {w : World} {b : Nat} {s : ByteArray} {e : Int} (fv : Value) (h : TapeAt w b s e) (he : e ≠ 0) :
    Calls Tryz.prog 90 #[.pointer (some ⟨b, 0, none⟩), fv] w fun r w' => r = .returned (.string ⟨#[]⟩) ∧ w = w' := by
  have hEb : (e != 0) = true := by simp [he]
  go_enter Tryz.func90, Tryz.ntmps90
  go_wp2_with fail
  refine (err_any h).mono ?_
  rintro r w1 ⟨rfl, rfl⟩
  go_wp2_with fail
  go_ret
  exact ⟨rfl, rfl⟩
set_option maxHeartbeats 400000 in
theorem takeText_nil (w : World) (fv : Value) :
    Calls Tryz.prog 90 #[.pointer none, fv] w fun r w' => r = .returned (.string ⟨#[]⟩) ∧ w = w' := by
  go_enter Tryz.func90, Tryz.ntmps90
  go_wp2_with fail
  refine (err_nil _).mono ?_
  rintro r w1 ⟨rfl, rfl⟩
  go_wp2_with fail
  go_ret
  exact ⟨rfl, rfl⟩


end Go.Proofs.YthnnenhpcceckaaGreat.Bt
/-
  THE WALKS OF bits.whole, float, flag, AND OF THE TAPE'S FIVE READING CALLS.
-/
namespace Go.Proofs.YthnnenhpcceckaaGreat.Bt
open Go.RowKit
/-- a whole number at the front -/
def rdInt (l : List UInt8) : Int × Nat × Int := (unz (rdNum l).1, (rdNum l).2.1, (rdNum l).2.2)
theorem whole_any (s : ByteArray) (hs : s.size ≤ 9223372036854775807) (w : World) :
    Calls Tryz.prog 87 #[.string s] w fun e w' => e = .returned (.tuple #[.int .i64 (rdInt s.data.toList).1, .int .i64 (rdInt s.data.toList).2.1, .int .i64 (rdInt s.data.toList).2.2]) ∧ w = w' := by
  unfold rdInt
  have hf := (rdNum_facts s.data.toList).1
  have H := Lib.hid (fun w => number_any s hs w)
  generalize rdNum s.data.toList = R at *
  obtain ⟨N, K, E⟩ := R
  go_enter Tryz.func87, Tryz.ntmps87
  go_wp2_with fail
  refine (H.out _).mono ?_
  rintro e w1 ⟨rfl, rfl⟩
  go_wp2_with fail
  refine (unfold_any N hf _).mono ?_
  rintro e w1 ⟨rfl, rfl⟩
  go_wp2_with fail
  go_ret3
  exact ⟨rfl, rfl⟩
/-- what a call of a tape answers, what is left, and the error: r is what stands at the front -/
def tk {α : Type} (z : α) (s : ByteArray) (e : Int) (r : α × Nat × Int) : α × ByteArray × Int :=
  if e ≠ 0 then (z, s, e) else if r.2.2 ≠ 0 then (z, s, r.2.2) else (r.1, s.extract r.2.1 s.size, 0)
theorem tk_stays {α : Type} (z : α) (s : ByteArray) {e : Int} (r : α × Nat × Int) (he : e ≠ 0) : tk z s e r = (z, s, e) := by unfold tk; rw [if_pos he]
theorem tk_bad {α : Type} (z : α) (s : ByteArray) (v : α) (k : Nat) {e : Int} (he : e ≠ 0) : tk z s 0 (v, k, e) = (z, s, e) := by unfold tk; rw [if_neg (by simp), if_pos he]
theorem tk_ok {α : Type} (z : α) (s : ByteArray) (v : α) (k : Nat) : tk z s 0 (v, k, 0) = (v, s.extract k s.size, 0) := by unfold tk; rw [if_neg (by simp), if_neg (by simp)]
theorem grownBy_refl (w : World) (r : Option Nat) : w.grownBy w r := ⟨rfl, rfl, rfl, Nat.le_refl _, fun _ _ _ => rfl⟩
theorem rdInt_le (s : ByteArray) : (rdInt s.data.toList).2.1 ≤ s.size := by
  have := (rdNum_facts s.data.toList).2.1
  rw [← Lib.size_eq] at this; exact this
theorem rdNum_le (s : ByteArray) : (rdNum s.data.toList).2.1 ≤ s.size := by
  have := (rdNum_facts s.data.toList).2.1
  rw [← Lib.size_eq] at this; exact this
/-- the value that a tape's Num answers -/
def vNum (x : Nat × ByteArray × Int) : Value := .int .u64 (x.1 : Int)
/-- what a tape's Num makes of it -/
def tNum (s : ByteArray) (e : Int) : Nat × ByteArray × Int := tk 0 s e (rdNum s.data.toList)
theorem tapeNum_core {w : World} {b : Nat} {s : ByteArray} {e : Int} (h : TapeAt w b s e) (hs : s.size ≤ 281474976710656) :
    Calls Tryz.prog 84 #[.pointer (some ⟨b, 0, none⟩), .func (.func 85) #[] #[]] w fun r w' => r = .returned (vNum (tNum s e)) ∧ w.grownBy w' (some b) ∧ TapeAt w' b (tNum s e).2.1 (tNum s e).2.2 := by
  unfold tNum
  by_cases he : e = 0
  · subst he
    have hf := rdNum_le s
    have hnum := number_any s (by omega) w
    rcases hR : rdNum s.data.toList with ⟨v, k, e⟩
    rw [hR] at hf hnum
    by_cases he : e = 0
    · subst he
      rw [tk_ok]
      exact takeNum_ok v k h hf (hnum.mono fun r w' ⟨hr, hw⟩ => ⟨hr, hw ▸ Below.refl _ _⟩)
    · rw [tk_bad _ _ _ _ he]
      exact takeNum_bad v k e h he (hnum.mono fun r w' ⟨hr, hw⟩ => ⟨hr, hw ▸ Below.refl _ _⟩)
  · rw [tk_stays _ _ _ he]
    exact (takeNum_stays _ h he).mono fun r w' ⟨hr, hw⟩ => ⟨hr, hw ▸ grownBy_refl _ _, hw ▸ h⟩
theorem tapeNum_any {w : World} {b : Nat} {s : ByteArray} {e : Int} (h : TapeAt w b s e) (hs : s.size ≤ 281474976710656) :
    Calls Tryz.prog 65 #[.pointer (some ⟨b, 0, none⟩)] w fun r w' => r = .returned (vNum (tNum s e)) ∧ w.grownBy w' (some b) ∧ TapeAt w' b (tNum s e).2.1 (tNum s e).2.2 := by
  have H := Lib.hid (tapeNum_core h hs)
  go_enter Tryz.func65, Tryz.ntmps65
  go_wp2_with fail
  refine H.out.mono ?_
  rintro r w1 ⟨rfl, hb⟩
  go_wp2_with fail
  go_ret
  exact ⟨rfl, hb⟩
theorem tapeNum_nil (w : World) : Calls Tryz.prog 65 #[.pointer none] w fun r w' => r = .returned (.int .u64 0) ∧ w = w' := by
  go_enter Tryz.func65, Tryz.ntmps65
  go_wp2_with fail
  refine (takeNum_nil _ _).mono ?_
  rintro r w1 ⟨rfl, rfl⟩
  go_wp2_with fail
  go_ret
  exact ⟨rfl, rfl⟩

/-- the value that a tape's Int answers -/
def vInt (x : Int × ByteArray × Int) : Value := .int .i64 x.1
/-- what a tape's Int makes of it -/
def tInt (s : ByteArray) (e : Int) : Int × ByteArray × Int := tk 0 s e (rdInt s.data.toList)
theorem tapeInt_core {w : World} {b : Nat} {s : ByteArray} {e : Int} (h : TapeAt w b s e) (hs : s.size ≤ 281474976710656) :
    Calls Tryz.prog 86 #[.pointer (some ⟨b, 0, none⟩), .func (.func 87) #[] #[]] w fun r w' => r = .returned (vInt (tInt s e)) ∧ w.grownBy w' (some b) ∧ TapeAt w' b (tInt s e).2.1 (tInt s e).2.2 := by
  unfold tInt
  by_cases he : e = 0
  · subst he
    have hf := rdInt_le s
    have hnum := whole_any s (by omega) w
    rcases hR : rdInt s.data.toList with ⟨v, k, e⟩
    rw [hR] at hf hnum
    by_cases he : e = 0
    · subst he
      rw [tk_ok]
      exact takeInt_ok v k h hf (hnum.mono fun r w' ⟨hr, hw⟩ => ⟨hr, hw ▸ Below.refl _ _⟩)
    · rw [tk_bad _ _ _ _ he]
      exact takeInt_bad v k e h he (hnum.mono fun r w' ⟨hr, hw⟩ => ⟨hr, hw ▸ Below.refl _ _⟩)
  · rw [tk_stays _ _ _ he]
    exact (takeInt_stays _ h he).mono fun r w' ⟨hr, hw⟩ => ⟨hr, hw ▸ grownBy_refl _ _, hw ▸ h⟩
theorem tapeInt_any {w : World} {b : Nat} {s : ByteArray} {e : Int} (h : TapeAt w b s e) (hs : s.size ≤ 281474976710656) :
    Calls Tryz.prog 66 #[.pointer (some ⟨b, 0, none⟩)] w fun r w' => r = .returned (vInt (tInt s e)) ∧ w.grownBy w' (some b) ∧ TapeAt w' b (tInt s e).2.1 (tInt s e).2.2 := by
  have H := Lib.hid (tapeInt_core h hs)
  go_enter Tryz.func66, Tryz.ntmps66
  go_wp2_with fail
  refine H.out.mono ?_
  rintro r w1 ⟨rfl, hb⟩
  go_wp2_with fail
  go_ret
  exact ⟨rfl, hb⟩
theorem tapeInt_nil (w : World) : Calls Tryz.prog 66 #[.pointer none] w fun r w' => r = .returned (.int .i64 0) ∧ w = w' := by
  go_enter Tryz.func66, Tryz.ntmps66
  go_wp2_with fail
  refine (takeInt_nil _ _).mono ?_
  rintro r w1 ⟨rfl, rfl⟩
  go_wp2_with fail
  go_ret
  exact ⟨rfl, rfl⟩

/-- the closure of Text: it reads the bound where it lies -/
theorem how_text {w : World} {m : Addr} {most : Int} (hm : w.cell? m = some (.int .i64 most)) (s : ByteArray) (hs : s.size ≤ 281474976710656) (h0 : -9223372036854775808 ≤ most) (h1 : most ≤ 9223372036854775807) :
    Calls Tryz.prog 91 #[.string s, .pointer (some m)] w fun e w' => e = .returned (txtR (rdText s most)) ∧ Below w.heap.size w w' := by
  go_enter Tryz.func91, Tryz.ntmps91
  go_wp2_with fail
  refine (rdtext_any s hs most h0 h1 _).mono ?_
  rintro e w1 ⟨rfl, hb⟩
  unfold txtR
  go_wp2_with fail
  go_ret3
  exact ⟨rfl, hb⟩
theorem rdText_le (s : ByteArray) (most : Int) : (rdText s most).2.1 ≤ s.size := by
  have h := rdNum_le s
  rcases hR : rdNum s.data.toList with ⟨N, K, E⟩
  rw [rdText_eq s most hR]
  rw [hR] at h
  split
  · exact Nat.zero_le _
  · split
    · exact Nat.zero_le _
    · split
      · exact Nat.zero_le _
      · simp only at *; omega
def vText (x : ByteArray × ByteArray × Int) : Value := .string x.1
/-- what a tape's Text makes of it -/
def tText (s : ByteArray) (e : Int) (most : Int) : ByteArray × ByteArray × Int := tk ⟨#[]⟩ s e (rdText s most)
theorem tapeText_core {w : World} {b : Nat} {s : ByteArray} {e : Int} (h : TapeAt w b s e) {m : Addr} {most : Int} (hm : w.cell? m = some (.int .i64 most)) (hs : s.size ≤ 281474976710656) (h0 : -9223372036854775808 ≤ most) (h1 : most ≤ 9223372036854775807) :
    Calls Tryz.prog 90 #[.pointer (some ⟨b, 0, none⟩), .func (.func 91) #[] #[.pointer (some m)]] w fun r w' => r = .returned (vText (tText s e most)) ∧ w.grownBy w' (some b) ∧ TapeAt w' b (tText s e most).2.1 (tText s e most).2.2 := by
  unfold tText
  by_cases he : e = 0
  · subst he
    have hf := rdText_le s most
    have hnum := how_text hm s hs h0 h1
    rcases hR : rdText s most with ⟨v, k, e⟩
    rw [hR] at hf hnum
    by_cases he : e = 0
    · subst he
      rw [tk_ok]
      exact takeText_ok v k h hf hnum
    · rw [tk_bad _ _ _ _ he]
      exact takeText_bad v k e h he hnum
  · rw [tk_stays _ _ _ he]
    exact (takeText_stays _ h he).mono fun r w' ⟨hr, hw⟩ => ⟨hr, hw ▸ grownBy_refl _ _, hw ▸ h⟩
theorem tapeText_any {w : World} {b : Nat} {s : ByteArray} {e : Int} (h : TapeAt w b s e) {most : Int} (hs : s.size ≤ 281474976710656) (h0 : -9223372036854775808 ≤ most) (h1 : most ≤ 9223372036854775807) :
    Calls Tryz.prog 70 #[.pointer (some ⟨b, 0, none⟩), .int .i64 most] w fun r w' => r = .returned (vText (tText s e most)) ∧ w.grownBy w' (some b) ∧ TapeAt w' b (tText s e most).2.1 (tText s e most).2.2 := by
  have hmf : ∀ (fn : Fn) (first cap : Array Value) (w : World), (Instr.makeFunc fn first cap).run Tryz.prog w = .ok (.func fn first cap) w := fun _ _ _ _ => rfl
  have hb0 : Below w.heap.size w (w.alloc (.cells #[.int .i64 most] 3)) := (Below.refl _ _).alloc (Nat.le_refl _) _
  have hm : (w.alloc (.cells #[.int .i64 most] 3)).cell? ⟨w.heap.size, 0, none⟩ = some (.int .i64 most) := by rw [World.cell?_alloc_new]; rfl
  have H := Lib.hid (tapeText_core (h.next hb0) hm hs h0 h1)
  clear hm
  go_enter Tryz.func70, Tryz.ntmps70
  go_wp2_with fail
  refine H.out.mono ?_
  rintro r w1 ⟨rfl, hg, ht⟩
  go_wp2_with fail
  go_ret
  exact ⟨rfl, ⟨hg.os.trans hb0.os, hg.tape.trans hb0.tape, hg.output.trans hb0.output, Nat.le_trans hb0.size hg.size, fun k hk hne => (hg.block k (by simp; omega) hne).trans (hb0.block k hk)⟩, ht⟩
theorem tapeText_nil (w : World) (most : Int) : Calls Tryz.prog 70 #[.pointer none, .int .i64 most] w fun r w' => r = .returned (.string ⟨#[]⟩) ∧ Below w.heap.size w w' := by
  have hmf : ∀ (fn : Fn) (first cap : Array Value) (w : World), (Instr.makeFunc fn first cap).run Tryz.prog w = .ok (.func fn first cap) w := fun _ _ _ _ => rfl
  go_enter Tryz.func70, Tryz.ntmps70
  go_wp2_with fail
  refine (takeText_nil _ _).mono ?_
  rintro r w1 ⟨rfl, rfl⟩
  go_wp2_with fail
  go_ret
  exact ⟨rfl, (Below.refl _ _).alloc (Nat.le_refl _) _⟩
end Go.Proofs.YthnnenhpcceckaaGreat.Bt

/-
  WHAT IS READ HAS ONE FORM: written again it is the bytes that were read. Plain.
-/
namespace Go.Proofs.YthnnenhpcceckaaGreat.Bt
open Go.RowKit
theorem bytes_ext {a b : ByteArray} (h : a.data.toList = b.data.toList) : a = b := ByteArray.ext (Array.toList_inj.1 h)
theorem cat_data (a b : ByteArray) : (a ++ b).data.toList = a.data.toList ++ b.data.toList := by simp
theorem ext_data (s : ByteArray) (k : Nat) : (s.extract k s.size).data.toList = s.data.toList.drop k := by
  rw [Lib.extract_data, List.take_of_length_le]
  rw [List.length_drop, ← Lib.size_eq]
  exact Nat.le_refl _
def u8l (l : List Int) : List UInt8 := l.map fun n => UInt8.ofNat n.toNat
theorem u8s_snoc (l : List Int) (n : Int) : u8l (l ++ [n]) = u8l l ++ [UInt8.ofNat n.toNat] := by simp [u8l]
theorem be_join (l : List UInt8) : u8l (be l.length (joinN l)) = l := by
  have h : ∀ (k : Nat) (l : List UInt8), l.length = k → u8l (be k (joinN l)) = l := by
    intro k
    induction k with
    | zero => intro l hl; rw [List.eq_nil_of_length_eq_zero hl]; rfl
    | succ k ih =>
      intro l hl
      have hne : l ≠ [] := fun e => by rw [e] at hl; simp at hl
      obtain ⟨m, b, rfl⟩ : ∃ m b, l = m ++ [b] := ⟨l.dropLast, l.getLast hne, (List.dropLast_concat_getLast hne).symm⟩
      have hb := b.toNat_lt
      have hm : m.length = k := by simpa using hl
      rw [joinN_snoc]
      have e1 : (((joinN m * 256 + b.toNat : Nat) : Int) / 256) = ((joinN m : Nat) : Int) := by omega
      have e2 : (((joinN m * 256 + b.toNat : Nat) : Int) % 256).toNat = b.toNat := by omega
      simp only [be]
      rw [u8s_snoc, e1, e2, ih m hm]
      simp
  exact h _ l rfl
theorem leastN_lt (k : Nat) (h : 2 ≤ k) : leastN k = 256 ^ (k - 1) := by unfold leastN; rw [if_neg (by omega)]
theorem wid_of {n : Nat} {k : Nat} (h1 : 1 ≤ k) (h2 : k ≤ 8) (hlo : leastN k ≤ n) (hhi : n < 256 ^ k) : wid (n : Int) = k := by
  have hk : k = 1 ∨ k = 2 ∨ k = 3 ∨ k = 4 ∨ k = 5 ∨ k = 6 ∨ k = 7 ∨ k = 8 := by omega
  rcases hk with rfl | rfl | rfl | rfl | rfl | rfl | rfl | rfl
  all_goals
    simp [leastN] at hlo hhi
    unfold wid
    repeat' split
    all_goals omega
/-- a number that is read, written again, is the bytes that were read -/
theorem num_one (l : List UInt8) (h : (rdNum l).2.2 = 0) : (numS ((rdNum l).1 : Int)).data.toList = l.take (rdNum l).2.1 := by
  unfold numS
  rw [strOfNums_data]
  match l with
  | [] => simp [rdNum] at h
  | b :: t =>
    have hb := b.toNat_lt
    simp only [rdNum] at h ⊢
    split at h
    · rename_i hb1
      rw [if_pos hb1]
      unfold numI
      rw [if_pos (by simp only; omega)]
      simp
    · rename_i hb1
      rw [if_neg hb1]
      split at h
      · simp at h
      · rename_i hlen
        rw [if_neg hlen]
        split at h
        · simp at h
        · rename_i hlo
          rw [if_neg hlo]
          simp only
          have htl : (t.take (b.toNat - 247)).length = b.toNat - 247 := by rw [List.length_take]; omega
          have hlt := joinN_lt (t.take (b.toNat - 247))
          rw [htl] at hlt
          have hw := wid_of (n := joinN (t.take (b.toNat - 247))) (k := b.toNat - 247) (by omega) (by omega) (by omega) hlt
          have hbe := be_join (t.take (b.toNat - 247))
          rw [htl] at hbe
          have hge : 248 ≤ leastN (b.toNat - 247) := by
            unfold leastN
            split
            · omega
            · exact Nat.le_trans (by decide : 248 ≤ 256 ^ 1) (Nat.pow_le_pow_right (by decide) (by omega))
          have e : (((247 + (b.toNat - 247) : Nat) : Int)).toNat = b.toNat := by omega
          have hn : ¬ ((joinN (t.take (b.toNat - 247)) : Nat) : Int) ≤ 247 := by omega
          unfold u8l at hbe
          unfold numI
          rw [if_neg hn, hw, List.map_cons, List.take_succ_cons, e, hbe]
          simp
theorem zig_unz (n : Nat) : Lib.zigzag (unz n) = n := by
  unfold unz Lib.zigzag
  split
  · rename_i h; rw [if_pos (by omega)]; omega
  · rename_i h; rw [if_neg (by omega)]; omega
theorem take_cat (s x : ByteArray) (k : Nat) (h : x.data.toList = s.data.toList.take k) : x ++ s.extract k s.size = s := by
  apply bytes_ext
  rw [cat_data, ext_data, h, List.take_append_drop]
theorem num_back (s : ByteArray) (h : (rdNum s.data.toList).2.2 = 0) : numS ((rdNum s.data.toList).1 : Int) ++ s.extract (rdNum s.data.toList).2.1 s.size = s := take_cat s _ _ (num_one _ h)
theorem int_back (s : ByteArray) (h : (rdInt s.data.toList).2.2 = 0) : intS (rdInt s.data.toList).1 ++ s.extract (rdInt s.data.toList).2.1 s.size = s := by
  unfold intS rdInt
  simp only [zig_unz]
  exact num_back s h
theorem text_back (s : ByteArray) (most : Int) (h : (rdText s most).2.2 = 0) : textS (rdText s most).1 ++ s.extract (rdText s most).2.1 s.size = s := by
  rcases hR : rdNum s.data.toList with ⟨N, K, E⟩
  have hle := rdNum_le s
  have hone := num_one s.data.toList
  rw [hR] at hle hone
  rw [rdText_eq s most hR] at h ⊢
  split at h
  · rename_i hE; exact absurd h hE
  · rename_i hE
    rw [if_neg hE]
    split at h
    · simp at h
    · rename_i h2
      rw [if_neg h2]
      split at h
      · simp at h
      · rename_i h3
        rw [if_neg h3]
        simp only at hle hone ⊢
        apply take_cat
        have hsz : (s.extract K (K + N)).size = N := by simp; omega
        unfold textS
        rw [cat_data, hsz, hone (by simpa using hE), Lib.extract_data, List.take_add]
        congr 2
        omega
end Go.Proofs.YthnnenhpcceckaaGreat.Bt

/-
  WHAT IS WRITTEN IS READ AS IT WAS: plain, of each kind.
-/
namespace Go.Proofs.YthnnenhpcceckaaGreat.Bt
open Go.RowKit
theorem join_be (k : Nat) : ∀ n : Nat, joinN (u8l (be k (n : Int))) = n % 256 ^ k := by
  induction k with
  | zero => intro n; simp [be, u8l, joinN, Nat.mod_one]
  | succ k ih =>
    intro n
    have e : ((n : Int) / 256) = ((n / 256 : Nat) : Int) := by omega
    rw [be, u8s_snoc, joinN_snoc, e, ih, Nat.pow_succ, Nat.mul_comm (256 ^ k) 256, Nat.mod_mul]
    have e2 : (UInt8.ofNat ((n : Int) % 256).toNat).toNat = n % 256 := by
      rw [UInt8.toNat_ofNat']; omega
    rw [e2]; omega
theorem u8l_len (l : List Int) : (u8l l).length = l.length := by simp [u8l]
theorem wid_hi {n : Nat} (h : n < 18446744073709551616) : n < 256 ^ wid (n : Int) := by
  unfold wid
  repeat' split
  all_goals simp only [Nat.reducePow]; omega
theorem wid_lo {n : Nat} (h : 247 < n) : leastN (wid (n : Int)) ≤ n := by
  unfold wid leastN
  repeat' split
  all_goals first | omega | (simp only [Nat.reduceSub, Nat.reducePow]; omega)
theorem rd_num (n : Nat) (h : n < 18446744073709551616) (more : List UInt8) : rdNum ((numS (n : Int)).data.toList ++ more) = (n, (numS (n : Int)).size, 0) := by
  rw [Lib.size_eq]
  unfold numS
  rw [strOfNums_data]
  by_cases h1 : (n : Int) ≤ 247
  · unfold numI
    rw [if_pos h1]
    have e : (UInt8.ofNat ((n : Int).toNat)).toNat = n := by rw [UInt8.toNat_ofNat']; omega
    simp only [List.map_cons, List.map_nil, List.cons_append, List.nil_append, rdNum, e]
    rw [if_pos (by omega)]
    simp
  · unfold numI
    rw [if_neg h1]
    have hw := wid_le (n : Int)
    have e : (UInt8.ofNat (((247 + wid (n : Int) : Nat) : Int).toNat)).toNat = 247 + wid (n : Int) := by rw [UInt8.toNat_ofNat']; omega
    simp only [List.map_cons, List.cons_append, rdNum, e]
    have hl : (List.map (fun m : Int => UInt8.ofNat m.toNat) (be (wid (n : Int)) (n : Int))).length = wid (n : Int) := by rw [List.length_map, be_len]
    have ht : (List.map (fun m : Int => UInt8.ofNat m.toNat) (be (wid (n : Int)) (n : Int)) ++ more).take (wid (n : Int)) = u8l (be (wid (n : Int)) (n : Int)) := by
      rw [List.take_append_of_le_length (by omega), List.take_of_length_le (by omega)]; rfl
    rw [if_neg (by omega), if_neg (by rw [List.length_append, hl]; omega), show 247 + wid (n : Int) - 247 = wid (n : Int) by omega, ht, join_be, Nat.mod_eq_of_lt (wid_hi h), if_neg (by have := wid_lo (n := n) (by omega); omega)]
    simp only [List.length_cons, hl]
theorem rd_int (n : Int) (h0 : -9223372036854775808 ≤ n) (h1 : n ≤ 9223372036854775807) (more : List UInt8) : rdInt ((intS n).data.toList ++ more) = (n, (intS n).size, 0) := by
  unfold rdInt intS
  rw [rd_num _ (by have := zig_lt h0 h1; omega)]
  have e : unz (Lib.zigzag n) = n := by
    unfold unz Lib.zigzag
    split <;> split <;> omega
  rw [e]
theorem rd_text (s more : ByteArray) (hs : s.size < 9223372036854775808) : rdText (textS s ++ more) (s.size : Int) = (s, (textS s).size, 0) := by
  have hd : (textS s ++ more).data.toList = (numS (s.size : Int)).data.toList ++ (s.data.toList ++ more.data.toList) := by
    unfold textS; rw [cat_data, cat_data, List.append_assoc]
  have hR : rdNum (textS s ++ more).data.toList = (s.size, (numS (s.size : Int)).size, 0) := by rw [hd]; exact rd_num _ (by omega) _
  have hz : (textS s ++ more).size = (numS (s.size : Int)).size + s.size + more.size := by unfold textS; rw [ByteArray.size_append, ByteArray.size_append]
  rw [rdText_eq _ _ hR, if_neg (by simp), if_neg (by omega), if_neg (by omega)]
  have ht : (textS s).size = (numS (s.size : Int)).size + s.size := by unfold textS; rw [ByteArray.size_append]
  rw [ht]
  refine congrArg (fun x => (x, _)) ?_
  apply bytes_ext
  rw [Lib.extract_data, hd, Lib.size_eq (numS (s.size : Int)), List.drop_left, Nat.add_sub_cancel_left, Lib.size_eq s, List.take_left]
end Go.Proofs.YthnnenhpcceckaaGreat.Bt
/-
  A FILE IS TAKEN AWAY: Drop.
-/
namespace Go.Proofs.YthnnenhpcceckaaGreat
open Go.RowKit
/-- what find answers -/
def findE (S : St) (s : Nm) : Int := if S.down then 8 else if nameB s then (match get S.now s with | some _ => 0 | none => 4) else 1
theorem findV_2 (S : St) (V : Nm → Value) (s : Nm) : (findV S V s).2 = findE S s := by
  unfold findV findE
  split
  · rfl
  · split
    · cases get S.now s <;> rfl
    · rfl
theorem drop_nil (f : Nm) (w : World) : Calls Tryz.prog 74 #[.pointer none, .string f] w fun e w' => e = .returned (.int .i64 1) ∧ w = w' := by
  go_enter Tryz.func74, Tryz.ntmps74
  go_wp2_with fail
  refine (find_nil f _).mono ?_
  rintro e w1 ⟨rfl, rfl⟩
  go_wp2_with fail
  first | go_ret | go_ret2
  exact ⟨rfl, rfl⟩
/-- the call is refused -/
theorem drop_no {w : World} {B D m : Nat} {S : St} {L : Lie} (f : Nm) (h : DkL w B D m S L) (hs : f.size ≤ 9223372036854775807) (hE : findE S f ≠ 0) :
    Calls Tryz.prog 74 #[.pointer (some ⟨D, 0, none⟩), .string f] w fun e w' => e = .returned (.int .i64 (findE S f)) ∧ w = w' := by
  have F := Lib.hid (find_any h f hs)
  rw [findV_2] at F
  clear h
  generalize findE S f = x at *
  generalize (findV S L.V2 f).1 = v at *
  go_enter Tryz.func74, Tryz.ntmps74
  go_wp2_with fail
  refine F.out.mono ?_
  rintro e w1 ⟨rfl, rfl⟩
  go_wp2_with fail
  first | go_ret | go_ret2
  exact ⟨rfl, rfl⟩
/-- note, a while later -/
theorem note_after {w w1 : World} {B D m : Nat} {S : St} {L : Lie} (c : Chg) (h : DkL w B D m S L) (hd : S.down = false) (hr : mayAll S.sure (S.row ++ [c])) (hc : c.may S.now) (hm : m + S.row.length < 99990) (ht : S.trip ≤ 9223372036854775807) (hk : S.keep ≤ 9223372036854775807) (b1 : Below w.heap.size w w1) :
    Calls Tryz.prog 17 #[.pointer (some ⟨D, 0, none⟩), .iface c.ty c.in_] w1 (NoteW w B D m S L c) := (note_any c (h.below b1) hd hr hc hm ht hk).mono fun e w' hn => by
  obtain ⟨S', L', x, he, d, hcn, F, N⟩ := hn
  refine ⟨S', L', x, he, d, hcn, (Fr.of_below b1 (fun _ => False)).trans F (fun _ _ h => h.elim) (fun _ _ h => h), fun q hq => ?_⟩
  rcases N q hq with hh | hh
  · exact .inl hh
  · right; have := b1.size; omega
theorem drop_yes {w : World} {B D m : Nat} {S : St} {L : Lie} (f : Nm) (h : DkL w B D m S L) (hs : f.size ≤ 100000000) (hE : findE S f = 0) (hd : S.down = false) (hr : mayAll S.sure (S.row ++ [.drop f])) (hc : (Chg.drop f).may S.now) (hm : m + S.row.length < 99990) (ht : S.trip ≤ 9223372036854775807) (hk : S.keep ≤ 9223372036854775807) :
    Calls Tryz.prog 74 #[.pointer (some ⟨D, 0, none⟩), .string f] w (NoteW w B D m S L (.drop f)) := by
  have F := Lib.hid (find_any h f (by omega))
  rw [findV_2, hE] at F
  have NT := Lib.hid (fun w1 (b1 : Below w.heap.size w w1) => note_after (.drop f) h hd hr hc hm ht hk b1)
  have CL := Lib.hid (fun w1 => str_clone f w1 (by omega))
  unfold Chg.ty Chg.in_ at NT
  simp only at NT
  clear h hr hc hE
  generalize (findV S L.V2 f).1 = v at *
  go_enter Tryz.func74, Tryz.ntmps74
  go_wp2_with fail
  refine F.out.mono ?_
  rintro e w1 ⟨rfl, rfl⟩
  go_wp2_with fail
  refine (CL.out _).mono ?_
  rintro e w2 ⟨rfl, b2⟩
  have NT2 := Lib.hid (NT.out w2 b2)
  clear b2 NT CL F
  go_wp2_with fail
  refine NT2.out.mono ?_
  rintro e w3 ⟨S', L', x, rfl, hh⟩
  have FIN : Hid (NoteW w B D m S L (.drop f) (.returned (.int .i64 x)) w3) := Lib.hid ⟨S', L', x, rfl, hh⟩
  clear hh NT2
  go_wp2_with fail
  first | go_ret | go_ret2
  exact FIN.out
theorem findV_1 {w : World} {B D m : Nat} {S : St} {L : Lie} {f : Nm} (h : DkL w B D m S L) (hE : findE S f = 0) : ∃ a c, (findV S L.V2 f).1 = .slice a (gl S.now f).length c := by
  unfold findE at hE
  unfold findV
  by_cases hd : S.down = true
  · rw [if_pos hd] at hE; omega
  · rw [if_neg hd] at hE ⊢
    by_cases hn : nameB f = true
    · rw [if_pos hn] at hE ⊢
      cases hg : get S.now f with
      | none => rw [hg] at hE; simp only at hE; omega
      | some l => exact own_form (h.f2.own f)
    · rw [if_neg hn] at hE; omega
end Go.Proofs.YthnnenhpcceckaaGreat
/-
  A FILE GETS ANOTHER NAME: Move. BYTES ARE LAID: Put.
-/
namespace Go.Proofs.YthnnenhpcceckaaGreat
open Go.RowKit
theorem move_nil (f t : Nm) (w : World) : Calls Tryz.prog 76 #[.pointer none, .string f, .string t] w fun e w' => e = .returned (.int .i64 1) ∧ w = w' := by
  go_enter Tryz.func76, Tryz.ntmps76
  go_wp2_with fail
  refine (ready_nil _).mono ?_
  rintro e w1 ⟨rfl, rfl⟩
  go_wp2_with fail
  first | go_ret | go_ret2
  exact ⟨rfl, rfl⟩
/-- what Move answers ahead of the row -/
def moveE (S : St) (f t : Nm) : Int := if S.down then 8 else if nameB t then findE S f else 1
theorem move_no {w : World} {B D m : Nat} {S : St} {L : Lie} (f t : Nm) (h : DkL w B D m S L) (hs : f.size ≤ 9223372036854775807) (hs2 : t.size ≤ 9223372036854775807) (hE : moveE S f t ≠ 0) :
    Calls Tryz.prog 76 #[.pointer (some ⟨D, 0, none⟩), .string f, .string t] w fun e w' => e = .returned (.int .i64 (moveE S f t)) ∧ w = w' := by
  have R := Lib.hid (ready_any h.blk)
  have N := Lib.hid (name_any t w hs2)
  have F := Lib.hid (find_any h f hs)
  rw [findV_2] at F
  unfold readyE at R
  unfold moveE at *
  clear h
  generalize S.down = b at *
  generalize nameB t = nb at *
  generalize findE S f = x at *
  generalize (findV S L.V2 f).1 = v at *
  cases b
  · simp only [Bool.false_eq_true, if_false] at *
    cases nb
    · clear F
      go_enter Tryz.func76, Tryz.ntmps76
      go_wp2_with fail
      refine R.out.mono ?_
      rintro e w1 ⟨rfl, rfl⟩
      go_wp2_with fail
      refine N.out.mono ?_
      rintro e w1 ⟨rfl, rfl⟩
      go_wp2_with fail
      first | go_ret | go_ret2
      exact ⟨rfl, rfl⟩
    · simp only [if_true] at *
      go_enter Tryz.func76, Tryz.ntmps76
      go_wp2_with fail
      refine R.out.mono ?_
      rintro e w1 ⟨rfl, rfl⟩
      go_wp2_with fail
      refine N.out.mono ?_
      rintro e w1 ⟨rfl, rfl⟩
      go_wp2_with fail
      refine F.out.mono ?_
      rintro e w1 ⟨rfl, rfl⟩
      go_wp2_with fail
      first | go_ret | go_ret2
      exact ⟨rfl, rfl⟩
  · clear N F
    go_enter Tryz.func76, Tryz.ntmps76
    go_wp2_with fail
    refine R.out.mono ?_
    rintro e w1 ⟨rfl, rfl⟩
    go_wp2_with fail
    first | go_ret | go_ret2
    exact ⟨rfl, rfl⟩
theorem move_yes {w : World} {B D m : Nat} {S : St} {L : Lie} (f t : Nm) (h : DkL w B D m S L) (hs : f.size ≤ 100000000) (hs2 : t.size ≤ 100000000) (hE : moveE S f t = 0) (hd : S.down = false) (hr : mayAll S.sure (S.row ++ [.move f t])) (hc : (Chg.move f t).may S.now) (hm : m + S.row.length < 99990) (ht : S.trip ≤ 9223372036854775807) (hk : S.keep ≤ 9223372036854775807) :
    Calls Tryz.prog 76 #[.pointer (some ⟨D, 0, none⟩), .string f, .string t] w (NoteW w B D m S L (.move f t)) := by
  have R := Lib.hid (ready_any h.blk)
  have N := Lib.hid (name_any t w (by omega))
  have F := Lib.hid (find_any h f (by omega))
  rw [findV_2] at F
  unfold readyE at R
  unfold moveE at hE
  rw [hd, if_neg (by decide)] at R hE
  have hnb : nameB t = true := by
    cases hn : nameB t
    · rw [hn, if_neg (by decide)] at hE; omega
    · rfl
  rw [hnb, if_pos rfl] at hE
  rw [hE] at F
  rw [hnb] at N
  have NT := Lib.hid (fun w1 (b1 : Below w.heap.size w w1) => note_after (.move f t) h hd hr hc hm ht hk b1)
  have CL := Lib.hid (fun w1 => str_clone f w1 (by omega))
  have CT := Lib.hid (fun w1 => str_clone t w1 (by omega))
  unfold Chg.ty Chg.in_ at NT
  simp only at NT
  clear h hr hc hE hnb
  generalize (findV S L.V2 f).1 = v at *
  go_enter Tryz.func76, Tryz.ntmps76
  go_wp2_with fail
  refine R.out.mono ?_
  rintro e w1 ⟨rfl, rfl⟩
  go_wp2_with fail
  refine N.out.mono ?_
  rintro e w1 ⟨rfl, rfl⟩
  go_wp2_with fail
  refine F.out.mono ?_
  rintro e w1 ⟨rfl, rfl⟩
  clear R N F
  go_wp2_with fail
  refine (CL.out _).mono ?_
  rintro e w2 ⟨rfl, b2⟩
  have B2 := Lib.hid b2
  clear b2
  go_wp2_with fail
  refine (CT.out _).mono ?_
  rintro e w3 ⟨rfl, b3⟩
  have NT2 := Lib.hid (NT.out w3 (B2.out.trans (b3.mono B2.out.size)))
  clear b3 NT CL CT
  go_wp2_with fail
  refine NT2.out.mono ?_
  rintro e w4 ⟨S', L', x, rfl, hh⟩
  have FIN : Hid (NoteW w B D m S L (.move f t) (.returned (.int .i64 x)) w4) := Lib.hid ⟨S', L', x, rfl, hh⟩
  clear hh NT2
  go_wp2_with fail
  first | go_ret | go_ret2
  exact FIN.out
/-- Put -/
theorem put_nil (f s : Nm) (a : Int) (w : World) : Calls Tryz.prog 5 #[.pointer none, .string f, .int .i64 a, .string s] w fun e w' => e = .returned (.int .i64 1) ∧ w = w' := by
  go_enter Tryz.func5, Tryz.ntmps5
  go_wp2_with fail
  refine (ready_nil _).mono ?_
  rintro e w1 ⟨rfl, rfl⟩
  go_wp2_with fail
  first | go_ret | go_ret2
  exact ⟨rfl, rfl⟩
end Go.Proofs.YthnnenhpcceckaaGreat
/-
  BYTES ARE LAID: Put.
-/
namespace Go.Proofs.YthnnenhpcceckaaGreat
open Go.RowKit
/-- what Put answers ahead of the row, when the disk is up -/
def putBad (S : St) (f s : Nm) (a : Int) : Prop := nameB f = false ∨ a < 0 ∨ (gl S.now f).length < a ∨ 4194304 - a < s.size
def putFull (S : St) (f s : Nm) (a : Int) : Prop := 0 ≤ S.room ∧ 0 < a + s.size - (gl S.now f).length ∧ S.room < sz S.now + (a + s.size - (gl S.now f).length)
theorem put_down {w : World} {B D m : Nat} {S : St} {L : Lie} (f s : Nm) (a : Int) (h : DkL w B D m S L) (hd : S.down = true) : Calls Tryz.prog 5 #[.pointer (some ⟨D, 0, none⟩), .string f, .int .i64 a, .string s] w fun e w' => e = .returned (.int .i64 8) ∧ w = w' := by
  have R := Lib.hid (ready_any h.blk)
  unfold readyE at R
  rw [hd, if_pos rfl] at R
  clear h hd
  go_enter Tryz.func5, Tryz.ntmps5
  go_wp2_with fail
  refine R.out.mono ?_
  rintro e w1 ⟨rfl, rfl⟩
  go_wp2_with fail
  first | go_ret | go_ret2
  exact ⟨rfl, rfl⟩
set_option maxHeartbeats 4000000 in
set_option maxRecDepth 100000 in
theorem put_bad {w : World} {B D m : Nat} {S : St} {L : Lie} (f s : Nm) (a : Int) (h : DkL w B D m S L) (hd : S.down = false) (hf : f.size ≤ 9223372036854775807) (ha : -9223372036854775808 ≤ a ∧ a ≤ 9223372036854775807) (hb : putBad S f s a) :
    Calls Tryz.prog 5 #[.pointer (some ⟨D, 0, none⟩), .string f, .int .i64 a, .string s] w fun e w' => e = .returned (.int .i64 1) ∧ w = w' := by
  have R := Lib.hid (ready_any h.blk)
  unfold readyE at R
  rw [hd, if_neg (by decide)] at R
  have N := Lib.hid (name_any f w (by omega))
  have c2 : w.cell? ⟨D, 2, none⟩ = some (.map (some L.M2)) := h.blk.cell 2
  obtain ⟨av, cv, hv⟩ := own_form (h.f2.own f)
  have LK := h.f2.look (s := f) (by unfold maxLen; omega)
  rw [hv] at LK
  unfold putBad at hb
  have hg := gl_small h.g2.small f
  clear h hd hv
  generalize (gl S.now f).length = g at *
  have key : ∀ (_ : nameB f = false ∨ (nameB f = true ∧ a < 0) ∨ (nameB f = true ∧ 0 ≤ a ∧ (g : Int) < a) ∨ (nameB f = true ∧ 0 ≤ a ∧ a ≤ g ∧ 4194304 - a < s.size)), Calls Tryz.prog 5 #[.pointer (some ⟨D, 0, none⟩), .string f, .int .i64 a, .string s] w fun e w' => e = .returned (.int .i64 1) ∧ w = w' := by
    clear hb
    generalize nameB f = nb at *
    intro hb
    rcases hb with rfl | ⟨rfl, h1⟩ | ⟨rfl, h0, h1⟩ | ⟨rfl, h0, h2, h1⟩
    · go_enter Tryz.func5, Tryz.ntmps5
      go_wp2_with fail
      refine R.out.mono ?_
      rintro e w1 ⟨rfl, rfl⟩
      go_wp2_with fail
      refine N.out.mono ?_
      rintro e w1 ⟨rfl, rfl⟩
      go_wp2_with fail
      first | go_ret | go_ret2
      exact ⟨rfl, rfl⟩
    · go_enter Tryz.func5, Tryz.ntmps5
      go_wp2_with fail
      refine R.out.mono ?_
      rintro e w1 ⟨rfl, rfl⟩
      go_wp2_with fail
      refine N.out.mono ?_
      rintro e w1 ⟨rfl, rfl⟩
      go_wp2_with fail
      first | go_ret | go_ret2
      exact ⟨rfl, rfl⟩
    · go_enter Tryz.func5, Tryz.ntmps5
      go_wp2_with fail
      refine R.out.mono ?_
      rintro e w1 ⟨rfl, rfl⟩
      go_wp2_with fail
      refine N.out.mono ?_
      rintro e w1 ⟨rfl, rfl⟩
      go_wp2_with fail
      first | go_ret | go_ret2
      exact ⟨rfl, rfl⟩
    · have hwr : IntKind.i64.wrap (4194304 - a) = 4194304 - a := IntWalk.i64_in _ (by omega)
      go_enter Tryz.func5, Tryz.ntmps5
      go_wp2_with fail
      refine R.out.mono ?_
      rintro e w1 ⟨rfl, rfl⟩
      go_wp2_with fail
      refine N.out.mono ?_
      rintro e w1 ⟨rfl, rfl⟩
      go_wp2_with fail
      first | go_ret | go_ret2
      exact ⟨rfl, rfl⟩
  refine key ?_
  rcases hb with h1 | h1 | h1 | h1 <;> cases hn : nameB f <;> first | exact .inl rfl | skip
  · rw [hn] at h1; cases h1
  · exact .inr (.inl ⟨rfl, h1⟩)
  · exact .inr (.inr (.inl ⟨rfl, by omega, h1⟩))
  · by_cases h0 : a < 0
    · exact .inr (.inl ⟨rfl, h0⟩)
    · by_cases h2 : (g : Int) < a
      · exact .inr (.inr (.inl ⟨rfl, by omega, h2⟩))
      · exact .inr (.inr (.inr ⟨rfl, by omega, by omega, h1⟩))
end Go.Proofs.YthnnenhpcceckaaGreat
/-
  BYTES ARE LAID: Put, when there is no room, and when it is done.
-/
namespace Go.Proofs.YthnnenhpcceckaaGreat
open Go.RowKit
set_option maxHeartbeats 4000000 in
set_option maxRecDepth 100000 in
theorem put_full {w : World} {B D m : Nat} {S : St} {L : Lie} (f s : Nm) (a : Int) (h : DkL w B D m S L) (hd : S.down = false) (hf : f.size ≤ 100000000) (hb : ¬ putBad S f s a) (hfl : putFull S f s a) :
    Calls Tryz.prog 5 #[.pointer (some ⟨D, 0, none⟩), .string f, .int .i64 a, .string s] w fun e w' => e = .returned (.int .i64 7) ∧ Below w.heap.size w w' := by
  have R := Lib.hid (ready_any h.blk)
  unfold readyE at R
  rw [hd, if_neg (by decide)] at R
  have N := Lib.hid (name_any f w (by omega))
  have c2 : w.cell? ⟨D, 2, none⟩ = some (.map (some L.M2)) := h.blk.cell 2
  have c3 : w.cell? ⟨D, 3, none⟩ = some (.int .i64 (sz S.now)) := h.blk.cell 3
  have c5 : w.cell? ⟨D, 5, none⟩ = some (.int .i64 S.room) := h.blk.cell 5
  obtain ⟨av, cv, hv⟩ := own_form (h.f2.own f)
  have LK := h.f2.look (s := f) (by unfold maxLen; omega)
  rw [hv] at LK
  unfold putBad at hb
  have hg := gl_small h.g2.small f
  have hz := h.g2.sz_le
  have hlow := h.low
  have hnb : nameB f = true := by
    cases hn : nameB f
    · exact absurd (.inl hn) hb
    · rfl
  have h0 : 0 ≤ a := by
    by_cases h0 : a < 0
    · exact absurd (.inr (.inl h0)) hb
    · omega
  have h1 : a ≤ (gl S.now f).length := by
    by_cases h1 : ((gl S.now f).length : Int) < a
    · exact absurd (.inr (.inr (.inl h1))) hb
    · omega
  have h2 : (s.size : Int) ≤ 4194304 - a := by
    by_cases h2 : 4194304 - a < s.size
    · exact absurd (.inr (.inr (.inr h2))) hb
    · omega
  clear hb
  rw [hnb] at N
  have hw1 : IntKind.i64.wrap (4194304 - a) = 4194304 - a := IntWalk.i64_in _ (by omega)
  have hw2 : IntKind.i64.wrap (a + s.size) = a + s.size := IntWalk.i64_in _ (by omega)
  have hw3 : IntKind.i64.wrap (a + s.size - (gl S.now f).length) = a + s.size - (gl S.now f).length := IntWalk.i64_in _ (by omega)
  have hw4 : IntKind.i64.wrap (sz S.now + (a + s.size - (gl S.now f).length)) = sz S.now + (a + s.size - (gl S.now f).length) := IntWalk.i64_in _ (by omega)
  obtain ⟨hr0, hr1, hr2⟩ := hfl
  clear h hd hv
  generalize (gl S.now f).length = g at *
  generalize S.room = rm at *
  generalize sz S.now = z at *
  have t1 : decide (0 ≤ rm) = true := decide_eq_true hr0
  have t2 : decide (0 < a + (s.size : Int) - g) = true := decide_eq_true hr1
  have t3 : decide (rm < (z : Int) + (a + s.size - g)) = true := decide_eq_true hr2
  have t7 : decide ((g : Int) < a + (s.size : Int)) = true := decide_eq_true (by omega)
  have t4 : decide (a < 0) = false := decide_eq_false (by omega)
  have t5 : decide ((g : Int) < a) = false := decide_eq_false (by omega)
  have t6 : decide (4194304 - a < (s.size : Int)) = false := decide_eq_false (by omega)
  go_enter Tryz.func5, Tryz.ntmps5
  go_wp2_with fail
  refine R.out.mono ?_
  rintro e w1 ⟨rfl, rfl⟩
  go_wp2_with fail
  refine N.out.mono ?_
  rintro e w1 ⟨rfl, rfl⟩
  go_wp2_with fail
  go_quiet (fail)
  go_wp2_with fail
  first | go_ret | go_ret2
  exact ⟨rfl, below_drewN (Below.refl _ _) _⟩
set_option maxHeartbeats 4000000 in
set_option maxRecDepth 100000 in
/-- Put, when it is done -/
theorem put_walk {w : World} {B D m : Nat} {S : St} {L : Lie} (f s : Nm) (a : Int) (h : DkL w B D m S L) (hd : S.down = false) (hf : f.size ≤ 100000000) (hb : ¬ putBad S f s a) (hfl : ¬ putFull S f s a) {Post : Int → World → Prop}
    (NT : ∀ w1, Below w.heap.size w w1 → Calls Tryz.prog 17 #[.pointer (some ⟨D, 0, none⟩), .iface 60 (.agg #[.string f, .int .i64 a, .string s])] w1 (fun e w' => ∃ x, e = .returned (.int .i64 x) ∧ Post x w')) :
    Calls Tryz.prog 5 #[.pointer (some ⟨D, 0, none⟩), .string f, .int .i64 a, .string s] w (fun e w' => ∃ x, e = .returned (.int .i64 x) ∧ Post x w') := by
  have HNT := Lib.hid NT
  clear NT
  have R := Lib.hid (ready_any h.blk)
  unfold readyE at R
  rw [hd, if_neg (by decide)] at R
  have N := Lib.hid (name_any f w (by omega))
  have c2 : w.cell? ⟨D, 2, none⟩ = some (.map (some L.M2)) := h.blk.cell 2
  have c3 : w.cell? ⟨D, 3, none⟩ = some (.int .i64 (sz S.now)) := h.blk.cell 3
  have c5 : w.cell? ⟨D, 5, none⟩ = some (.int .i64 S.room) := h.blk.cell 5
  obtain ⟨av, cv, hv⟩ := own_form (h.f2.own f)
  have LK := h.f2.look (s := f) (by unfold maxLen; omega)
  rw [hv] at LK
  unfold putBad at hb
  have hg := gl_small h.g2.small f
  have hz := h.g2.sz_le
  have hlow := h.low
  have hnb : nameB f = true := by
    cases hn : nameB f
    · exact absurd (.inl hn) hb
    · rfl
  have h0 : 0 ≤ a := by
    by_cases h0 : a < 0
    · exact absurd (.inr (.inl h0)) hb
    · omega
  have h1 : a ≤ (gl S.now f).length := by
    by_cases h1 : ((gl S.now f).length : Int) < a
    · exact absurd (.inr (.inr (.inl h1))) hb
    · omega
  have h2 : (s.size : Int) ≤ 4194304 - a := by
    by_cases h2 : 4194304 - a < s.size
    · exact absurd (.inr (.inr (.inr h2))) hb
    · omega
  clear hb
  rw [hnb] at N
  have hw1 : IntKind.i64.wrap (4194304 - a) = 4194304 - a := IntWalk.i64_in _ (by omega)
  have hw2 : IntKind.i64.wrap (a + s.size) = a + s.size := IntWalk.i64_in _ (by omega)
  have hw3 : IntKind.i64.wrap (a + s.size - (gl S.now f).length) = a + s.size - (gl S.now f).length := IntWalk.i64_in _ (by omega)
  have hw4 : IntKind.i64.wrap (sz S.now + (a + s.size - (gl S.now f).length)) = sz S.now + (a + s.size - (gl S.now f).length) := IntWalk.i64_in _ (by omega)
  have CL := Lib.hid (fun w1 => str_clone f w1 (by omega))
  have CS := Lib.hid (fun w1 => str_clone s w1 (by omega))
  unfold putFull at hfl
  clear h hd hv
  generalize (gl S.now f).length = g at *
  generalize S.room = rm at *
  generalize sz S.now = z at *
  have t4 : decide (a < 0) = false := decide_eq_false (by omega)
  have t5 : decide ((g : Int) < a) = false := decide_eq_false (by omega)
  have t6 : decide (4194304 - a < (s.size : Int)) = false := decide_eq_false (by omega)
  by_cases hr0 : rm < 0
  · have t1 : decide (0 ≤ rm) = false := decide_eq_false (by omega)
    clear hfl
    go_enter Tryz.func5, Tryz.ntmps5
    go_wp2_with fail
    refine R.out.mono ?_
    rintro e w1 ⟨rfl, rfl⟩
    go_wp2_with fail
    refine N.out.mono ?_
    rintro e w1 ⟨rfl, rfl⟩
    go_wp2_with fail
    go_quiet (fail)
    go_wp2_with fail
    refine (CL.out _).mono ?_
    rintro e w2 ⟨rfl, b2⟩
    have B2 := Lib.hid ((below_drewN (Below.refl w.heap.size w) nq).trans b2)
    clear b2
    go_wp2_with fail
    refine (CS.out _).mono ?_
    rintro e w3 ⟨rfl, b3⟩
    have NT2 := Lib.hid (HNT.out w3 (B2.out.trans (b3.mono B2.out.size)))
    clear b3 HNT CL CS
    go_wp2_with fail
    refine NT2.out.mono ?_
    rintro e w4 ⟨x, rfl, hh⟩
    have FIN := Lib.hid hh
    clear hh NT2
    go_wp2_with fail
    first | go_ret | go_ret2
    exact ⟨x, rfl, FIN.out⟩
  · have t1 : decide (0 ≤ rm) = true := decide_eq_true (by omega)
    by_cases hr1 : a + s.size - g ≤ 0
    · have t2 : decide (0 < a + (s.size : Int) - g) = false := decide_eq_false (by omega)
      have t7 : decide ((g : Int) < a + (s.size : Int)) = false := decide_eq_false (by omega)
      clear hfl
      go_enter Tryz.func5, Tryz.ntmps5
      go_wp2_with fail
      refine R.out.mono ?_
      rintro e w1 ⟨rfl, rfl⟩
      go_wp2_with fail
      refine N.out.mono ?_
      rintro e w1 ⟨rfl, rfl⟩
      go_wp2_with fail
      go_quiet (fail)
      go_wp2_with fail
      refine (CL.out _).mono ?_
      rintro e w2 ⟨rfl, b2⟩
      have B2 := Lib.hid ((below_drewN (Below.refl w.heap.size w) nq).trans b2)
      clear b2
      go_wp2_with fail
      refine (CS.out _).mono ?_
      rintro e w3 ⟨rfl, b3⟩
      have NT2 := Lib.hid (HNT.out w3 (B2.out.trans (b3.mono B2.out.size)))
      clear b3 HNT CL CS
      go_wp2_with fail
      refine NT2.out.mono ?_
      rintro e w4 ⟨x, rfl, hh⟩
      have FIN := Lib.hid hh
      clear hh NT2
      go_wp2_with fail
      first | go_ret | go_ret2
      exact ⟨x, rfl, FIN.out⟩
    · have hr2 : (z : Int) + (a + s.size - g) ≤ rm := by
        by_cases hx : rm < (z : Int) + (a + s.size - g)
        · exact absurd ⟨by omega, by omega, hx⟩ hfl
        · omega
      have t2 : decide (0 < a + (s.size : Int) - g) = true := decide_eq_true (by omega)
      have t7 : decide ((g : Int) < a + (s.size : Int)) = true := decide_eq_true (by omega)
      have t3 : decide (rm < (z : Int) + (a + s.size - g)) = false := decide_eq_false (by omega)
      clear hfl
      go_enter Tryz.func5, Tryz.ntmps5
      go_wp2_with fail
      refine R.out.mono ?_
      rintro e w1 ⟨rfl, rfl⟩
      go_wp2_with fail
      refine N.out.mono ?_
      rintro e w1 ⟨rfl, rfl⟩
      go_wp2_with fail
      go_quiet (fail)
      go_wp2_with fail
      refine (CL.out _).mono ?_
      rintro e w2 ⟨rfl, b2⟩
      have B2 := Lib.hid ((below_drewN (Below.refl w.heap.size w) nq).trans b2)
      clear b2
      go_wp2_with fail
      refine (CS.out _).mono ?_
      rintro e w3 ⟨rfl, b3⟩
      have NT2 := Lib.hid (HNT.out w3 (B2.out.trans (b3.mono B2.out.size)))
      clear b3 HNT CL CS
      go_wp2_with fail
      refine NT2.out.mono ?_
      rintro e w4 ⟨x, rfl, hh⟩
      have FIN := Lib.hid hh
      clear hh NT2
      go_wp2_with fail
      first | go_ret | go_ret2
      exact ⟨x, rfl, FIN.out⟩
theorem put_yes {w : World} {B D m : Nat} {S : St} {L : Lie} (f s : Nm) (a : Nat) (h : DkL w B D m S L) (hd : S.down = false) (hf : f.size ≤ 100000000) (hb : ¬ putBad S f s a) (hfl : ¬ putFull S f s a) (hr : mayAll S.sure (S.row ++ [.put f a s])) (hc : (Chg.put f a s).may S.now) (hm : m + S.row.length < 99990) (ht : S.trip ≤ 9223372036854775807) (hk : S.keep ≤ 9223372036854775807) :
    Calls Tryz.prog 5 #[.pointer (some ⟨D, 0, none⟩), .string f, .int .i64 a, .string s] w (NoteW w B D m S L (.put f a s)) :=
  (put_walk f s a h hd hf hb hfl (Post := fun x w' => NoteW w B D m S L (.put f a s) (.returned (.int .i64 x)) w') (fun _ b1 => (note_after (.put f a s) h hd hr hc hm ht hk b1).mono fun e w' hn => by
    obtain ⟨S', L', x, rfl, hh⟩ := hn
    exact ⟨x, rfl, S', L', x, rfl, hh⟩)).mono fun e w' hh => by
    obtain ⟨x, rfl, hp⟩ := hh
    exact hp
end Go.Proofs.YthnnenhpcceckaaGreat
/-
  WHICH VOTES AND SNAPSHOTS MAY BE.
-/
namespace Go.Proofs.YthnnenhpcceckaaGreat
open Go.RowKit
def idxB (n : Int) : Bool := decide (0 ≤ n) && decide (n ≤ 549755813888)
theorem index_any (n : Int) (w : World) : Calls Tryz.prog 67 #[.int .i64 n] w fun e w' => e = .returned (.bool (idxB n)) ∧ w = w' := by
  unfold idxB
  by_cases h0 : 0 ≤ n
  · by_cases h1 : n ≤ 549755813888
    · rw [decide_eq_true h0, decide_eq_true h1]
      go_enter Tryz.func67, Tryz.ntmps67
      go_wp2_with fail
      go_ret
      exact ⟨rfl, rfl⟩
    · rw [decide_eq_true h0, decide_eq_false h1]
      go_enter Tryz.func67, Tryz.ntmps67
      go_wp2_with fail
      go_ret
      exact ⟨rfl, rfl⟩
  · rw [decide_eq_false h0]
    go_enter Tryz.func67, Tryz.ntmps67
    go_wp2_with fail
    go_ret
    exact ⟨rfl, rfl⟩
def voteV (t f : Int) : Value := .agg #[.int .i64 t, .int .i64 f]
def voteB (t f : Int) : Bool := idxB t && (decide (-1 ≤ f) && decide (f < 7))
theorem voteMay_any (t f : Int) (w : World) : Calls Tryz.prog 43 #[voteV t f] w fun e w' => e = .returned (.bool (voteB t f)) ∧ Below w.heap.size w w' := by
  unfold voteB voteV
  cases hi : idxB t
  · go_enter Tryz.func43, Tryz.ntmps43
    go_wp2_with fail
    refine (index_any t _).mono ?_
    rintro e w1 ⟨rfl, rfl⟩
    rw [hi]
    go_wp2_with fail
    go_ret
    exact ⟨rfl, (Below.refl _ w).alloc (Nat.le_refl _) _⟩
  · by_cases h0 : -1 ≤ f
    · by_cases h1 : f < 7
      all_goals
        first | rw [decide_eq_true h0, decide_eq_true h1] | rw [decide_eq_true h0, decide_eq_false h1]
        go_enter Tryz.func43, Tryz.ntmps43
        go_wp2_with fail
        refine (index_any t _).mono ?_
        rintro e w1 ⟨rfl, rfl⟩
        rw [hi]
        go_wp2_with fail
        go_ret
        exact ⟨by simp [h1], (Below.refl _ w).alloc (Nat.le_refl _) _⟩
    · rw [decide_eq_false h0]
      go_enter Tryz.func43, Tryz.ntmps43
      go_wp2_with fail
      refine (index_any t _).mono ?_
      rintro e w1 ⟨rfl, rfl⟩
      rw [hi]
      go_wp2_with fail
      go_ret
      exact ⟨rfl, (Below.refl _ w).alloc (Nat.le_refl _) _⟩
def snapV (i t m : Int) (s : ByteArray) : Value := .agg #[.int .i64 i, .int .i64 t, .int .i64 m, .string s]
def snapB (i t m : Int) (s : ByteArray) : Bool := idxB i && (idxB t && (decide (0 ≤ m) && (decide (m < 128) && decide (s.size ≤ 262144))))
theorem snapMay_any (i t m : Int) (s : ByteArray) (w : World) : Calls Tryz.prog 52 #[snapV i t m s] w fun e w' => e = .returned (.bool (snapB i t m s)) ∧ Below w.heap.size w w' := by
  unfold snapB snapV
  cases hi : idxB i
  · go_enter Tryz.func52, Tryz.ntmps52
    go_wp2_with fail
    refine (index_any i _).mono ?_
    rintro e w1 ⟨rfl, rfl⟩
    rw [hi]
    go_wp2_with fail
    go_ret
    exact ⟨rfl, (Below.refl _ w).alloc (Nat.le_refl _) _⟩
  · cases ht : idxB t
    · go_enter Tryz.func52, Tryz.ntmps52
      go_wp2_with fail
      refine (index_any i _).mono ?_
      rintro e w1 ⟨rfl, rfl⟩
      rw [hi]
      go_wp2_with fail
      refine (index_any t _).mono ?_
      rintro e w1 ⟨rfl, rfl⟩
      rw [ht]
      go_wp2_with fail
      go_ret
      exact ⟨rfl, (Below.refl _ w).alloc (Nat.le_refl _) _⟩
    · have hs : (decide ((s.size : Int) ≤ 262144)) = decide (s.size ≤ 262144) := by simp only [decide_eq_decide]; omega
      by_cases h0 : 0 ≤ m
      · by_cases h1 : m < 128
        all_goals
          go_enter Tryz.func52, Tryz.ntmps52
          go_wp2_with fail
          refine (index_any i _).mono ?_
          rintro e w1 ⟨rfl, rfl⟩
          rw [hi]
          go_wp2_with fail
          refine (index_any t _).mono ?_
          rintro e w1 ⟨rfl, rfl⟩
          rw [ht]
          go_wp2_with fail
          go_ret
          exact ⟨by (first | (simp [h0, h1]; done) | (simp [h0, h1, hs]; done) | (simp [h0, h1]; omega)), (Below.refl _ w).alloc (Nat.le_refl _) _⟩
      · rw [decide_eq_false h0]
        go_enter Tryz.func52, Tryz.ntmps52
        go_wp2_with fail
        refine (index_any i _).mono ?_
        rintro e w1 ⟨rfl, rfl⟩
        rw [hi]
        go_wp2_with fail
        refine (index_any t _).mono ?_
        rintro e w1 ⟨rfl, rfl⟩
        rw [ht]
        go_wp2_with fail
        go_ret
        exact ⟨rfl, (Below.refl _ w).alloc (Nat.le_refl _) _⟩
end Go.Proofs.YthnnenhpcceckaaGreat
/-
  A DISK AND ITS STATE, WHERE IT LIES LEFT OPEN: the calls.
-/
namespace Go.Proofs.YthnnenhpcceckaaGreat
open Go.RowKit
theorem get_put (fs : Fm) (s t : Nm) (l : List UInt8) : get (put fs s l) t = if t = s then some l else get fs t := by
  by_cases h : t = s
  · subst h; rw [if_pos rfl]; exact get_put_same fs t l
  · rw [if_neg h]; exact get_put_other l h
theorem get_del (fs : Fm) (s t : Nm) : get (del fs s) t = if t = s then none else get fs t := by
  by_cases h : t = s
  · subst h; rw [if_pos rfl]; exact get_del_same fs t
  · rw [if_neg h]; exact get_del_other h
def Alike (A B : Fm) : Prop := ∀ s, get A s = get B s
theorem Alike.refl (A : Fm) : Alike A A := fun _ => rfl
theorem Alike.gl {A B : Fm} (h : Alike A B) (s : Nm) : gl A s = gl B s := by unfold YthnnenhpcceckaaGreat.gl; rw [h s]
theorem Alike.put {A B : Fm} (h : Alike A B) (s : Nm) (l : List UInt8) : Alike (put A s l) (put B s l) := fun t => by rw [get_put, get_put, h t]
theorem Alike.del {A B : Fm} (h : Alike A B) (s : Nm) : Alike (del A s) (del B s) := fun t => by rw [get_del, get_del, h t]
theorem Alike.doF {A B : Fm} (h : Alike A B) (c : Chg) : Alike (c.doF A) (c.doF B) := by
  cases c with
  | put f a s => simp only [Chg.doF]; rw [h.gl f]; exact h.put _ _
  | trim f n => simp only [Chg.doF]; rw [h.gl f]; exact h.put _ _
  | move f t => simp only [Chg.doF]; rw [h.gl f]; exact (h.del _).put _ _
  | drop f => exact h.del _
theorem Alike.may {A B : Fm} (h : Alike A B) {c : Chg} (hc : c.may A) : c.may B := by
  cases c with
  | put f a s => simp only [Chg.may] at *; rw [← h.gl f]; exact hc
  | trim f n => simp only [Chg.may] at *; rw [← h.gl f]; exact hc
  | move f t => exact hc
  | drop f => exact hc
theorem doAll_append (fs : Fm) (r : List Chg) (c : Chg) : doAll fs (r ++ [c]) = c.doF (doAll fs r) := by simp [doAll, List.foldl_append]
theorem mayAll_append {fs : Fm} {r : List Chg} {c : Chg} (h : mayAll fs r) (hc : c.may (doAll fs r)) : mayAll fs (r ++ [c]) := by
  induction r generalizing fs with
  | nil => exact ⟨hc, trivial⟩
  | cons d r ih => exact ⟨h.1, ih h.2 hc⟩
structure Ok (S : St) : Prop where
  may : mayAll S.sure S.row
  now : Alike S.now (doAll S.sure S.row)
  trip : S.trip ≤ 9223372036854775807
  keep : S.keep ≤ 9223372036854775807
  bare : S.down = true → S.row = []
theorem Counted.ok {S S' : St} {x : Int} (hm : mayAll S.sure S.row) (hn : Alike S.now (doAll S.sure S.row)) (ht : S.trip ≤ 9223372036854775807) (hk : S.keep ≤ 9223372036854775807) (hd : S.down = false) (h : Counted S S' x) : Ok S' ∧ S'.row.length ≤ S.row.length := by
  rcases h with ⟨_, _, rfl⟩ | ⟨_, _, N, rfl, hN⟩
  · refine ⟨⟨hm, hn, ?_, hk, fun e => by rw [hd] at e; cases e⟩, Nat.le_refl _⟩
    simp only; split <;> omega
  · exact ⟨⟨trivial, hN, by simp, by simp, fun _ => rfl⟩, Nat.zero_le _⟩
theorem findE_zero {S : St} {f : Nm} (h : findE S f = 0) : S.down = false ∧ nameB f = true ∧ ∃ l, get S.now f = some l := by
  unfold findE at h
  by_cases hd : S.down = true
  · rw [if_pos hd] at h; omega
  · rw [if_neg hd] at h
    by_cases hn : nameB f = true
    · rw [if_pos hn] at h
      cases hg : get S.now f with
      | none => rw [hg] at h; simp at h
      | some l => exact ⟨by simpa using hd, hn, l, rfl⟩
    · rw [if_neg hn] at h; omega
theorem findE_not7 (S : St) (f : Nm) : findE S f ≠ 7 ∧ (S.down = true → findE S f = 8) := by
  unfold findE
  constructor
  · split
    · omega
    · split
      · split <;> omega
      · omega
  · intro h; rw [if_pos h]
theorem sz_doF {fs : Fm} (hu : Uniq fs) (c : Chg) (hc : c.may fs) (hp : ∀ f a s, c ≠ .put f a s) : sz (c.doF fs) ≤ sz fs := by
  cases c with
  | put f a s => exact absurd rfl (hp f a s)
  | trim f n =>
    have := sz_put hu f ((gl fs f).take n)
    simp only [Chg.doF]
    rw [List.length_take] at this
    omega
  | move f t =>
    have h1 := sz_del hu f
    have h2 := sz_put (uniq_del hu f) t (gl fs f)
    simp only [Chg.doF]
    omega
  | drop f =>
    have h1 := sz_del hu f
    simp only [Chg.doF]
    omega
section
variable {w : World} {B D m : Nat} {S : St} {L : Lie}
def Dsk (w : World) (B D m : Nat) (S : St) : Prop := ∃ L, DkL w B D m S L
theorem Dsk.below {w' : World} (h : Dsk w B D m S) (hb : Below w.heap.size w w') : Dsk w' B D m S := by
  obtain ⟨L, h⟩ := h
  exact ⟨L, h.below hb⟩
theorem Fr.foot {w' : World} (h : DkL w B D m S L) (F : Fr w w' (L.foot D)) : Below B w w' := F.below (fun _ hq => (h.lt hq).1) (Nat.le_trans h.base (Nat.le_of_lt h.blk.lt))
theorem putd {n : Nat} (f s : Nm) (h : Dsk w B D m S) (ok : Ok S) (hm : m + 2 * S.row.length < 99990) (hd : S.down = false) (ht : S.trip = 0) (hr : S.room < 0) (hn : nameB f = true) (hl : n ≤ (gl S.now f).length) (h4 : n + s.size ≤ 4194304) :
    Calls Tryz.prog 5 #[.pointer (some ⟨D, 0, none⟩), .string f, .int .i64 n, .string s] w fun e w' => e = .returned (.int .i64 0) ∧
      Dsk w' B D (m + 2 * S.row.length + 5) { S with row := S.row ++ [.put f n s], now := (Chg.put f n s).doF S.now, calls := S.calls + 1 } ∧
      Ok { S with row := S.row ++ [.put f n s], now := (Chg.put f n s).doF S.now, calls := S.calls + 1 } ∧ Below B w w' := by
  obtain ⟨L, h⟩ := h
  have h64 := (nameB_size hn).2
  have hc : (Chg.put f n s).may S.now := ⟨h64, hl, h4⟩
  refine (put_yes f s n h hd (by omega) (fun hb => ?_) (fun hb => ?_) (mayAll_append ok.may (ok.now.may hc)) hc (by omega) ok.trip ok.keep).mono fun e w' hh => ?_
  · rcases hb with hb | hb | hb | hb
    · rw [hn] at hb; cases hb
    · omega
    · omega
    · omega
  · have := hb.1; omega
  · obtain ⟨S', L', x, rfl, d, hcnt, F, hN⟩ := hh
    have k := Counted.ok (S := { S with row := S.row ++ [.put f n s], now := (Chg.put f n s).doF S.now }) (mayAll_append ok.may (ok.now.may hc)) (by simp only [doAll_append]; exact ok.now.doF _) ok.trip ok.keep hd hcnt
    rcases hcnt with ⟨_, rfl, e⟩ | ⟨e, _⟩
    · simp only [ht, if_true] at e
      have e' : S' = { S with row := S.row ++ [.put f n s], now := (Chg.put f n s).doF S.now, calls := S.calls + 1 } := by rw [e, ← ht]
      rw [e'] at d k
      exact ⟨rfl, ⟨L', d.mono (by omega) (by omega)⟩, k.1, Fr.foot h F⟩
    · simp only at e; omega
theorem syncd (h : Dsk w B D m S) (ok : Ok S) (hm : m + 2 * S.row.length < 99990) (hd : S.down = false) (ht : S.trip = 0) :
    Calls Tryz.prog 6 #[.pointer (some ⟨D, 0, none⟩)] w fun e w' => e = .returned (.int .i64 0) ∧
      Dsk w' B D (m + 2 * S.row.length + 2) { S with sure := doAll S.sure S.row, row := [], calls := S.calls + 1 } ∧ Ok { S with sure := doAll S.sure S.row, row := [], calls := S.calls + 1 } ∧ Below B w w' := by
  obtain ⟨L, h⟩ := h
  refine (sync_any h hd ok.may hm ok.trip ok.keep).mono fun e w' hh => ?_
  obtain ⟨S1, S', L', x, rfl, d, hcnt, hS', F, hN⟩ := hh
  rcases hcnt with ⟨_, rfl, e⟩ | ⟨e, _⟩
  · simp only [ht, if_true] at e
    have e' : S' = { S with sure := doAll S.sure S.row, row := [], calls := S.calls + 1 } := by rw [hS', if_pos rfl, e, ← ht]
    rw [e'] at d
    exact ⟨rfl, ⟨L', d⟩, ⟨trivial, ok.now, ok.trip, ok.keep, fun _ => rfl⟩, Fr.foot h F⟩
  · omega
theorem faild (k : Int) (h : Dsk w B D m S) (ok : Ok S) (hm : m + 2 * S.row.length < 99990) (hk : k ≤ 9223372036854775807) :
    Calls Tryz.prog 34 #[.pointer (some ⟨D, 0, none⟩), .int .i64 k] w fun e w' => e = .returned (.tuple #[]) ∧ ∃ S', Dsk w' B D (m + S.row.length + 1) S' ∧ Ok S' ∧ S'.down = true ∧ (S.down = true → S' = S) ∧ (S.down = false → ∃ N, S' = { S with sure := keepF S.sure S.row (atLeast k 0), now := N, row := [], trip := 0, keep := 0, down := true } ∧ Alike N (keepF S.sure S.row (atLeast k 0))) ∧ Below B w w' := by
  obtain ⟨L, h⟩ := h
  by_cases hd : S.down = true
  · refine (fail_down h hd k).mono fun e w' hh => ?_
    obtain ⟨rfl, rfl⟩ := hh
    exact ⟨rfl, S, ⟨L, h.mono (by omega) (by omega)⟩, ok, hd, fun _ => rfl, fun e => by (rw [hd] at e; cases e), Below.refl _ _⟩
  · have hd : S.down = false := by simpa using hd
    refine (fail_up h hd ok.may (by omega) k hk).mono fun e w' hh => ?_
    obtain ⟨rfl, N, L', d, hA, F, hN⟩ := hh
    exact ⟨rfl, _, ⟨L', d⟩, ⟨trivial, hA, by simp, by simp, fun _ => rfl⟩, rfl, fun e => by (rw [hd] at e; cases e), fun _ => ⟨N, rfl, hA⟩, Fr.foot h F⟩
theorem readd (h : Dsk w B D m S) (s : Nm) (hs : s.size ≤ 9223372036854775807) : Calls Tryz.prog 22 #[.pointer (some ⟨D, 0, none⟩), .string s] w fun e w' => e = .returned (.tuple #[.string (readV S s).1, .int .i64 (readV S s).2]) ∧ w = w' := by
  obtain ⟨L, h⟩ := h
  exact read_any h s hs
theorem newd (w : World) : Calls Tryz.prog 4 #[] w fun e w' => ∃ D, e = .returned (.pointer (some ⟨D, 0, none⟩)) ∧ Dsk w' w.heap.size D 0 st0 ∧ Below w.heap.size w w' :=
  (new_any (Nat.le_refl _)).mono fun e w' hh => by
    obtain ⟨D, rfl, ⟨L, d, _⟩, b, _⟩ := hh
    exact ⟨D, rfl, ⟨L, d⟩, b⟩
theorem ok0 : Ok st0 := ⟨trivial, fun _ => rfl, by simp [st0], by simp [st0], fun e => by cases e⟩
/-- no such file -/
theorem dropn (f : Nm) (h : Dsk w B D m S) (hs : f.size ≤ 9223372036854775807) (hE : findE S f ≠ 0) : Calls Tryz.prog 74 #[.pointer (some ⟨D, 0, none⟩), .string f] w fun e w' => e = .returned (.int .i64 (findE S f)) ∧ w = w' := by
  obtain ⟨L, h⟩ := h
  exact drop_no f h hs hE
theorem moved (f t : Nm) (h : Dsk w B D m S) (ok : Ok S) (hm : m + 2 * S.row.length < 99990) (hd : S.down = false) (ht : S.trip = 0) (hn : nameB f = true) (hn2 : nameB t = true) (hE : moveE S f t = 0) (hc : (Chg.move f t).may S.now) :
    Calls Tryz.prog 76 #[.pointer (some ⟨D, 0, none⟩), .string f, .string t] w fun e w' => e = .returned (.int .i64 0) ∧
      Dsk w' B D (m + 2 * S.row.length + 5) { S with row := S.row ++ [.move f t], now := (Chg.move f t).doF S.now, calls := S.calls + 1 } ∧
      Ok { S with row := S.row ++ [.move f t], now := (Chg.move f t).doF S.now, calls := S.calls + 1 } ∧ Below B w w' := by
  obtain ⟨L, h⟩ := h
  have h64 := (nameB_size hn).2
  have h65 := (nameB_size hn2).2
  refine (move_yes f t h (by omega) (by omega) hE hd (mayAll_append ok.may (ok.now.may hc)) hc (by omega) ok.trip ok.keep).mono fun e w' hh => ?_
  obtain ⟨S', L', x, rfl, d, hcnt, F, hN⟩ := hh
  have k := Counted.ok (S := { S with row := S.row ++ [.move f t], now := (Chg.move f t).doF S.now }) (mayAll_append ok.may (ok.now.may hc)) (by simp only [doAll_append]; exact ok.now.doF _) ok.trip ok.keep hd hcnt
  rcases hcnt with ⟨_, rfl, e⟩ | ⟨e, _⟩
  · simp only [ht, if_true] at e
    have e' : S' = { S with row := S.row ++ [.move f t], now := (Chg.move f t).doF S.now, calls := S.calls + 1 } := by rw [e, ← ht]
    rw [e'] at d k
    exact ⟨rfl, ⟨L', d.mono (by omega) (by omega)⟩, k.1, Fr.foot h F⟩
  · simp only at e; omega
end
end Go.Proofs.YthnnenhpcceckaaGreat
/-
  CRC-32C AS A REGISTER OF BITS: a bit goes in at a time; what differs by a burst of at most 32 bits leaves another register. Plain: it imports nothing of the program.
-/
namespace Go.Proofs.YthnnenhpcceckaaGreat.Ct.CrcP


def P : Nat := 0x82f63b78
/-- one bit goes in -/
def step (r b : Nat) : Nat := r / 2 ^^^ (if (r + b) % 2 = 1 then P else 0)
def feed (r : Nat) (l : List Nat) : Nat := l.foldl step r
def val : List Nat → Nat
  | [] => 0
  | b :: l => b % 2 + 2 * val l

theorem feed_nil (r) : feed r [] = r := rfl
theorem feed_cons (r b l) : feed r (b :: l) = feed (step r b) l := rfl
theorem feed_append (r l m) : feed r (l ++ m) = feed (feed r l) m := List.foldl_append

theorem P_lt : P < 2 ^ 32 := by decide
theorem step_lt {r : Nat} (b : Nat) (h : r < 2 ^ 32) : step r b < 2 ^ 32 := by
  unfold step
  apply Nat.xor_lt_two_pow
  · omega
  · split
    · exact P_lt
    · decide
theorem feed_lt {r : Nat} (l : List Nat) (h : r < 2 ^ 32) : feed r l < 2 ^ 32 := by
  induction l generalizing r with
  | nil => exact h
  | cons b l ih => exact ih (step_lt b h)

theorem xor_div2 (a b : Nat) : (a ^^^ b) / 2 = a / 2 ^^^ b / 2 := by
  have := Nat.shiftRight_xor_distrib (a := a) (b := b) (i := 1)
  simpa [Nat.shiftRight_eq_div_pow] using this
theorem xor_mod2 (a b : Nat) : (a ^^^ b) % 2 = (a + b) % 2 := by
  have h := Nat.xor_mod_two_pow (a := a) (b := b) (n := 1)
  simp only [Nat.pow_one] at h
  rw [h]
  have ha := Nat.mod_two_eq_zero_or_one a
  have hb := Nat.mod_two_eq_zero_or_one b
  rcases ha with ha | ha <;> rcases hb with hb | hb <;> rw [ha, hb] <;> simp <;> omega

theorem xor4 (a b c d : Nat) : (a ^^^ b) ^^^ (c ^^^ d) = (a ^^^ c) ^^^ (b ^^^ d) := by
  rw [Nat.xor_assoc, Nat.xor_assoc, ← Nat.xor_assoc b, Nat.xor_comm b c, Nat.xor_assoc]

theorem step_xor (r s b c : Nat) : step (r ^^^ s) (b ^^^ c) = step r b ^^^ step s c := by
  unfold step
  rw [xor_div2, xor4]
  congr 1
  have h1 := xor_mod2 r s
  have h2 := xor_mod2 b c
  by_cases h3 : (r + b) % 2 = 1 <;> by_cases h4 : (s + c) % 2 = 1
  · rw [if_pos h3, if_pos h4, if_neg (by omega), Nat.xor_self]
  · rw [if_pos h3, if_neg h4, if_pos (by omega), Nat.xor_zero]
  · rw [if_neg h3, if_pos h4, if_pos (by omega), Nat.zero_xor]
  · rw [if_neg h3, if_neg h4, if_neg (by omega), Nat.xor_zero]

theorem feed_xor (l m : List Nat) (h : l.length = m.length) (r s : Nat) : feed (r ^^^ s) (List.zipWith (· ^^^ ·) l m) = feed r l ^^^ feed s m := by
  induction l generalizing m r s with
  | nil => cases m with
    | nil => rfl
    | cons _ _ => simp at h
  | cons b l ih => cases m with
    | nil => simp at h
    | cons c m =>
      rw [List.zipWith_cons_cons, feed_cons, feed_cons, feed_cons, step_xor]
      exact ih m (by simpa using h) _ _

theorem step_zero : step 0 0 = 0 := by decide
theorem feed_zeros (n : Nat) : feed 0 (List.replicate n 0) = 0 := by
  induction n with
  | zero => rfl
  | succ n ih => rw [List.replicate_succ, feed_cons, step_zero, ih]

theorem step_inj {d : Nat} (hd : d < 2 ^ 32) (h : step d 0 = 0) : d = 0 := by
  unfold step at h
  have h' : d / 2 = (if (d + 0) % 2 = 1 then P else 0) := by
    have := congrArg (· ^^^ (if (d + 0) % 2 = 1 then P else 0)) h
    simpa [Nat.xor_assoc] using this
  split at h'
  · unfold P at h'; omega
  · omega
theorem feed_inj (n : Nat) {d : Nat} (hd : d < 2 ^ 32) (h : feed d (List.replicate n 0) = 0) : d = 0 := by
  induction n generalizing d with
  | zero => exact h
  | succ n ih => exact step_inj hd (ih (step_lt 0 hd) h)

/-- bits fed one by one, or laid over the register first -/
theorem step_val (r v : Nat) : step (r ^^^ v) 0 = step r v ^^^ v / 2 := by
  unfold step
  rw [xor_div2]
  have h1 := xor_mod2 r v
  have e : ((r ^^^ v) + 0) % 2 = (r + v) % 2 := by omega
  rw [e, Nat.xor_assoc, Nat.xor_comm (v / 2), Nat.xor_assoc]
theorem step_mod (r b : Nat) : step r b = step r (b % 2) := by
  unfold step
  have : (r + b) % 2 = (r + b % 2) % 2 := by omega
  rw [this]
theorem feed_val (l : List Nat) (r : Nat) : feed (r ^^^ val l) (List.replicate l.length 0) = feed r l := by
  induction l generalizing r with
  | nil => simp [val, feed]
  | cons b l ih =>
    rw [List.length_cons, List.replicate_succ, feed_cons, feed_cons, step_val]
    have e1 : val (b :: l) / 2 = val l := by simp only [val]; omega
    have e2 : step r (val (b :: l)) = step r b := by
      rw [step_mod r b, step_mod r (val _)]; simp only [val]; congr 1; omega
    rw [e1, e2]
    exact ih _

theorem val_lt (l : List Nat) : val l < 2 ^ l.length := by
  induction l with
  | nil => simp [val]
  | cons b l ih => simp only [val, List.length_cons, Nat.pow_succ]; omega
theorem val_zero (l : List Nat) (hb : ∀ b ∈ l, b < 2) (h : val l = 0) : l = List.replicate l.length 0 := by
  induction l with
  | nil => rfl
  | cons b l ih =>
    simp only [val] at h
    have := hb b (by simp)
    rw [List.length_cons, List.replicate_succ, ← ih (fun c hc => hb c (by simp [hc])) (by omega)]
    congr 1; omega

/-- A BURST OF AT MOST 32 BITS IS SEEN. -/
theorem burst_seen (a c : Nat) (l : List Nat) (hl : l.length ≤ 32) (hb : ∀ b ∈ l, b < 2)
    (h : feed 0 (List.replicate a 0 ++ (l ++ List.replicate c 0)) = 0) : l = List.replicate l.length 0 := by
  rw [feed_append, feed_zeros, feed_append] at h
  have h1 := feed_inj c (feed_lt l (by decide)) h
  have h2 := feed_val l 0
  rw [Nat.zero_xor, h1] at h2
  have hv : val l < 2 ^ 32 := Nat.lt_of_lt_of_le (val_lt l) (Nat.pow_le_pow_right (by decide) hl)
  exact val_zero l hb (feed_inj _ hv h2)


/-- the eight bits of a byte, the lowest first -/
def bits8 (b : Nat) : List Nat := [b % 2, b / 2 % 2, b / 4 % 2, b / 8 % 2, b / 16 % 2, b / 32 % 2, b / 64 % 2, b / 128 % 2]
theorem val_bits8 {b : Nat} (h : b < 256) : val (bits8 b) = b := by
  simp only [bits8, val]; omega
theorem feed_byte (r : Nat) {b : Nat} (h : b < 256) : feed (r ^^^ b) (List.replicate 8 0) = feed r (bits8 b) := by
  have := feed_val (bits8 b) r
  rw [val_bits8 h] at this
  exact this
/-- all bits of some bytes -/
def bitsOf : List UInt8 → List Nat
  | [] => []
  | b :: l => bits8 b.toNat ++ bitsOf l
theorem bitsOf_append (l m : List UInt8) : bitsOf (l ++ m) = bitsOf l ++ bitsOf m := by
  induction l with
  | nil => rfl
  | cons b l ih => simp [bitsOf, ih]
/-- the register behind some bytes -/
def reg (l : List UInt8) : Nat := feed 4294967295 (bitsOf l)
theorem reg_lt (l : List UInt8) : reg l < 4294967296 := feed_lt _ (by decide)
theorem reg_snoc (l : List UInt8) (b : UInt8) : reg (l ++ [b]) = feed (reg l ^^^ b.toNat) (List.replicate 8 0) := by
  unfold reg
  rw [bitsOf_append, feed_append, feed_byte _ b.toNat_lt]
  simp [bitsOf]
theorem feed_snoc (r : Nat) (l : List Nat) (b : Nat) : feed r (l ++ [b]) = step (feed r l) b := by rw [feed_append]; rfl
/-- the sum of bytes -/
def sumN (l : List UInt8) : Nat := 4294967295 - reg l
end Go.Proofs.YthnnenhpcceckaaGreat.Ct.CrcP
/-
  THE WALK OF crc.Sum: bit by bit it is the register of the plain text.
-/
namespace Go.Proofs.YthnnenhpcceckaaGreat.Ct
open Go.RowKit
theorem sum_step (r : Nat) (h : r < 4294967296) : bits .xor .u32 ((r : Int) / 2) (2197175160 * bits .and .u32 (r : Int) 1 % 4294967296) = ((CrcP.step r 0 : Nat) : Int) := by
  have h1 : bits .and .u32 (r : Int) 1 = ((r % 2 : Nat) : Int) := by
    have := u32_and_nat r 1 h (by decide)
    rw [nat_mask1] at this
    exact this
  have h2 : (2197175160 * ((r % 2 : Nat) : Int)) % 4294967296 = ((if (r + 0) % 2 = 1 then CrcP.P else 0 : Nat) : Int) := by
    rcases Nat.mod_two_eq_zero_or_one r with hr | hr
    · rw [if_neg (by omega), hr]; rfl
    · rw [if_pos (by omega), hr]; rfl
  have h3 : ((r : Int) / 2) = ((r / 2 : Nat) : Int) := by omega
  rw [h1, h2, h3, u32_xor_nat _ _ (by omega) (by split <;> decide)]
  rfl
theorem take_snoc (s : ByteArray) (k : Nat) (h : k < s.size) : s.data.toList.take (k + 1) = s.data.toList.take k ++ [s[k]] := by
  rw [List.take_succ_eq_append_getElem (by simpa using h)]; rfl
theorem xor_byte (r : Nat) (b : UInt8) (h : r < 4294967296) : bits .xor .u32 (r : Int) (b.toNat : Int) = ((r ^^^ b.toNat : Nat) : Int) :=
  u32_xor_nat _ _ h (by have := b.toNat_lt; omega)
theorem not_u32 (r : Nat) (h : r < 4294967296) : bits .xor .u32 IntKind.u32.max (r : Int) = ((4294967295 - r : Nat) : Int) := by
  have e2 : IntKind.u32.max = ((4294967295 : Nat) : Int) := by decide
  rw [e2, u32_xor_nat _ _ (by decide) h]
  congr 1
  apply Nat.eq_of_testBit_eq
  intro i
  rw [Nat.testBit_xor, show 4294967295 = 2 ^ 32 - 1 from rfl, Nat.testBit_two_pow_sub_one, show 2 ^ 32 - 1 - r = 2 ^ 32 - (r + 1) by omega, Nat.testBit_two_pow_sub_succ h]
  by_cases hi : i < 32
  · simp [hi]
  · have : r.testBit i = false := Nat.testBit_lt_two_pow (Nat.lt_of_lt_of_le (show r < 2 ^ 32 from h) (Nat.pow_le_pow_right (by decide) (by omega)))
    simp [hi, this]
theorem ret_u32 {a b : Int} (h : a = b) : Ending.returned (.int .u32 a) = .returned (.int .u32 b) := by rw [h]
set_option maxHeartbeats 400000 in
theorem sum_any (s : ByteArray) (hs : s.size ≤ 9223372036854775807) (w : World) :
    Calls Tryz.prog 106 #[.string s] w fun e w' => e = .returned (.int .u32 (CrcP.sumN s.data.toList)) ∧ w = w' := by
  go_enter Tryz.func106, Tryz.ntmps106
  go_wp2
  go_loop [3, 7] (fun n i => ∃ k : Nat, k ≤ s.size ∧ i = .int .i64 k ∧ n = .int .u32 (CrcP.reg (s.data.toList.take k) : Nat)) (fun _ i => s.size - (intOf i).toNat)
  case atStart => exact ⟨0, Nat.zero_le _, rfl, rfl⟩
  case round =>
    obtain ⟨k, hk, rfl, rfl⟩ := hrel
    have hr := CrcP.reg_lt (s.data.toList.take k)
    by_cases hlt : k < s.size
    · have hsn := CrcP.reg_snoc (s.data.toList.take k) s[k]
      rw [← take_snoc s k hlt] at hsn
      have hx := xor_byte _ s[k] hr
      have hq : CrcP.reg (s.data.toList.take k) ^^^ s[k].toNat < 4294967296 := Nat.xor_lt_two_pow (n := 32) hr (by have := s[k].toNat_lt; omega)
      generalize hR : CrcP.reg (s.data.toList.take k) = R at *
      generalize hR1 : CrcP.reg (s.data.toList.take (k + 1)) = R1 at *
      have HR1 := Lib.hid hR1
      clear hR1 hR
      have Hsn := Lib.hid hsn
      clear hsn
      have hb : (s[k].toNat : Int) ≤ 255 := by have := s[k].toNat_lt; omega
      generalize hQ : R ^^^ s[k].toNat = Q at *
      have HQ := Lib.hid hQ
      clear hQ hr
      go_wp2
      go_loop [3, 16] (fun n i => ∃ j : Nat, j ≤ 8 ∧ i = .int .i64 j ∧ n = .int .u32 (CrcP.feed Q (List.replicate j 0) : Nat)) (fun _ i => 8 - (intOf i).toNat)
      case atStart => exact ⟨0, by omega, rfl, rfl⟩
      case round =>
        obtain ⟨j, hj, rfl, rfl⟩ := hrel
        by_cases hlj : j < 8
        · have hF := CrcP.feed_lt (List.replicate j 0) hq
          have hst := sum_step _ hF
          have hnx : CrcP.feed Q (List.replicate (j + 1) 0) = CrcP.step (CrcP.feed Q (List.replicate j 0)) 0 := by rw [List.replicate_succ', CrcP.feed_snoc]
          have Hnx := Lib.hid hnx
          clear hnx
          go_wp2
          go_round
          case rel => exact ⟨j + 1, by omega, by go_num, by rw [Hnx.out]⟩
          case measure => simp [intOf]; omega
        · obtain rfl : j = 8 := by omega
          have Hend : Hid (CrcP.feed Q (List.replicate 8 0) = R1) := Hsn.out.symm
          go_wp2
          go_round
          case rel => exact ⟨k + 1, by omega, by go_num, by rw [HR1.out, ← Hend.out]⟩
          case measure => simp [intOf]; omega
    · have hn := not_u32 _ hr
      go_wp2
      go_ret
      exact ⟨ret_u32 (by unfold CrcP.sumN; rw [List.take_of_length_le (by simp; omega)]), rfl⟩
end Go.Proofs.YthnnenhpcceckaaGreat.Ct
/-
  THE WALK OF THE DOCUMENT'S OWN SUM (auspiceref02): the bits of each byte go in one by one.
-/
namespace Go.Proofs.YthnnenhpcceckaaGreat.Ct
open Go.RowKit
theorem low_bit (F b : Nat) (hF : F < 4294967296) (hb : b < 256) : bits .xor .u32 (bits .and .u32 (F : Int) 1) (bits .and .u32 (b : Int) 1) = (((F + b) % 2 : Nat) : Int) := by
  have h1 : bits .and .u32 (F : Int) 1 = ((F % 2 : Nat) : Int) := by
    have := u32_and_nat F 1 hF (by decide)
    rw [nat_mask1] at this
    exact this
  have h2 : bits .and .u32 (b : Int) 1 = ((b % 2 : Nat) : Int) := by
    have := u32_and_nat b 1 (by omega) (by decide)
    rw [nat_mask1] at this
    exact this
  rw [h1, h2, u32_xor_nat _ _ (by omega) (by omega)]
  congr 1
  have h := CrcP.xor_mod2 (F % 2) (b % 2)
  have h3 : F % 2 ^^^ b % 2 < 2 := Nat.xor_lt_two_pow (n := 1) (by omega) (by omega)
  omega
theorem low_yes {F b : Nat} (hF : F < 4294967296) (hb : b < 256) (h : (F + b) % 2 = 1) : (bits .xor .u32 (bits .and .u32 (F : Int) 1) (bits .and .u32 (b : Int) 1) == 1) = true := by
  rw [low_bit F b hF hb, h]; rfl
theorem low_no {F b : Nat} (hF : F < 4294967296) (hb : b < 256) (h : ¬ (F + b) % 2 = 1) : (bits .xor .u32 (bits .and .u32 (F : Int) 1) (bits .and .u32 (b : Int) 1) == 1) = false := by
  rw [low_bit F b hF hb, show (F + b) % 2 = 0 by omega]; rfl
theorem step_yes {F b : Nat} (hF : F < 4294967296) (h : (F + b) % 2 = 1) : bits .xor .u32 ((F : Int) / 2) 2197175160 = ((CrcP.step F (b % 2) : Nat) : Int) := by
  have h3 : ((F : Int) / 2) = ((F / 2 : Nat) : Int) := by omega
  have := u32_xor_nat (F / 2) 2197175160 (by omega) (by decide)
  rw [h3]
  unfold CrcP.step
  rw [if_pos (by omega)]
  exact this
theorem step_no {F b : Nat} (h : ¬ (F + b) % 2 = 1) : ((F : Int) / 2) = ((CrcP.step F (b % 2) : Nat) : Int) := by
  unfold CrcP.step
  rw [if_neg (by omega), Nat.xor_zero]
  omega
theorem xor_all (r : Nat) (h : r < 4294967296) : bits .xor .u32 (r : Int) 4294967295 = ((4294967295 - r : Nat) : Int) := by
  have h1 := not_u32 r h
  have e2 : IntKind.u32.max = ((4294967295 : Nat) : Int) := by decide
  rw [e2, u32_xor_nat _ _ (by decide) h, Nat.xor_comm] at h1
  rw [← h1]
  exact u32_xor_nat r 4294967295 h (by decide)
theorem put_u32 {a b : Int} (h : a = b) : Value.int .u32 a = Value.int .u32 b := by rw [h]
theorem reg_next (s : ByteArray) (k : Nat) (h : k < s.size) : CrcP.reg (s.data.toList.take (k + 1)) = CrcP.feed (CrcP.reg (s.data.toList.take k)) ((CrcP.bits8 s[k].toNat).take 8) := by
  rw [take_snoc s k h, CrcP.reg_snoc, CrcP.feed_byte _ s[k].toNat_lt]; rfl
set_option maxHeartbeats 2000000 in
theorem rsum_any (s : ByteArray) (hs : s.size ≤ 9223372036854775807) (w : World) :
    Calls Tryz.prog 88 #[.string s] w fun e w' => e = .returned (.int .u32 (CrcP.sumN s.data.toList)) ∧ w = w' := by
  go_enter Tryz.func88, Tryz.ntmps88
  go_wp2
  go_loop [3, 4] (fun n i => ∃ k : Nat, k ≤ s.size ∧ i = .int .i64 k ∧ n = .int .u32 (CrcP.reg (s.data.toList.take k) : Nat)) (fun _ i => s.size - (intOf i).toNat)
  case atStart => exact ⟨0, Nat.zero_le _, rfl, rfl⟩
  case round =>
    obtain ⟨k, hk, rfl, rfl⟩ := hrel
    have hr := CrcP.reg_lt (s.data.toList.take k)
    by_cases hlt : k < s.size
    · have hbn := s[k].toNat_lt
      have hb : (s[k].toNat : Int) ≤ 255 := by omega
      have Hnext := Lib.hid (reg_next s k hlt)
      generalize hR : CrcP.reg (s.data.toList.take k) = R at *
      clear hR
      go_wp2
      go_loop [3, 5] (fun n i => ∃ j : Nat, j ≤ 8 ∧ i = .int .i64 j ∧ n = .int .u32 (CrcP.feed R ((CrcP.bits8 s[k].toNat).take j) : Nat)) (fun _ i => 8 - (intOf i).toNat)
      case atStart => exact ⟨0, by omega, rfl, rfl⟩
      case round =>
        obtain ⟨j, hj, rfl, rfl⟩ := hrel
        have hF := CrcP.feed_lt ((CrcP.bits8 s[k].toNat).take j) (r := R) hr
        generalize hFe : CrcP.feed R ((CrcP.bits8 s[k].toNat).take j) = F at *
        have HFe := Lib.hid hFe
        clear hFe
        have hjc : j = 8 ∨ j = 0 ∨ j = 1 ∨ j = 2 ∨ j = 3 ∨ j = 4 ∨ j = 5 ∨ j = 6 ∨ j = 7 := by omega
        rcases hjc with rfl | rfl | rfl | rfl | rfl | rfl | rfl | rfl | rfl
        · go_wp2
          go_round
          case rel => exact ⟨k + 1, by omega, by go_num, by rw [Hnext.out, HFe.out]⟩
          case measure => simp [intOf]; omega
        · by_cases hc : (F + s[k].toNat) % 2 = 1
          · have ht : (bits .xor .u32 (bits .and .u32 (F : Int) 1) (bits .and .u32 (s[k].toNat : Int) 1) == 1) = true := low_yes (b := s[k].toNat) hF (by omega) hc
            go_wp2
            go_round
            case rel => exact ⟨1, by omega, rfl, put_u32 (by rw [step_yes hF hc, ← HFe.out, ← CrcP.feed_snoc]; rfl)⟩
            case measure => simp [intOf]
          · have ht : (bits .xor .u32 (bits .and .u32 (F : Int) 1) (bits .and .u32 (s[k].toNat : Int) 1) == 1) = false := low_no (b := s[k].toNat) hF (by omega) hc
            go_wp2
            go_round
            case rel => exact ⟨1, by omega, rfl, put_u32 (by rw [step_no hc, ← HFe.out, ← CrcP.feed_snoc]; rfl)⟩
            case measure => simp [intOf]
        · by_cases hc : (F + (s[k].toNat / 2)) % 2 = 1
          · have ht : (bits .xor .u32 (bits .and .u32 (F : Int) 1) (bits .and .u32 ((s[k].toNat : Int) / 2) 1) == 1) = true := low_yes (b := (s[k].toNat / 2)) hF (by omega) hc
            go_wp2
            go_round
            case rel => exact ⟨2, by omega, rfl, put_u32 (by rw [step_yes hF hc, ← HFe.out, ← CrcP.feed_snoc]; rfl)⟩
            case measure => simp [intOf]
          · have ht : (bits .xor .u32 (bits .and .u32 (F : Int) 1) (bits .and .u32 ((s[k].toNat : Int) / 2) 1) == 1) = false := low_no (b := (s[k].toNat / 2)) hF (by omega) hc
            go_wp2
            go_round
            case rel => exact ⟨2, by omega, rfl, put_u32 (by rw [step_no hc, ← HFe.out, ← CrcP.feed_snoc]; rfl)⟩
            case measure => simp [intOf]
        · by_cases hc : (F + (s[k].toNat / 4)) % 2 = 1
          · have ht : (bits .xor .u32 (bits .and .u32 (F : Int) 1) (bits .and .u32 ((s[k].toNat : Int) / 4) 1) == 1) = true := low_yes (b := (s[k].toNat / 4)) hF (by omega) hc
            go_wp2
            go_round
            case rel => exact ⟨3, by omega, rfl, put_u32 (by rw [step_yes hF hc, ← HFe.out, ← CrcP.feed_snoc]; rfl)⟩
            case measure => simp [intOf]
          · have ht : (bits .xor .u32 (bits .and .u32 (F : Int) 1) (bits .and .u32 ((s[k].toNat : Int) / 4) 1) == 1) = false := low_no (b := (s[k].toNat / 4)) hF (by omega) hc
            go_wp2
            go_round
            case rel => exact ⟨3, by omega, rfl, put_u32 (by rw [step_no hc, ← HFe.out, ← CrcP.feed_snoc]; rfl)⟩
            case measure => simp [intOf]
        · by_cases hc : (F + (s[k].toNat / 8)) % 2 = 1
          · have ht : (bits .xor .u32 (bits .and .u32 (F : Int) 1) (bits .and .u32 ((s[k].toNat : Int) / 8) 1) == 1) = true := low_yes (b := (s[k].toNat / 8)) hF (by omega) hc
            go_wp2
            go_round
            case rel => exact ⟨4, by omega, rfl, put_u32 (by rw [step_yes hF hc, ← HFe.out, ← CrcP.feed_snoc]; rfl)⟩
            case measure => simp [intOf]
          · have ht : (bits .xor .u32 (bits .and .u32 (F : Int) 1) (bits .and .u32 ((s[k].toNat : Int) / 8) 1) == 1) = false := low_no (b := (s[k].toNat / 8)) hF (by omega) hc
            go_wp2
            go_round
            case rel => exact ⟨4, by omega, rfl, put_u32 (by rw [step_no hc, ← HFe.out, ← CrcP.feed_snoc]; rfl)⟩
            case measure => simp [intOf]
        · by_cases hc : (F + (s[k].toNat / 16)) % 2 = 1
          · have ht : (bits .xor .u32 (bits .and .u32 (F : Int) 1) (bits .and .u32 ((s[k].toNat : Int) / 16) 1) == 1) = true := low_yes (b := (s[k].toNat / 16)) hF (by omega) hc
            go_wp2
            go_round
            case rel => exact ⟨5, by omega, rfl, put_u32 (by rw [step_yes hF hc, ← HFe.out, ← CrcP.feed_snoc]; rfl)⟩
            case measure => simp [intOf]
          · have ht : (bits .xor .u32 (bits .and .u32 (F : Int) 1) (bits .and .u32 ((s[k].toNat : Int) / 16) 1) == 1) = false := low_no (b := (s[k].toNat / 16)) hF (by omega) hc
            go_wp2
            go_round
            case rel => exact ⟨5, by omega, rfl, put_u32 (by rw [step_no hc, ← HFe.out, ← CrcP.feed_snoc]; rfl)⟩
            case measure => simp [intOf]
        · by_cases hc : (F + (s[k].toNat / 32)) % 2 = 1
          · have ht : (bits .xor .u32 (bits .and .u32 (F : Int) 1) (bits .and .u32 ((s[k].toNat : Int) / 32) 1) == 1) = true := low_yes (b := (s[k].toNat / 32)) hF (by omega) hc
            go_wp2
            go_round
            case rel => exact ⟨6, by omega, rfl, put_u32 (by rw [step_yes hF hc, ← HFe.out, ← CrcP.feed_snoc]; rfl)⟩
            case measure => simp [intOf]
          · have ht : (bits .xor .u32 (bits .and .u32 (F : Int) 1) (bits .and .u32 ((s[k].toNat : Int) / 32) 1) == 1) = false := low_no (b := (s[k].toNat / 32)) hF (by omega) hc
            go_wp2
            go_round
            case rel => exact ⟨6, by omega, rfl, put_u32 (by rw [step_no hc, ← HFe.out, ← CrcP.feed_snoc]; rfl)⟩
            case measure => simp [intOf]
        · by_cases hc : (F + (s[k].toNat / 64)) % 2 = 1
          · have ht : (bits .xor .u32 (bits .and .u32 (F : Int) 1) (bits .and .u32 ((s[k].toNat : Int) / 64) 1) == 1) = true := low_yes (b := (s[k].toNat / 64)) hF (by omega) hc
            go_wp2
            go_round
            case rel => exact ⟨7, by omega, rfl, put_u32 (by rw [step_yes hF hc, ← HFe.out, ← CrcP.feed_snoc]; rfl)⟩
            case measure => simp [intOf]
          · have ht : (bits .xor .u32 (bits .and .u32 (F : Int) 1) (bits .and .u32 ((s[k].toNat : Int) / 64) 1) == 1) = false := low_no (b := (s[k].toNat / 64)) hF (by omega) hc
            go_wp2
            go_round
            case rel => exact ⟨7, by omega, rfl, put_u32 (by rw [step_no hc, ← HFe.out, ← CrcP.feed_snoc]; rfl)⟩
            case measure => simp [intOf]
        · by_cases hc : (F + (s[k].toNat / 128)) % 2 = 1
          · have ht : (bits .xor .u32 (bits .and .u32 (F : Int) 1) (bits .and .u32 ((s[k].toNat : Int) / 128) 1) == 1) = true := low_yes (b := (s[k].toNat / 128)) hF (by omega) hc
            go_wp2
            go_round
            case rel => exact ⟨8, by omega, rfl, put_u32 (by rw [step_yes hF hc, ← HFe.out, ← CrcP.feed_snoc]; rfl)⟩
            case measure => simp [intOf]
          · have ht : (bits .xor .u32 (bits .and .u32 (F : Int) 1) (bits .and .u32 ((s[k].toNat : Int) / 128) 1) == 1) = false := low_no (b := (s[k].toNat / 128)) hF (by omega) hc
            go_wp2
            go_round
            case rel => exact ⟨8, by omega, rfl, put_u32 (by rw [step_no hc, ← HFe.out, ← CrcP.feed_snoc]; rfl)⟩
            case measure => simp [intOf]
    · have hn := xor_all _ hr
      go_wp2
      go_ret
      exact ⟨ret_u32 (by unfold CrcP.sumN; rw [List.take_of_length_le (by simp; omega)]), rfl⟩
end Go.Proofs.YthnnenhpcceckaaGreat.Ct
