/-
  THE WALKS OF bits.whole, float, flag, AND OF THE TAPE'S FIVE READING CALLS.
-/
import Derived.Test.YtgenefamhhncbaaBTake
import Derived.Test.YtgenefamhhncbaaBReals
namespace Go.Proofs.Ytgenefamhhncbaa.Bt
open Go.RowKit
/-- a whole number at the front -/
def rdInt (l : List UInt8) : Int × Nat × Int := (unz (rdNum l).1, (rdNum l).2.1, (rdNum l).2.2)
theorem whole_any (s : ByteArray) (hs : s.size ≤ 9223372036854775807) (w : World) :
    Calls Try.prog 86 #[.string s] w fun e w' => e = .returned (.tuple #[.int .i64 (rdInt s.data.toList).1, .int .i64 (rdInt s.data.toList).2.1, .int .i64 (rdInt s.data.toList).2.2]) ∧ w = w' := by
  unfold rdInt
  have hf := (rdNum_facts s.data.toList).1
  have H := Lib.hid (fun w => number_any s hs w)
  generalize rdNum s.data.toList = R at *
  obtain ⟨N, K, E⟩ := R
  go_enter Try.func86, Try.ntmps86
  go_wp2_with fail
  refine (H.out _).mono ?_
  rintro e w1 ⟨rfl, rfl⟩
  go_wp2_with fail
  refine (unfold_any N hf _).mono ?_
  rintro e w1 ⟨rfl, rfl⟩
  go_wp2_with fail
  go_ret3
  exact ⟨rfl, rfl⟩
/-- a flag at the front -/
def rdFlag : List UInt8 → Bool × Nat × Int
  | [] => (false, 0, 5)
  | b :: _ => if 1 < b.toNat then (false, 0, 3) else ((b.toNat : Int) == 1, 1, 0)
/-- a real number at the front -/
def rdReal (l : List UInt8) : Nat × Nat × Int :=
  if l.length < 8 then (0, 0, 5) else if codeN (joinN (l.take 8)) ≠ joinN (l.take 8) then (0, 0, 3) else (joinN (l.take 8), 8, 0)
theorem float_any (s : ByteArray) (hs : s.size ≤ 9223372036854775807) (w : World) :
    Calls Try.prog 88 #[.string s] w fun e w' => e = .returned (.tuple #[.float .f64 (rdReal s.data.toList).1, .int .i64 (rdReal s.data.toList).2.1, .int .i64 (rdReal s.data.toList).2.2]) ∧ w = w' := by
  have hfb := run_frombits
  by_cases h0 : s.size < 8
  · have hR : rdReal s.data.toList = (0, 0, 5) := by unfold rdReal; rw [if_pos (by rw [← Lib.size_eq]; exact h0)]
    rw [hR]
    clear hR
    go_enter Try.func88, Try.ntmps88
    go_wp2_with fail
    go_ret3
    exact ⟨rfl, rfl⟩
  · have hj := joinN_u64 (s.data.toList.take 8) (by rw [List.length_take]; omega)
    have hx : (s.extract 0 8).data.toList = s.data.toList.take 8 := by rw [Lib.extract_data]; simp
    have hjoin := Lib.hid (fun w => join_any (s.extract 0 8) (by simp; omega) w)
    rw [hx] at hjoin
    clear hx
    have hR : rdReal s.data.toList = if codeN (joinN (s.data.toList.take 8)) ≠ joinN (s.data.toList.take 8) then (0, 0, 3) else (joinN (s.data.toList.take 8), 8, 0) := by unfold rdReal; rw [if_neg (by rw [← Lib.size_eq]; exact h0)]
    generalize joinN (s.data.toList.take 8) = J at *
    by_cases hc : codeN J = J
    · rw [if_neg (by simpa using hc)] at hR
      rw [hR]
      clear hR
      have hcb : (((codeN J : Nat) : Int) != (J : Int)) = false := by rw [hc]; simp
      have Hc := Lib.hid hc
      clear hc
      go_enter Try.func88, Try.ntmps88
      go_wp2_with fail
      refine (hjoin.out _).mono ?_
      rintro e w1 ⟨rfl, rfl⟩
      go_wp2_with fail
      refine (code_any _ _).mono ?_
      rintro e w1 ⟨rfl, rfl⟩
      go_wp2_with fail
      go_ret3
      exact ⟨rfl, rfl⟩
    · rw [if_pos (by simpa using hc)] at hR
      rw [hR]
      clear hR
      have hcb : (((codeN J : Nat) : Int) != (J : Int)) = true := by simp; omega
      go_enter Try.func88, Try.ntmps88
      go_wp2_with fail
      refine (hjoin.out _).mono ?_
      rintro e w1 ⟨rfl, rfl⟩
      go_wp2_with fail
      refine (code_any _ _).mono ?_
      rintro e w1 ⟨rfl, rfl⟩
      go_wp2_with fail
      go_ret3
      exact ⟨rfl, rfl⟩

/-- what a call of a tape answers, what is left, and the error: r is what stands at the front -/
def tk {α : Type} (z : α) (s : ByteArray) (e : Int) (r : α × Nat × Int) : α × ByteArray × Int :=
  if e ≠ 0 then (z, s, e) else if r.2.2 ≠ 0 then (z, s, r.2.2) else (r.1, s.extract r.2.1 s.size, 0)
theorem tk_stays {α : Type} (z : α) (s : ByteArray) {e : Int} (r : α × Nat × Int) (he : e ≠ 0) : tk z s e r = (z, s, e) := by unfold tk; rw [if_pos he]
theorem tk_bad {α : Type} (z : α) (s : ByteArray) (v : α) (k : Nat) {e : Int} (he : e ≠ 0) : tk z s 0 (v, k, e) = (z, s, e) := by unfold tk; rw [if_neg (by simp), if_pos he]
theorem tk_ok {α : Type} (z : α) (s : ByteArray) (v : α) (k : Nat) : tk z s 0 (v, k, 0) = (v, s.extract k s.size, 0) := by unfold tk; rw [if_neg (by simp), if_neg (by simp)]
theorem grownBy_refl (w : World) (r : Option Nat) : w.grownBy w r := ⟨rfl, rfl, rfl, Nat.le_refl _, fun _ _ _ => rfl⟩
theorem rdInt_le (s : ByteArray) : (rdInt s.data.toList).2.1 ≤ s.size := by
  have := (rdNum_facts s.data.toList).2.1
  rw [← Lib.size_eq] at this; exact this
theorem rdNum_le (s : ByteArray) : (rdNum s.data.toList).2.1 ≤ s.size := by
  have := (rdNum_facts s.data.toList).2.1
  rw [← Lib.size_eq] at this; exact this
theorem rdReal_le (s : ByteArray) : (rdReal s.data.toList).2.1 ≤ s.size := by
  rw [Lib.size_eq]
  unfold rdReal
  split
  · exact Nat.zero_le _
  · split
    · exact Nat.zero_le _
    · show 8 ≤ _; omega
theorem rdFlag_le (s : ByteArray) : (rdFlag s.data.toList).2.1 ≤ s.size := by
  rw [Lib.size_eq]
  match s.data.toList with
  | [] => exact Nat.zero_le _
  | b :: t =>
    simp only [rdFlag]
    split
    · exact Nat.zero_le _
    · simp

/-- the value that a tape's Num answers -/
def vNum (x : Nat × ByteArray × Int) : Value := .int .u64 (x.1 : Int)
/-- what a tape's Num makes of it -/
def tNum (s : ByteArray) (e : Int) : Nat × ByteArray × Int := tk 0 s e (rdNum s.data.toList)
theorem tapeNum_core {w : World} {b : Nat} {s : ByteArray} {e : Int} (h : TapeAt w b s e) (hs : s.size ≤ 281474976710656) :
    Calls Try.prog 60 #[.pointer (some ⟨b, 0, none⟩), .func (.func 61) #[] #[]] w fun r w' => r = .returned (vNum (tNum s e)) ∧ w.grownBy w' (some b) ∧ TapeAt w' b (tNum s e).2.1 (tNum s e).2.2 := by
  unfold tNum
  by_cases he : e = 0
  · subst he
    have hf := rdNum_le s
    have hnum := number_any s (by omega) w
    rcases hR : rdNum s.data.toList with ⟨v, k, e⟩
    rw [hR] at hf hnum
    by_cases he : e = 0
    · subst he
      rw [tk_ok]
      exact takeNum_ok v k h hf (hnum.mono fun r w' ⟨hr, hw⟩ => ⟨hr, hw ▸ Below.refl _ _⟩)
    · rw [tk_bad _ _ _ _ he]
      exact takeNum_bad v k e h he (hnum.mono fun r w' ⟨hr, hw⟩ => ⟨hr, hw ▸ Below.refl _ _⟩)
  · rw [tk_stays _ _ _ he]
    exact (takeNum_stays _ h he).mono fun r w' ⟨hr, hw⟩ => ⟨hr, hw ▸ grownBy_refl _ _, hw ▸ h⟩
theorem tapeNum_any {w : World} {b : Nat} {s : ByteArray} {e : Int} (h : TapeAt w b s e) (hs : s.size ≤ 281474976710656) :
    Calls Try.prog 41 #[.pointer (some ⟨b, 0, none⟩)] w fun r w' => r = .returned (vNum (tNum s e)) ∧ w.grownBy w' (some b) ∧ TapeAt w' b (tNum s e).2.1 (tNum s e).2.2 := by
  have H := Lib.hid (tapeNum_core h hs)
  go_enter Try.func41, Try.ntmps41
  go_wp2_with fail
  refine H.out.mono ?_
  rintro r w1 ⟨rfl, hb⟩
  go_wp2_with fail
  go_ret
  exact ⟨rfl, hb⟩
theorem tapeNum_nil (w : World) : Calls Try.prog 41 #[.pointer none] w fun r w' => r = .returned (.int .u64 0) ∧ w = w' := by
  go_enter Try.func41, Try.ntmps41
  go_wp2_with fail
  refine (takeNum_nil _ _).mono ?_
  rintro r w1 ⟨rfl, rfl⟩
  go_wp2_with fail
  go_ret
  exact ⟨rfl, rfl⟩

/-- the value that a tape's Int answers -/
def vInt (x : Int × ByteArray × Int) : Value := .int .i64 x.1
/-- what a tape's Int makes of it -/
def tInt (s : ByteArray) (e : Int) : Int × ByteArray × Int := tk 0 s e (rdInt s.data.toList)
theorem tapeInt_core {w : World} {b : Nat} {s : ByteArray} {e : Int} (h : TapeAt w b s e) (hs : s.size ≤ 281474976710656) :
    Calls Try.prog 85 #[.pointer (some ⟨b, 0, none⟩), .func (.func 86) #[] #[]] w fun r w' => r = .returned (vInt (tInt s e)) ∧ w.grownBy w' (some b) ∧ TapeAt w' b (tInt s e).2.1 (tInt s e).2.2 := by
  unfold tInt
  by_cases he : e = 0
  · subst he
    have hf := rdInt_le s
    have hnum := whole_any s (by omega) w
    rcases hR : rdInt s.data.toList with ⟨v, k, e⟩
    rw [hR] at hf hnum
    by_cases he : e = 0
    · subst he
      rw [tk_ok]
      exact takeInt_ok v k h hf (hnum.mono fun r w' ⟨hr, hw⟩ => ⟨hr, hw ▸ Below.refl _ _⟩)
    · rw [tk_bad _ _ _ _ he]
      exact takeInt_bad v k e h he (hnum.mono fun r w' ⟨hr, hw⟩ => ⟨hr, hw ▸ Below.refl _ _⟩)
  · rw [tk_stays _ _ _ he]
    exact (takeInt_stays _ h he).mono fun r w' ⟨hr, hw⟩ => ⟨hr, hw ▸ grownBy_refl _ _, hw ▸ h⟩
theorem tapeInt_any {w : World} {b : Nat} {s : ByteArray} {e : Int} (h : TapeAt w b s e) (hs : s.size ≤ 281474976710656) :
    Calls Try.prog 65 #[.pointer (some ⟨b, 0, none⟩)] w fun r w' => r = .returned (vInt (tInt s e)) ∧ w.grownBy w' (some b) ∧ TapeAt w' b (tInt s e).2.1 (tInt s e).2.2 := by
  have H := Lib.hid (tapeInt_core h hs)
  go_enter Try.func65, Try.ntmps65
  go_wp2_with fail
  refine H.out.mono ?_
  rintro r w1 ⟨rfl, hb⟩
  go_wp2_with fail
  go_ret
  exact ⟨rfl, hb⟩
theorem tapeInt_nil (w : World) : Calls Try.prog 65 #[.pointer none] w fun r w' => r = .returned (.int .i64 0) ∧ w = w' := by
  go_enter Try.func65, Try.ntmps65
  go_wp2_with fail
  refine (takeInt_nil _ _).mono ?_
  rintro r w1 ⟨rfl, rfl⟩
  go_wp2_with fail
  go_ret
  exact ⟨rfl, rfl⟩

/-- the value that a tape's Real answers -/
def vReal (x : Nat × ByteArray × Int) : Value := .float .f64 x.1
/-- what a tape's Real makes of it -/
def tReal (s : ByteArray) (e : Int) : Nat × ByteArray × Int := tk 0 s e (rdReal s.data.toList)
theorem tapeReal_core {w : World} {b : Nat} {s : ByteArray} {e : Int} (h : TapeAt w b s e) (hs : s.size ≤ 281474976710656) :
    Calls Try.prog 87 #[.pointer (some ⟨b, 0, none⟩), .func (.func 88) #[] #[]] w fun r w' => r = .returned (vReal (tReal s e)) ∧ w.grownBy w' (some b) ∧ TapeAt w' b (tReal s e).2.1 (tReal s e).2.2 := by
  unfold tReal
  by_cases he : e = 0
  · subst he
    have hf := rdReal_le s
    have hnum := float_any s (by omega) w
    rcases hR : rdReal s.data.toList with ⟨v, k, e⟩
    rw [hR] at hf hnum
    by_cases he : e = 0
    · subst he
      rw [tk_ok]
      exact takeReal_ok v k h hf (hnum.mono fun r w' ⟨hr, hw⟩ => ⟨hr, hw ▸ Below.refl _ _⟩)
    · rw [tk_bad _ _ _ _ he]
      exact takeReal_bad v k e h he (hnum.mono fun r w' ⟨hr, hw⟩ => ⟨hr, hw ▸ Below.refl _ _⟩)
  · rw [tk_stays _ _ _ he]
    exact (takeReal_stays _ h he).mono fun r w' ⟨hr, hw⟩ => ⟨hr, hw ▸ grownBy_refl _ _, hw ▸ h⟩
theorem tapeReal_any {w : World} {b : Nat} {s : ByteArray} {e : Int} (h : TapeAt w b s e) (hs : s.size ≤ 281474976710656) :
    Calls Try.prog 66 #[.pointer (some ⟨b, 0, none⟩)] w fun r w' => r = .returned (vReal (tReal s e)) ∧ w.grownBy w' (some b) ∧ TapeAt w' b (tReal s e).2.1 (tReal s e).2.2 := by
  have H := Lib.hid (tapeReal_core h hs)
  go_enter Try.func66, Try.ntmps66
  go_wp2_with fail
  refine H.out.mono ?_
  rintro r w1 ⟨rfl, hb⟩
  go_wp2_with fail
  go_ret
  exact ⟨rfl, hb⟩
theorem tapeReal_nil (w : World) : Calls Try.prog 66 #[.pointer none] w fun r w' => r = .returned (.float .f64 0) ∧ w = w' := by
  go_enter Try.func66, Try.ntmps66
  go_wp2_with fail
  refine (takeReal_nil _ _).mono ?_
  rintro r w1 ⟨rfl, rfl⟩
  go_wp2_with fail
  go_ret
  exact ⟨rfl, rfl⟩

/-- the value that a tape's Flag answers -/
def vFlag (x : Bool × ByteArray × Int) : Value := .bool x.1
/-- what a tape's Flag makes of it -/
def tFlag (s : ByteArray) (e : Int) : Bool × ByteArray × Int := tk false s e (rdFlag s.data.toList)
/-- the closure of Text: it reads the bound where it lies -/
theorem how_text {w : World} {m : Addr} {most : Int} (hm : w.cell? m = some (.int .i64 most)) (s : ByteArray) (hs : s.size ≤ 281474976710656) (h0 : -9223372036854775808 ≤ most) (h1 : most ≤ 9223372036854775807) :
    Calls Try.prog 63 #[.string s, .pointer (some m)] w fun e w' => e = .returned (txtR (rdText s most)) ∧ Below w.heap.size w w' := by
  go_enter Try.func63, Try.ntmps63
  go_wp2_with fail
  refine (rdtext_any s hs most h0 h1 _).mono ?_
  rintro e w1 ⟨rfl, hb⟩
  unfold txtR
  go_wp2_with fail
  go_ret3
  exact ⟨rfl, hb⟩
theorem rdText_le (s : ByteArray) (most : Int) : (rdText s most).2.1 ≤ s.size := by
  have h := rdNum_le s
  rcases hR : rdNum s.data.toList with ⟨N, K, E⟩
  rw [rdText_eq s most hR]
  rw [hR] at h
  split
  · exact Nat.zero_le _
  · split
    · exact Nat.zero_le _
    · split
      · exact Nat.zero_le _
      · simp only at *; omega
def vText (x : ByteArray × ByteArray × Int) : Value := .string x.1
/-- what a tape's Text makes of it -/
def tText (s : ByteArray) (e : Int) (most : Int) : ByteArray × ByteArray × Int := tk ⟨#[]⟩ s e (rdText s most)
theorem tapeText_core {w : World} {b : Nat} {s : ByteArray} {e : Int} (h : TapeAt w b s e) {m : Addr} {most : Int} (hm : w.cell? m = some (.int .i64 most)) (hs : s.size ≤ 281474976710656) (h0 : -9223372036854775808 ≤ most) (h1 : most ≤ 9223372036854775807) :
    Calls Try.prog 62 #[.pointer (some ⟨b, 0, none⟩), .func (.func 63) #[] #[.pointer (some m)]] w fun r w' => r = .returned (vText (tText s e most)) ∧ w.grownBy w' (some b) ∧ TapeAt w' b (tText s e most).2.1 (tText s e most).2.2 := by
  unfold tText
  by_cases he : e = 0
  · subst he
    have hf := rdText_le s most
    have hnum := how_text hm s hs h0 h1
    rcases hR : rdText s most with ⟨v, k, e⟩
    rw [hR] at hf hnum
    by_cases he : e = 0
    · subst he
      rw [tk_ok]
      exact takeText_ok v k h hf hnum
    · rw [tk_bad _ _ _ _ he]
      exact takeText_bad v k e h he hnum
  · rw [tk_stays _ _ _ he]
    exact (takeText_stays _ h he).mono fun r w' ⟨hr, hw⟩ => ⟨hr, hw ▸ grownBy_refl _ _, hw ▸ h⟩
theorem tapeText_any {w : World} {b : Nat} {s : ByteArray} {e : Int} (h : TapeAt w b s e) {most : Int} (hs : s.size ≤ 281474976710656) (h0 : -9223372036854775808 ≤ most) (h1 : most ≤ 9223372036854775807) :
    Calls Try.prog 42 #[.pointer (some ⟨b, 0, none⟩), .int .i64 most] w fun r w' => r = .returned (vText (tText s e most)) ∧ w.grownBy w' (some b) ∧ TapeAt w' b (tText s e most).2.1 (tText s e most).2.2 := by
  have hmf : ∀ (fn : Fn) (first cap : Array Value) (w : World), (Instr.makeFunc fn first cap).run Try.prog w = .ok (.func fn first cap) w := fun _ _ _ _ => rfl
  have hb0 : Below w.heap.size w (w.alloc (.cells #[.int .i64 most] 3)) := (Below.refl _ _).alloc (Nat.le_refl _) _
  have hm : (w.alloc (.cells #[.int .i64 most] 3)).cell? ⟨w.heap.size, 0, none⟩ = some (.int .i64 most) := by rw [World.cell?_alloc_new]; rfl
  have H := Lib.hid (tapeText_core (h.next hb0) hm hs h0 h1)
  clear hm
  go_enter Try.func42, Try.ntmps42
  go_wp2_with fail
  refine H.out.mono ?_
  rintro r w1 ⟨rfl, hg, ht⟩
  go_wp2_with fail
  go_ret
  exact ⟨rfl, ⟨hg.os.trans hb0.os, hg.tape.trans hb0.tape, hg.output.trans hb0.output, Nat.le_trans hb0.size hg.size, fun k hk hne => (hg.block k (by simp; omega) hne).trans (hb0.block k hk)⟩, ht⟩
theorem tapeText_nil (w : World) (most : Int) : Calls Try.prog 42 #[.pointer none, .int .i64 most] w fun r w' => r = .returned (.string ⟨#[]⟩) ∧ Below w.heap.size w w' := by
  have hmf : ∀ (fn : Fn) (first cap : Array Value) (w : World), (Instr.makeFunc fn first cap).run Try.prog w = .ok (.func fn first cap) w := fun _ _ _ _ => rfl
  go_enter Try.func42, Try.ntmps42
  go_wp2_with fail
  refine (takeText_nil _ _).mono ?_
  rintro r w1 ⟨rfl, rfl⟩
  go_wp2_with fail
  go_ret
  exact ⟨rfl, (Below.refl _ _).alloc (Nat.le_refl _) _⟩
end Go.Proofs.Ytgenefamhhncbaa.Bt
