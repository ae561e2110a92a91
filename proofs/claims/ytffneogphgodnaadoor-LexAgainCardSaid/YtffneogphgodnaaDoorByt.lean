/-
  BYTES OF TOKENS: lex.blank, letter, digit, inWord, inText, inBits, and the document's own.
-/
import Derived.Test.YtffneogphgodnaaDoorShelf
import Derived.WalkKit
import Derived.WalkSpells
import Derived.WalkLawsBesides
import Derived.LoopTactic
import Derived.Handy
import Derived.Lib.Hide
import Derived.IntWalk
import Derived.OwnWalk
import Derived.Below
namespace Go.Proofs.YtffneogphgodnaaDoor
open Go.RowKit
theorem ret_bool {a b : Bool} (h : a = b) : Ending.returned (.bool a) = .returned (.bool b) := by rw [h]
theorem ret_int {k : IntKind} {a b : Int} (h : a = b) : Ending.returned (.int k a) = .returned (.int k b) := by rw [h]
def lettB (b : Int) : Bool := decide (97 ≤ b) && decide (b ≤ 122)
def digB (b : Int) : Bool := decide (48 ≤ b) && decide (b ≤ 57)
def blankB (b : Int) : Bool := decide (b = 32) || decide (b = 9) || decide (b = 10) || decide (b = 13)
def wordB (b : Int) : Bool := lettB b || digB b || decide (b = 95)
def textB (b : Int) : Bool := !decide (b = 39) && (!decide (b = 10) && !decide (b = 13))
def hexB (b : Int) : Bool := digB b || (decide (97 ≤ b) && decide (b ≤ 102))
theorem letter_any (b : Int) (w : World) : Calls Tryd.prog 13 #[.int .u8 b] w fun e w' => e = .returned (.bool (lettB b)) ∧ w = w' := by
  unfold lettB
  by_cases h1 : 97 ≤ b
  · by_cases h2 : b ≤ 122
    · rw [decide_eq_true h1, decide_eq_true h2]
      go_enter Tryd.func13, Tryd.ntmps13
      go_wp2_with fail
      go_ret
      exact ⟨ret_bool (by simp), rfl⟩
    · rw [decide_eq_true h1, decide_eq_false h2]
      have h3 : 122 < b := by omega
      go_enter Tryd.func13, Tryd.ntmps13
      go_wp2_with fail
      go_ret
      exact ⟨ret_bool (by simp), rfl⟩
  · rw [decide_eq_false h1]
    have h3 : b < 97 := by omega
    go_enter Tryd.func13, Tryd.ntmps13
    go_wp2_with fail
    go_ret
    exact ⟨rfl, rfl⟩
theorem digit_any (b : Int) (w : World) : Calls Tryd.prog 15 #[.int .u8 b] w fun e w' => e = .returned (.bool (digB b)) ∧ w = w' := by
  unfold digB
  by_cases h1 : 48 ≤ b
  · by_cases h2 : b ≤ 57
    · rw [decide_eq_true h1, decide_eq_true h2]
      go_enter Tryd.func15, Tryd.ntmps15
      go_wp2_with fail
      go_ret
      exact ⟨ret_bool (by simp), rfl⟩
    · rw [decide_eq_true h1, decide_eq_false h2]
      have h3 : 57 < b := by omega
      go_enter Tryd.func15, Tryd.ntmps15
      go_wp2_with fail
      go_ret
      exact ⟨ret_bool (by simp), rfl⟩
  · rw [decide_eq_false h1]
    have h3 : b < 48 := by omega
    go_enter Tryd.func15, Tryd.ntmps15
    go_wp2_with fail
    go_ret
    exact ⟨rfl, rfl⟩
theorem small_any (b : Int) (w : World) : Calls Tryd.prog 32 #[.int .u8 b] w fun e w' => e = .returned (.bool (lettB b)) ∧ w = w' := by
  unfold lettB
  by_cases h1 : 97 ≤ b
  · by_cases h2 : b ≤ 122
    · rw [decide_eq_true h1, decide_eq_true h2]
      go_enter Tryd.func32, Tryd.ntmps32
      go_wp2_with fail
      go_ret
      exact ⟨ret_bool (by simp), rfl⟩
    · rw [decide_eq_true h1, decide_eq_false h2]
      have h3 : 122 < b := by omega
      go_enter Tryd.func32, Tryd.ntmps32
      go_wp2_with fail
      go_ret
      exact ⟨ret_bool (by simp), rfl⟩
  · rw [decide_eq_false h1]
    have h3 : b < 97 := by omega
    go_enter Tryd.func32, Tryd.ntmps32
    go_wp2_with fail
    go_ret
    exact ⟨rfl, rfl⟩
theorem rdigit_any (b : Int) (w : World) : Calls Tryd.prog 33 #[.int .u8 b] w fun e w' => e = .returned (.bool (digB b)) ∧ w = w' := by
  unfold digB
  by_cases h1 : 48 ≤ b
  · by_cases h2 : b ≤ 57
    · rw [decide_eq_true h1, decide_eq_true h2]
      go_enter Tryd.func33, Tryd.ntmps33
      go_wp2_with fail
      go_ret
      exact ⟨ret_bool (by simp), rfl⟩
    · rw [decide_eq_true h1, decide_eq_false h2]
      have h3 : 57 < b := by omega
      go_enter Tryd.func33, Tryd.ntmps33
      go_wp2_with fail
      go_ret
      exact ⟨ret_bool (by simp), rfl⟩
  · rw [decide_eq_false h1]
    have h3 : b < 48 := by omega
    go_enter Tryd.func33, Tryd.ntmps33
    go_wp2_with fail
    go_ret
    exact ⟨rfl, rfl⟩
theorem blank_any (b : Int) (w : World) : Calls Tryd.prog 12 #[.int .u8 b] w fun e w' => e = .returned (.bool (blankB b)) ∧ w = w' := by
  unfold blankB
  by_cases h32 : b = 32
  · subst h32
    go_enter Tryd.func12, Tryd.ntmps12
    go_wp2_with fail
    go_ret
    exact ⟨ret_bool (by decide), rfl⟩
  by_cases h9 : b = 9
  · subst h9
    go_enter Tryd.func12, Tryd.ntmps12
    go_wp2_with fail
    go_ret
    exact ⟨ret_bool (by decide), rfl⟩
  by_cases h10 : b = 10
  · subst h10
    go_enter Tryd.func12, Tryd.ntmps12
    go_wp2_with fail
    go_ret
    exact ⟨ret_bool (by decide), rfl⟩
  by_cases h13 : b = 13
  · subst h13
    go_enter Tryd.func12, Tryd.ntmps12
    go_wp2_with fail
    go_ret
    exact ⟨ret_bool (by decide), rfl⟩
  rw [decide_eq_false h32]
  have d32 : (b == 32) = false := by simpa using h32
  have e32 : (b != 32) = true := by simpa using h32
  rw [decide_eq_false h9]
  have d9 : (b == 9) = false := by simpa using h9
  have e9 : (b != 9) = true := by simpa using h9
  rw [decide_eq_false h10]
  have d10 : (b == 10) = false := by simpa using h10
  have e10 : (b != 10) = true := by simpa using h10
  rw [decide_eq_false h13]
  have d13 : (b == 13) = false := by simpa using h13
  have e13 : (b != 13) = true := by simpa using h13
  clear h32 h9 h10 h13
  go_enter Tryd.func12, Tryd.ntmps12
  go_wp2_with fail
  go_ret
  exact ⟨ret_bool (by simp), rfl⟩
theorem rblank_any (b : Int) (w : World) : Calls Tryd.prog 20 #[.int .u8 b] w fun e w' => e = .returned (.bool (blankB b)) ∧ w = w' := by
  unfold blankB
  by_cases h32 : b = 32
  · subst h32
    go_enter Tryd.func20, Tryd.ntmps20
    go_wp2_with fail
    go_ret
    exact ⟨ret_bool (by decide), rfl⟩
  by_cases h9 : b = 9
  · subst h9
    go_enter Tryd.func20, Tryd.ntmps20
    go_wp2_with fail
    go_ret
    exact ⟨ret_bool (by decide), rfl⟩
  by_cases h10 : b = 10
  · subst h10
    go_enter Tryd.func20, Tryd.ntmps20
    go_wp2_with fail
    go_ret
    exact ⟨ret_bool (by decide), rfl⟩
  by_cases h13 : b = 13
  · subst h13
    go_enter Tryd.func20, Tryd.ntmps20
    go_wp2_with fail
    go_ret
    exact ⟨ret_bool (by decide), rfl⟩
  rw [decide_eq_false h32]
  have d32 : (b == 32) = false := by simpa using h32
  have e32 : (b != 32) = true := by simpa using h32
  rw [decide_eq_false h9]
  have d9 : (b == 9) = false := by simpa using h9
  have e9 : (b != 9) = true := by simpa using h9
  rw [decide_eq_false h10]
  have d10 : (b == 10) = false := by simpa using h10
  have e10 : (b != 10) = true := by simpa using h10
  rw [decide_eq_false h13]
  have d13 : (b == 13) = false := by simpa using h13
  have e13 : (b != 13) = true := by simpa using h13
  clear h32 h9 h10 h13
  go_enter Tryd.func20, Tryd.ntmps20
  go_wp2_with fail
  go_ret
  exact ⟨ret_bool (by simp), rfl⟩
theorem intext_any (b : Int) (w : World) : Calls Tryd.prog 27 #[.int .u8 b] w fun e w' => e = .returned (.bool (textB b)) ∧ w = w' := by
  unfold textB
  by_cases h39 : b = 39
  · subst h39
    go_enter Tryd.func27, Tryd.ntmps27
    go_wp2_with fail
    go_ret
    exact ⟨ret_bool (by decide), rfl⟩
  by_cases h10 : b = 10
  · subst h10
    go_enter Tryd.func27, Tryd.ntmps27
    go_wp2_with fail
    go_ret
    exact ⟨ret_bool (by decide), rfl⟩
  by_cases h13 : b = 13
  · subst h13
    go_enter Tryd.func27, Tryd.ntmps27
    go_wp2_with fail
    go_ret
    exact ⟨ret_bool (by decide), rfl⟩
  rw [decide_eq_false h39]
  have d39 : (b == 39) = false := by simpa using h39
  have e39 : (b != 39) = true := by simpa using h39
  rw [decide_eq_false h10]
  have d10 : (b == 10) = false := by simpa using h10
  have e10 : (b != 10) = true := by simpa using h10
  rw [decide_eq_false h13]
  have d13 : (b == 13) = false := by simpa using h13
  have e13 : (b != 13) = true := by simpa using h13
  clear h39 h10 h13
  go_enter Tryd.func27, Tryd.ntmps27
  go_wp2_with fail
  go_ret
  exact ⟨ret_bool (by simp), rfl⟩
theorem inword_any (b : Int) (w : World) : Calls Tryd.prog 24 #[.int .u8 b] w fun e w' => e = .returned (.bool (wordB b)) ∧ w = w' := by
  have L := Lib.hid (letter_any b)
  have D := Lib.hid (digit_any b)
  unfold wordB
  generalize lettB b = x at *
  generalize digB b = y at *
  cases x
  · cases y
    · by_cases h : b = 95
      · subst h
        go_enter Tryd.func24, Tryd.ntmps24
        go_wp2_with fail
        refine (L.out _).mono ?_
        rintro e w1 ⟨rfl, rfl⟩
        go_wp2_with fail
        refine (D.out _).mono ?_
        rintro e w2 ⟨rfl, rfl⟩
        go_wp2_with fail
        go_ret
        exact ⟨ret_bool (by decide), rfl⟩
      · rw [decide_eq_false h]
        have d : (b == 95) = false := by simpa using h
        clear h
        go_enter Tryd.func24, Tryd.ntmps24
        go_wp2_with fail
        refine (L.out _).mono ?_
        rintro e w1 ⟨rfl, rfl⟩
        go_wp2_with fail
        refine (D.out _).mono ?_
        rintro e w2 ⟨rfl, rfl⟩
        go_wp2_with fail
        go_ret
        exact ⟨ret_bool (by simp), rfl⟩
    · go_enter Tryd.func24, Tryd.ntmps24
      go_wp2_with fail
      refine (L.out _).mono ?_
      rintro e w1 ⟨rfl, rfl⟩
      go_wp2_with fail
      refine (D.out _).mono ?_
      rintro e w2 ⟨rfl, rfl⟩
      go_wp2_with fail
      go_ret
      exact ⟨ret_bool (by simp), rfl⟩
  · go_enter Tryd.func24, Tryd.ntmps24
    go_wp2_with fail
    refine (L.out _).mono ?_
    rintro e w1 ⟨rfl, rfl⟩
    go_wp2_with fail
    go_ret
    exact ⟨ret_bool (by simp), rfl⟩
theorem inbits_any (b : Int) (w : World) : Calls Tryd.prog 29 #[.int .u8 b] w fun e w' => e = .returned (.bool (hexB b)) ∧ w = w' := by
  have D := Lib.hid (digit_any b)
  unfold hexB
  generalize digB b = y at *
  cases y
  · by_cases h1 : 97 ≤ b
    · by_cases h2 : b ≤ 102
      · rw [decide_eq_true h1, decide_eq_true h2]
        go_enter Tryd.func29, Tryd.ntmps29
        go_wp2_with fail
        refine (D.out _).mono ?_
        rintro e w1 ⟨rfl, rfl⟩
        go_wp2_with fail
        go_ret
        exact ⟨ret_bool (by simp), rfl⟩
      · rw [decide_eq_true h1, decide_eq_false h2]
        have h3 : 102 < b := by omega
        go_enter Tryd.func29, Tryd.ntmps29
        go_wp2_with fail
        refine (D.out _).mono ?_
        rintro e w1 ⟨rfl, rfl⟩
        go_wp2_with fail
        go_ret
        exact ⟨ret_bool (by simp; omega), rfl⟩
    · rw [decide_eq_false h1]
      have h3 : b < 97 := by omega
      go_enter Tryd.func29, Tryd.ntmps29
      go_wp2_with fail
      refine (D.out _).mono ?_
      rintro e w1 ⟨rfl, rfl⟩
      go_wp2_with fail
      go_ret
      exact ⟨ret_bool (by simp), rfl⟩
  · go_enter Tryd.func29, Tryd.ntmps29
    go_wp2_with fail
    refine (D.out _).mono ?_
    rintro e w1 ⟨rfl, rfl⟩
    go_wp2_with fail
    go_ret
    exact ⟨ret_bool (by simp), rfl⟩
/-- how many bytes at the front are of a sort -/
def spanN (p : Int → Bool) (l : List UInt8) : Nat := (l.takeWhile fun c => p (c.toNat : Int)).length
def bl (s : ByteArray) : List UInt8 := s.data.toList
theorem bl_len (s : ByteArray) : (bl s).length = s.size := by unfold bl; rw [Array.length_toList]; rfl
theorem bl_at (s : ByteArray) (k : Nat) (h : k < s.size) : (bl s)[k]'(by rw [bl_len]; exact h) = s[k] := by unfold bl; simp; rfl
theorem spanN_le (p : Int → Bool) (l : List UInt8) : spanN p l ≤ l.length := (List.takeWhile_sublist _).length_le
theorem span_stop {p : Int → Bool} : ∀ {l : List UInt8} {k : Nat} (h : k < l.length), (∀ j (hj : j < k), p ((l[j]'(by omega)).toNat : Int) = true) → p (l[k].toNat : Int) = false → spanN p l = k
  | c :: l, 0, _, _, hk => by
    unfold spanN
    simp only [List.getElem_cons_zero] at hk
    rw [List.takeWhile_cons, hk]; rfl
  | c :: l, k + 1, h, ha, hk => by
    have h0 := ha 0 (by omega)
    simp only [List.getElem_cons_zero] at h0
    have ih := span_stop (l := l) (k := k) (by simpa using h) (fun j hj => by have := ha (j + 1) (by omega); simpa using this) (by simpa using hk)
    unfold spanN at ih ⊢
    rw [List.takeWhile_cons, h0]
    simp [ih]
theorem span_all {p : Int → Bool} : ∀ {l : List UInt8}, (∀ j (hj : j < l.length), p (l[j].toNat : Int) = true) → spanN p l = l.length
  | [], _ => rfl
  | c :: l, h => by
    have h0 := h 0 (by simp)
    simp only [List.getElem_cons_zero] at h0
    have ih := span_all (l := l) (fun j hj => by have := h (j + 1) (by simpa using hj); simpa using this)
    unfold spanN at ih ⊢
    rw [List.takeWhile_cons, h0]
    simp [ih]
set_option maxHeartbeats 1000000 in
theorem span_word (s : ByteArray) (hs : s.size ≤ 9223372036854775807) (w : World) :
    Calls Tryd.prog 23 #[.string s, .func (.func 24) #[] #[]] w fun e w' => e = .returned (.int .i64 (spanN wordB (bl s) : Nat)) ∧ w = w' := by
  obtain ⟨p, hp⟩ : ∃ p, wordB = p := ⟨_, rfl⟩
  have HPh := Lib.hid inword_any
  rw [hp] at HPh ⊢
  clear hp
  go_enter Tryd.func23, Tryd.ntmps23
  go_wp2_with fail
  go_loop [8] (fun i => ∃ k : Nat, i = .int .i64 k ∧ k ≤ s.size ∧ Hid (∀ j (hj : j < k) (h : j < s.size), p (s[j].toNat : Int) = true)) (fun i => s.size - (intOf i).toNat)
  case atStart => exact ⟨0, rfl, Nat.zero_le _, Lib.hid (fun j hj => absurd hj (Nat.not_lt_zero j))⟩
  case round =>
    obtain ⟨k, rfl, hk, hall⟩ := hrel
    by_cases hks : k < s.size
    · have HC := Lib.hid (HPh.out (s[k].toNat : Int))
      have E0 := Lib.hid (fun (h : p (s[k].toNat : Int) = false) => span_stop (p := p) (l := bl s) (k := k) (by rw [bl_len]; exact hks) (fun j hj => by rw [bl_at s j (by omega)]; exact hall.out j hj (by omega)) (by rw [bl_at s k hks]; exact h))
      have E1 := Lib.hid (fun (h : p (s[k].toNat : Int) = true) => show (∀ j (hj : j < k + 1) (h : j < s.size), p (s[j].toNat : Int) = true) from fun j hj hj' => by
        by_cases e : j = k
        · subst e; exact h
        · exact hall.out j (by omega) hj')
      generalize hx : p (s[k].toNat : Int) = x at *
      cases x
      · have E0h := Lib.hid (E0.out rfl)
        clear hx
        go_wp2_with fail
        refine (HC.out _).mono ?_
        rintro e w1 ⟨rfl, rfl⟩
        go_wp2_with fail
        go_ret
        exact ⟨ret_int (by rw [E0h.out]), rfl⟩
      · have E1h := Lib.hid (E1.out rfl)
        clear hx
        go_wp2_with fail
        refine (HC.out _).mono ?_
        rintro e w1 ⟨rfl, rfl⟩
        go_wp2_with fail
        go_round
        case rel => exact ⟨k + 1, by go_num, by omega, E1h⟩
        case measure => simp [intOf]; omega
    · obtain rfl : k = s.size := by omega
      have E2 := Lib.hid (span_all (p := p) (l := bl s) (fun j hj => by rw [bl_at s j (by rw [bl_len] at hj; exact hj)]; exact hall.out j (by rw [bl_len] at hj; exact hj) (by rw [bl_len] at hj; exact hj)))
      go_wp2_with fail
      go_ret
      exact ⟨ret_int (by rw [E2.out, bl_len]), rfl⟩
set_option maxHeartbeats 1000000 in
theorem span_dig (s : ByteArray) (hs : s.size ≤ 9223372036854775807) (w : World) :
    Calls Tryd.prog 23 #[.string s, .func (.func 15) #[] #[]] w fun e w' => e = .returned (.int .i64 (spanN digB (bl s) : Nat)) ∧ w = w' := by
  obtain ⟨p, hp⟩ : ∃ p, digB = p := ⟨_, rfl⟩
  have HPh := Lib.hid digit_any
  rw [hp] at HPh ⊢
  clear hp
  go_enter Tryd.func23, Tryd.ntmps23
  go_wp2_with fail
  go_loop [8] (fun i => ∃ k : Nat, i = .int .i64 k ∧ k ≤ s.size ∧ Hid (∀ j (hj : j < k) (h : j < s.size), p (s[j].toNat : Int) = true)) (fun i => s.size - (intOf i).toNat)
  case atStart => exact ⟨0, rfl, Nat.zero_le _, Lib.hid (fun j hj => absurd hj (Nat.not_lt_zero j))⟩
  case round =>
    obtain ⟨k, rfl, hk, hall⟩ := hrel
    by_cases hks : k < s.size
    · have HC := Lib.hid (HPh.out (s[k].toNat : Int))
      have E0 := Lib.hid (fun (h : p (s[k].toNat : Int) = false) => span_stop (p := p) (l := bl s) (k := k) (by rw [bl_len]; exact hks) (fun j hj => by rw [bl_at s j (by omega)]; exact hall.out j hj (by omega)) (by rw [bl_at s k hks]; exact h))
      have E1 := Lib.hid (fun (h : p (s[k].toNat : Int) = true) => show (∀ j (hj : j < k + 1) (h : j < s.size), p (s[j].toNat : Int) = true) from fun j hj hj' => by
        by_cases e : j = k
        · subst e; exact h
        · exact hall.out j (by omega) hj')
      generalize hx : p (s[k].toNat : Int) = x at *
      cases x
      · have E0h := Lib.hid (E0.out rfl)
        clear hx
        go_wp2_with fail
        refine (HC.out _).mono ?_
        rintro e w1 ⟨rfl, rfl⟩
        go_wp2_with fail
        go_ret
        exact ⟨ret_int (by rw [E0h.out]), rfl⟩
      · have E1h := Lib.hid (E1.out rfl)
        clear hx
        go_wp2_with fail
        refine (HC.out _).mono ?_
        rintro e w1 ⟨rfl, rfl⟩
        go_wp2_with fail
        go_round
        case rel => exact ⟨k + 1, by go_num, by omega, E1h⟩
        case measure => simp [intOf]; omega
    · obtain rfl : k = s.size := by omega
      have E2 := Lib.hid (span_all (p := p) (l := bl s) (fun j hj => by rw [bl_at s j (by rw [bl_len] at hj; exact hj)]; exact hall.out j (by rw [bl_len] at hj; exact hj) (by rw [bl_len] at hj; exact hj)))
      go_wp2_with fail
      go_ret
      exact ⟨ret_int (by rw [E2.out, bl_len]), rfl⟩
set_option maxHeartbeats 1000000 in
theorem span_text (s : ByteArray) (hs : s.size ≤ 9223372036854775807) (w : World) :
    Calls Tryd.prog 23 #[.string s, .func (.func 27) #[] #[]] w fun e w' => e = .returned (.int .i64 (spanN textB (bl s) : Nat)) ∧ w = w' := by
  obtain ⟨p, hp⟩ : ∃ p, textB = p := ⟨_, rfl⟩
  have HPh := Lib.hid intext_any
  rw [hp] at HPh ⊢
  clear hp
  go_enter Tryd.func23, Tryd.ntmps23
  go_wp2_with fail
  go_loop [8] (fun i => ∃ k : Nat, i = .int .i64 k ∧ k ≤ s.size ∧ Hid (∀ j (hj : j < k) (h : j < s.size), p (s[j].toNat : Int) = true)) (fun i => s.size - (intOf i).toNat)
  case atStart => exact ⟨0, rfl, Nat.zero_le _, Lib.hid (fun j hj => absurd hj (Nat.not_lt_zero j))⟩
  case round =>
    obtain ⟨k, rfl, hk, hall⟩ := hrel
    by_cases hks : k < s.size
    · have HC := Lib.hid (HPh.out (s[k].toNat : Int))
      have E0 := Lib.hid (fun (h : p (s[k].toNat : Int) = false) => span_stop (p := p) (l := bl s) (k := k) (by rw [bl_len]; exact hks) (fun j hj => by rw [bl_at s j (by omega)]; exact hall.out j hj (by omega)) (by rw [bl_at s k hks]; exact h))
      have E1 := Lib.hid (fun (h : p (s[k].toNat : Int) = true) => show (∀ j (hj : j < k + 1) (h : j < s.size), p (s[j].toNat : Int) = true) from fun j hj hj' => by
        by_cases e : j = k
        · subst e; exact h
        · exact hall.out j (by omega) hj')
      generalize hx : p (s[k].toNat : Int) = x at *
      cases x
      · have E0h := Lib.hid (E0.out rfl)
        clear hx
        go_wp2_with fail
        refine (HC.out _).mono ?_
        rintro e w1 ⟨rfl, rfl⟩
        go_wp2_with fail
        go_ret
        exact ⟨ret_int (by rw [E0h.out]), rfl⟩
      · have E1h := Lib.hid (E1.out rfl)
        clear hx
        go_wp2_with fail
        refine (HC.out _).mono ?_
        rintro e w1 ⟨rfl, rfl⟩
        go_wp2_with fail
        go_round
        case rel => exact ⟨k + 1, by go_num, by omega, E1h⟩
        case measure => simp [intOf]; omega
    · obtain rfl : k = s.size := by omega
      have E2 := Lib.hid (span_all (p := p) (l := bl s) (fun j hj => by rw [bl_at s j (by rw [bl_len] at hj; exact hj)]; exact hall.out j (by rw [bl_len] at hj; exact hj) (by rw [bl_len] at hj; exact hj)))
      go_wp2_with fail
      go_ret
      exact ⟨ret_int (by rw [E2.out, bl_len]), rfl⟩
set_option maxHeartbeats 1000000 in
theorem span_hex (s : ByteArray) (hs : s.size ≤ 9223372036854775807) (w : World) :
    Calls Tryd.prog 23 #[.string s, .func (.func 29) #[] #[]] w fun e w' => e = .returned (.int .i64 (spanN hexB (bl s) : Nat)) ∧ w = w' := by
  obtain ⟨p, hp⟩ : ∃ p, hexB = p := ⟨_, rfl⟩
  have HPh := Lib.hid inbits_any
  rw [hp] at HPh ⊢
  clear hp
  go_enter Tryd.func23, Tryd.ntmps23
  go_wp2_with fail
  go_loop [8] (fun i => ∃ k : Nat, i = .int .i64 k ∧ k ≤ s.size ∧ Hid (∀ j (hj : j < k) (h : j < s.size), p (s[j].toNat : Int) = true)) (fun i => s.size - (intOf i).toNat)
  case atStart => exact ⟨0, rfl, Nat.zero_le _, Lib.hid (fun j hj => absurd hj (Nat.not_lt_zero j))⟩
  case round =>
    obtain ⟨k, rfl, hk, hall⟩ := hrel
    by_cases hks : k < s.size
    · have HC := Lib.hid (HPh.out (s[k].toNat : Int))
      have E0 := Lib.hid (fun (h : p (s[k].toNat : Int) = false) => span_stop (p := p) (l := bl s) (k := k) (by rw [bl_len]; exact hks) (fun j hj => by rw [bl_at s j (by omega)]; exact hall.out j hj (by omega)) (by rw [bl_at s k hks]; exact h))
      have E1 := Lib.hid (fun (h : p (s[k].toNat : Int) = true) => show (∀ j (hj : j < k + 1) (h : j < s.size), p (s[j].toNat : Int) = true) from fun j hj hj' => by
        by_cases e : j = k
        · subst e; exact h
        · exact hall.out j (by omega) hj')
      generalize hx : p (s[k].toNat : Int) = x at *
      cases x
      · have E0h := Lib.hid (E0.out rfl)
        clear hx
        go_wp2_with fail
        refine (HC.out _).mono ?_
        rintro e w1 ⟨rfl, rfl⟩
        go_wp2_with fail
        go_ret
        exact ⟨ret_int (by rw [E0h.out]), rfl⟩
      · have E1h := Lib.hid (E1.out rfl)
        clear hx
        go_wp2_with fail
        refine (HC.out _).mono ?_
        rintro e w1 ⟨rfl, rfl⟩
        go_wp2_with fail
        go_round
        case rel => exact ⟨k + 1, by go_num, by omega, E1h⟩
        case measure => simp [intOf]; omega
    · obtain rfl : k = s.size := by omega
      have E2 := Lib.hid (span_all (p := p) (l := bl s) (fun j hj => by rw [bl_at s j (by rw [bl_len] at hj; exact hj)]; exact hall.out j (by rw [bl_len] at hj; exact hj) (by rw [bl_len] at hj; exact hj)))
      go_wp2_with fail
      go_ret
      exact ⟨ret_int (by rw [E2.out, bl_len]), rfl⟩
end Go.Proofs.YtffneogphgodnaaDoor
