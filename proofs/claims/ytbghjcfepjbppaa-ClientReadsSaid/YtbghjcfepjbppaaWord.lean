/-
  WORDS: event.letter, digit, number, Word.
-/
import Derived.Test.YtbghjcfepjbppaaHd0
import Derived.LoopTactic
namespace Go.Proofs.Ytbghjcfepjbppaa
open Go.RowKit
def lettB (b : Int) : Bool := decide (97 ≤ b) && decide (b ≤ 122)
def digB (b : Int) : Bool := decide (48 ≤ b) && decide (b ≤ 57)
def numB (n : Int) : Bool := decide (0 ≤ n) && decide (n ≤ 549755813888)
theorem letter_any (b : Int) (w : World) : Calls Try.prog 76 #[.int .u8 b] w fun e w' => e = .returned (.bool (lettB b)) ∧ w = w' := by
  unfold lettB
  by_cases h1 : 97 ≤ b
  · by_cases h2 : b ≤ 122
    · rw [decide_eq_true h1, decide_eq_true h2]
      go_enter Try.func76, Try.ntmps76
      go_wp2_with fail
      go_ret
      exact ⟨ret_bool (by simp), rfl⟩
    · rw [decide_eq_true h1, decide_eq_false h2]
      have h3 : 122 < b := by omega
      go_enter Try.func76, Try.ntmps76
      go_wp2_with fail
      go_ret
      exact ⟨ret_bool (by simp), rfl⟩
  · rw [decide_eq_false h1]
    have h3 : b < 97 := by omega
    go_enter Try.func76, Try.ntmps76
    go_wp2_with fail
    go_ret
    exact ⟨rfl, rfl⟩
theorem digit_any (b : Int) (w : World) : Calls Try.prog 77 #[.int .u8 b] w fun e w' => e = .returned (.bool (digB b)) ∧ w = w' := by
  unfold digB
  by_cases h1 : 48 ≤ b
  · by_cases h2 : b ≤ 57
    · rw [decide_eq_true h1, decide_eq_true h2]
      go_enter Try.func77, Try.ntmps77
      go_wp2_with fail
      go_ret
      exact ⟨ret_bool (by simp), rfl⟩
    · rw [decide_eq_true h1, decide_eq_false h2]
      have h3 : 57 < b := by omega
      go_enter Try.func77, Try.ntmps77
      go_wp2_with fail
      go_ret
      exact ⟨ret_bool (by simp), rfl⟩
  · rw [decide_eq_false h1]
    have h3 : b < 48 := by omega
    go_enter Try.func77, Try.ntmps77
    go_wp2_with fail
    go_ret
    exact ⟨rfl, rfl⟩
theorem number_any (n : Int) (w : World) : Calls Try.prog 70 #[.int .i64 n] w fun e w' => e = .returned (.bool (numB n)) ∧ w = w' := by
  unfold numB
  by_cases h1 : 0 ≤ n
  · by_cases h2 : n ≤ 549755813888
    · rw [decide_eq_true h1, decide_eq_true h2]
      go_enter Try.func70, Try.ntmps70
      go_wp2_with fail
      go_ret
      exact ⟨ret_bool (by simp), rfl⟩
    · rw [decide_eq_true h1, decide_eq_false h2]
      have h3 : 549755813888 < n := by omega
      go_enter Try.func70, Try.ntmps70
      go_wp2_with fail
      go_ret
      exact ⟨ret_bool (by simp), rfl⟩
  · rw [decide_eq_false h1]
    have h3 : n < 0 := by omega
    go_enter Try.func70, Try.ntmps70
    go_wp2_with fail
    go_ret
    exact ⟨rfl, rfl⟩
def chB (b : Int) : Bool := lettB b || digB b || b == 95
def bl (s : ByteArray) : List UInt8 := s.data.toList
theorem bl_len (s : ByteArray) : (bl s).length = s.size := by unfold bl; rw [Array.length_toList]; rfl
/-- is a text a word? -/
def wordB (s : ByteArray) : Bool := decide (1 ≤ s.size) && decide (s.size ≤ 16) && lettB ((bl s).headD 0).toNat && (bl s).all fun b => chB b.toNat
theorem head_at (s : ByteArray) (h : 0 < s.size) : (bl s).headD 0 = s[0] := by
  have hl : 0 < s.data.toList.length := by simpa using h
  have e : s.data.toList = s[0] :: s.data.toList.drop 1 := List.drop_eq_getElem_cons (l := s.data.toList) (i := 0) hl
  unfold bl
  rw [e]; rfl
theorem take_more (s : ByteArray) (k : Nat) (h : k < s.size) : (bl s).take (k + 1) = (bl s).take k ++ [s[k]] := by
  unfold bl
  rw [List.take_succ_eq_append_getElem (by simpa using h)]; rfl
set_option maxHeartbeats 1000000 in
theorem word_any (s : ByteArray) (hs : s.size ≤ 9223372036854775807) (w : World) : Calls Try.prog 52 #[.string s] w fun e w' => e = .returned (.bool (wordB s)) ∧ w = w' := by
  unfold wordB
  by_cases h1 : s.size < 1
  · have R := Lib.hid (show false = (decide (1 ≤ s.size) && decide (s.size ≤ 16) && lettB ((bl s).headD 0).toNat && (bl s).all fun b => chB b.toNat) by rw [decide_eq_false (by omega)]; rfl)
    rw [← R.out]
    have h1' : (s.size : Int) < 1 := by omega
    go_enter Try.func52, Try.ntmps52
    go_wp2_with fail
    go_ret
    exact ⟨rfl, rfl⟩
  have h1' : ¬ (s.size : Int) < 1 := by omega
  by_cases h2 : 16 < s.size
  · have R := Lib.hid (show false = (decide (1 ≤ s.size) && decide (s.size ≤ 16) && lettB ((bl s).headD 0).toNat && (bl s).all fun b => chB b.toNat) by rw [decide_eq_false (show ¬ s.size ≤ 16 by omega), Bool.and_false]; rfl)
    rw [← R.out]
    have h2' : (16 : Int) < (s.size : Int) := by omega
    go_enter Try.func52, Try.ntmps52
    go_wp2_with fail
    go_ret
    exact ⟨rfl, rfl⟩
  have h2' : ¬ (16 : Int) < (s.size : Int) := by omega
  have hp : 0 < s.size := by omega
  have h0 := head_at s hp
  rw [decide_eq_true (show 1 ≤ s.size by omega), decide_eq_true (show s.size ≤ 16 by omega), h0]
  have L0 := letter_any s[0].toNat
  cases hl : lettB s[0].toNat
  · rw [hl] at L0
    clear hl
    go_enter Try.func52, Try.ntmps52
    go_wp2_with fail
    refine (L0 _).mono ?_
    rintro e w1 ⟨rfl, rfl⟩
    go_wp2_with fail
    go_ret
    exact ⟨rfl, rfl⟩
  · rw [hl] at L0
    clear hl
    simp only [Bool.true_and]
    generalize hA : ((bl s).all fun b => chB b.toNat) = A
    have HA := Lib.hid hA
    clear hA
    go_enter Try.func52, Try.ntmps52
    go_wp2_with fail
    refine (L0 _).mono ?_
    rintro e w1 ⟨rfl, rfl⟩
    clear L0
    go_wp2_with fail
    go_loop [20] (fun i => ∃ k : Nat, i = .int .i64 k ∧ k ≤ s.size ∧ Hid ((((bl s).take k).all fun b => chB b.toNat) = true)) (fun i => s.size - (intOf i).toNat)
    case atStart => exact ⟨0, rfl, Nat.zero_le _, Lib.hid rfl⟩
    case round =>
      obtain ⟨k, rfl, hk, hall⟩ := hrel
      by_cases hks : k < s.size
      · have LK := letter_any s[k].toNat
        have DK := digit_any s[k].toNat
        cases hc : chB s[k].toNat
        · have R := Lib.hid (show false = A by
            rw [← HA.out]
            symm
            rw [List.all_eq_false]
            refine ⟨s[k], ?_, by simp [hc]⟩
            unfold bl
            exact List.mem_iff_getElem.2 ⟨k, by rw [Array.length_toList]; exact hks, rfl⟩)
          unfold chB at hc
          simp only [Bool.or_eq_false_iff] at hc
          rw [hc.1.1] at LK
          rw [hc.1.2] at DK
          have e95 : ((s[k].toNat : Int) != 95) = true := by simpa using hc.2
          clear hc
          go_wp2_with fail
          refine (LK _).mono ?_
          rintro e w1 ⟨rfl, rfl⟩
          go_wp2_with fail
          refine (DK _).mono ?_
          rintro e w1 ⟨rfl, rfl⟩
          go_wp2_with fail
          go_ret
          exact ⟨ret_bool R.out, rfl⟩
        · have N := Lib.hid (show (((bl s).take (k + 1)).all fun b => chB b.toNat) = true by
            rw [take_more s k hks, List.all_append, hall.out]; simp [hc])
          cases hl : lettB s[k].toNat
          · cases hd : digB s[k].toNat
            · have e95 : ((s[k].toNat : Int) != 95) = false := by
                unfold chB at hc
                rw [hl, hd] at hc
                simpa using hc
              rw [hl] at LK
              rw [hd] at DK
              clear hc hl hd
              go_wp2_with fail
              refine (LK _).mono ?_
              rintro e w1 ⟨rfl, rfl⟩
              go_wp2_with fail
              refine (DK _).mono ?_
              rintro e w1 ⟨rfl, rfl⟩
              go_wp2_with fail
              go_round
              case rel => exact ⟨k + 1, by go_num, by omega, N⟩
              case measure => simp [intOf]; omega
            · rw [hl] at LK
              rw [hd] at DK
              clear hc hl hd
              go_wp2_with fail
              refine (LK _).mono ?_
              rintro e w1 ⟨rfl, rfl⟩
              go_wp2_with fail
              refine (DK _).mono ?_
              rintro e w1 ⟨rfl, rfl⟩
              go_wp2_with fail
              go_round
              case rel => exact ⟨k + 1, by go_num, by omega, N⟩
              case measure => simp [intOf]; omega
          · rw [hl] at LK
            clear hc hl DK
            go_wp2_with fail
            refine (LK _).mono ?_
            rintro e w1 ⟨rfl, rfl⟩
            go_wp2_with fail
            go_round
            case rel => exact ⟨k + 1, by go_num, by omega, N⟩
            case measure => simp [intOf]; omega
      · obtain rfl : k = s.size := by omega
        have R := Lib.hid (show true = A by
          rw [← HA.out, ← hall.out, List.take_of_length_le (by rw [bl_len]; exact Nat.le_refl _)])
        go_wp2_with fail
        go_ret
        exact ⟨ret_bool R.out, rfl⟩
end Go.Proofs.Ytbghjcfepjbppaa
