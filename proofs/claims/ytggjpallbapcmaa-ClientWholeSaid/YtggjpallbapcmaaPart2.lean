/-
  WHAT THE ROWS REST ON, part 2: Word BNum Chk0 Hlaw Cln.
-/
import Derived.LoopTactic
import Derived.Test.YtggjpallbapcmaaRows
import Derived.WalkKit
import Derived.WalkSpells
import Derived.WalkLawsBesides
import Derived.Lib.Zigzag
import Derived.Handy
import Derived.Lib.Hide
import Derived.Laws.BytesArg
import Derived.Lib.Strings
import Derived.Lib.UnsafeStr
import Derived.Lib.BufferWrite
import Derived.Laws.MakeOwn
import Derived.Test.YtggjpallbapcmaaPart1
/-
  WORDS: event.letter, digit, number, Word.
-/
namespace Go.Proofs.Ytggjpallbapcmaa
open Go.RowKit
def lettB (b : Int) : Bool := decide (97 ≤ b) && decide (b ≤ 122)
def digB (b : Int) : Bool := decide (48 ≤ b) && decide (b ≤ 57)
def numB (n : Int) : Bool := decide (0 ≤ n) && decide (n ≤ 549755813888)
theorem letter_any (b : Int) (w : World) : Calls Try.prog 76 #[.int .u8 b] w fun e w' => e = .returned (.bool (lettB b)) ∧ w = w' := by
  unfold lettB
  by_cases h1 : 97 ≤ b
  · by_cases h2 : b ≤ 122
    · rw [decide_eq_true h1, decide_eq_true h2]
      go_enter Try.func76, Try.ntmps76
      go_wp2_with fail
      go_ret
      exact ⟨ret_bool (by simp), rfl⟩
    · rw [decide_eq_true h1, decide_eq_false h2]
      have h3 : 122 < b := by omega
      go_enter Try.func76, Try.ntmps76
      go_wp2_with fail
      go_ret
      exact ⟨ret_bool (by simp), rfl⟩
  · rw [decide_eq_false h1]
    have h3 : b < 97 := by omega
    go_enter Try.func76, Try.ntmps76
    go_wp2_with fail
    go_ret
    exact ⟨rfl, rfl⟩
theorem digit_any (b : Int) (w : World) : Calls Try.prog 77 #[.int .u8 b] w fun e w' => e = .returned (.bool (digB b)) ∧ w = w' := by
  unfold digB
  by_cases h1 : 48 ≤ b
  · by_cases h2 : b ≤ 57
    · rw [decide_eq_true h1, decide_eq_true h2]
      go_enter Try.func77, Try.ntmps77
      go_wp2_with fail
      go_ret
      exact ⟨ret_bool (by simp), rfl⟩
    · rw [decide_eq_true h1, decide_eq_false h2]
      have h3 : 57 < b := by omega
      go_enter Try.func77, Try.ntmps77
      go_wp2_with fail
      go_ret
      exact ⟨ret_bool (by simp), rfl⟩
  · rw [decide_eq_false h1]
    have h3 : b < 48 := by omega
    go_enter Try.func77, Try.ntmps77
    go_wp2_with fail
    go_ret
    exact ⟨rfl, rfl⟩
theorem number_any (n : Int) (w : World) : Calls Try.prog 70 #[.int .i64 n] w fun e w' => e = .returned (.bool (numB n)) ∧ w = w' := by
  unfold numB
  by_cases h1 : 0 ≤ n
  · by_cases h2 : n ≤ 549755813888
    · rw [decide_eq_true h1, decide_eq_true h2]
      go_enter Try.func70, Try.ntmps70
      go_wp2_with fail
      go_ret
      exact ⟨ret_bool (by simp), rfl⟩
    · rw [decide_eq_true h1, decide_eq_false h2]
      have h3 : 549755813888 < n := by omega
      go_enter Try.func70, Try.ntmps70
      go_wp2_with fail
      go_ret
      exact ⟨ret_bool (by simp), rfl⟩
  · rw [decide_eq_false h1]
    have h3 : n < 0 := by omega
    go_enter Try.func70, Try.ntmps70
    go_wp2_with fail
    go_ret
    exact ⟨rfl, rfl⟩
def chB (b : Int) : Bool := lettB b || digB b || b == 95
def bl (s : ByteArray) : List UInt8 := s.data.toList
theorem bl_len (s : ByteArray) : (bl s).length = s.size := by unfold bl; rw [Array.length_toList]; rfl
/-- is a text a word? -/
def wordB (s : ByteArray) : Bool := decide (1 ≤ s.size) && decide (s.size ≤ 16) && lettB ((bl s).headD 0).toNat && (bl s).all fun b => chB b.toNat
theorem head_at (s : ByteArray) (h : 0 < s.size) : (bl s).headD 0 = s[0] := by
  have hl : 0 < s.data.toList.length := by simpa using h
  have e : s.data.toList = s[0] :: s.data.toList.drop 1 := List.drop_eq_getElem_cons (l := s.data.toList) (i := 0) hl
  unfold bl
  rw [e]; rfl
theorem take_more (s : ByteArray) (k : Nat) (h : k < s.size) : (bl s).take (k + 1) = (bl s).take k ++ [s[k]] := by
  unfold bl
  rw [List.take_succ_eq_append_getElem (by simpa using h)]; rfl
set_option maxHeartbeats 1000000 in
theorem word_any (s : ByteArray) (hs : s.size ≤ 9223372036854775807) (w : World) : Calls Try.prog 52 #[.string s] w fun e w' => e = .returned (.bool (wordB s)) ∧ w = w' := by
  unfold wordB
  by_cases h1 : s.size < 1
  · have R := Lib.hid (show false = (decide (1 ≤ s.size) && decide (s.size ≤ 16) && lettB ((bl s).headD 0).toNat && (bl s).all fun b => chB b.toNat) by rw [decide_eq_false (by omega)]; rfl)
    rw [← R.out]
    have h1' : (s.size : Int) < 1 := by omega
    go_enter Try.func52, Try.ntmps52
    go_wp2_with fail
    go_ret
    exact ⟨rfl, rfl⟩
  have h1' : ¬ (s.size : Int) < 1 := by omega
  by_cases h2 : 16 < s.size
  · have R := Lib.hid (show false = (decide (1 ≤ s.size) && decide (s.size ≤ 16) && lettB ((bl s).headD 0).toNat && (bl s).all fun b => chB b.toNat) by rw [decide_eq_false (show ¬ s.size ≤ 16 by omega), Bool.and_false]; rfl)
    rw [← R.out]
    have h2' : (16 : Int) < (s.size : Int) := by omega
    go_enter Try.func52, Try.ntmps52
    go_wp2_with fail
    go_ret
    exact ⟨rfl, rfl⟩
  have h2' : ¬ (16 : Int) < (s.size : Int) := by omega
  have hp : 0 < s.size := by omega
  have h0 := head_at s hp
  rw [decide_eq_true (show 1 ≤ s.size by omega), decide_eq_true (show s.size ≤ 16 by omega), h0]
  have L0 := letter_any s[0].toNat
  cases hl : lettB s[0].toNat
  · rw [hl] at L0
    clear hl
    go_enter Try.func52, Try.ntmps52
    go_wp2_with fail
    refine (L0 _).mono ?_
    rintro e w1 ⟨rfl, rfl⟩
    go_wp2_with fail
    go_ret
    exact ⟨rfl, rfl⟩
  · rw [hl] at L0
    clear hl
    simp only [Bool.true_and]
    generalize hA : ((bl s).all fun b => chB b.toNat) = A
    have HA := Lib.hid hA
    clear hA
    go_enter Try.func52, Try.ntmps52
    go_wp2_with fail
    refine (L0 _).mono ?_
    rintro e w1 ⟨rfl, rfl⟩
    clear L0
    go_wp2_with fail
    go_loop [20] (fun i => ∃ k : Nat, i = .int .i64 k ∧ k ≤ s.size ∧ Hid ((((bl s).take k).all fun b => chB b.toNat) = true)) (fun i => s.size - (intOf i).toNat)
    case atStart => exact ⟨0, rfl, Nat.zero_le _, Lib.hid rfl⟩
    case round =>
      obtain ⟨k, rfl, hk, hall⟩ := hrel
      by_cases hks : k < s.size
      · have LK := letter_any s[k].toNat
        have DK := digit_any s[k].toNat
        cases hc : chB s[k].toNat
        · have R := Lib.hid (show false = A by
            rw [← HA.out]
            symm
            rw [List.all_eq_false]
            refine ⟨s[k], ?_, by simp [hc]⟩
            unfold bl
            exact List.mem_iff_getElem.2 ⟨k, by rw [Array.length_toList]; exact hks, rfl⟩)
          unfold chB at hc
          simp only [Bool.or_eq_false_iff] at hc
          rw [hc.1.1] at LK
          rw [hc.1.2] at DK
          have e95 : ((s[k].toNat : Int) != 95) = true := by simpa using hc.2
          clear hc
          go_wp2_with fail
          refine (LK _).mono ?_
          rintro e w1 ⟨rfl, rfl⟩
          go_wp2_with fail
          refine (DK _).mono ?_
          rintro e w1 ⟨rfl, rfl⟩
          go_wp2_with fail
          go_ret
          exact ⟨ret_bool R.out, rfl⟩
        · have N := Lib.hid (show (((bl s).take (k + 1)).all fun b => chB b.toNat) = true by
            rw [take_more s k hks, List.all_append, hall.out]; simp [hc])
          cases hl : lettB s[k].toNat
          · cases hd : digB s[k].toNat
            · have e95 : ((s[k].toNat : Int) != 95) = false := by
                unfold chB at hc
                rw [hl, hd] at hc
                simpa using hc
              rw [hl] at LK
              rw [hd] at DK
              clear hc hl hd
              go_wp2_with fail
              refine (LK _).mono ?_
              rintro e w1 ⟨rfl, rfl⟩
              go_wp2_with fail
              refine (DK _).mono ?_
              rintro e w1 ⟨rfl, rfl⟩
              go_wp2_with fail
              go_round
              case rel => exact ⟨k + 1, by go_num, by omega, N⟩
              case measure => simp [intOf]; omega
            · rw [hl] at LK
              rw [hd] at DK
              clear hc hl hd
              go_wp2_with fail
              refine (LK _).mono ?_
              rintro e w1 ⟨rfl, rfl⟩
              go_wp2_with fail
              refine (DK _).mono ?_
              rintro e w1 ⟨rfl, rfl⟩
              go_wp2_with fail
              go_round
              case rel => exact ⟨k + 1, by go_num, by omega, N⟩
              case measure => simp [intOf]; omega
          · rw [hl] at LK
            clear hc hl DK
            go_wp2_with fail
            refine (LK _).mono ?_
            rintro e w1 ⟨rfl, rfl⟩
            go_wp2_with fail
            go_round
            case rel => exact ⟨k + 1, by go_num, by omega, N⟩
            case measure => simp [intOf]; omega
      · obtain rfl : k = s.size := by omega
        have R := Lib.hid (show true = A by
          rw [← HA.out, ← hall.out, List.take_of_length_le (by rw [bl_len]; exact Nat.le_refl _)])
        go_wp2_with fail
        go_ret
        exact ⟨ret_bool R.out, rfl⟩
end Go.Proofs.Ytggjpallbapcmaa
/-
  THE WALKS OF bits.lay, bits.fold, bits.Num: what each answers, and that nothing that was there has turned.
-/
namespace Go.Proofs.Ytggjpallbapcmaa.Bt
open Go.RowKit

/-- n's lowest k bytes, the highest first -/
def be : Nat → Int → List Int
  | 0, _ => []
  | k + 1, n => be k (n / 256) ++ [n % 256]
/-- how many bytes n has -/
def wid (n : Int) : Nat := if n < 256 then 1 else if n < 65536 then 2 else if n < 16777216 then 3 else if n < 4294967296 then 4 else if n < 1099511627776 then 5 else if n < 281474976710656 then 6 else if n < 72057594037927936 then 7 else 8
/-- a number's bytes, as the document says -/
def numI (n : Int) : List Int := if n ≤ 247 then [n] else ((247 + wid n : Nat) : Int) :: be (wid n) n
def numS (n : Int) : ByteArray := strOfNums (numI n)

theorem fold_eq (n : Int) (h0 : -9223372036854775808 ≤ n) (h1 : n ≤ 9223372036854775807) :
    bits BinOp.xor IntKind.u64 (IntKind.u64.wrap (IntKind.u64.wrap n * 2)) (IntKind.u64.wrap (n / 9223372036854775808)) = ((Lib.zigzag n : Nat) : Int) := by
  by_cases hn : 0 ≤ n
  · have e1 : n / 9223372036854775808 = 0 := by omega
    have e2 : IntKind.u64.wrap (0 : Int) = ((0 : Nat) : Int) := by decide
    have e3 : IntKind.u64.wrap (IntKind.u64.wrap n * 2) = (((2 * n).toNat : Nat) : Int) := by
      rw [IntKind.wrap_u64, IntKind.wrap_u64]; omega
    rw [e1, e2, e3, bits_xor_u64_nat _ _ (by omega) (by decide), Nat.xor_zero]
    unfold Lib.zigzag; rw [if_pos hn]
  · have e1 : n / 9223372036854775808 = -1 := by omega
    have e2 : IntKind.u64.wrap (-1 : Int) = ((2 ^ 64 - 1 : Nat) : Int) := by decide
    have e3 : IntKind.u64.wrap (IntKind.u64.wrap n * 2) = (((2 * n + 18446744073709551616).toNat : Nat) : Int) := by
      rw [IntKind.wrap_u64, IntKind.wrap_u64]; omega
    rw [e1, e2, e3, bits_xor_u64_nat _ _ (by omega) (by decide), Nat.xor_comm, Lib.xor_ones64 _ (by omega)]
    unfold Lib.zigzag; rw [if_neg hn]; omega
theorem fold_any (n : Int) (h0 : -9223372036854775808 ≤ n) (h1 : n ≤ 9223372036854775807) (w : World) :
    Calls Try.prog 106 #[.int .i64 n] w fun e w' => e = .returned (.int .u64 ((Lib.zigzag n : Nat) : Int)) ∧ w = w' := by
  have H := Lib.hid (fold_eq n h0 h1)
  go_enter Try.func106, Try.ntmps106
  go_wp2
  go_ret
  exact ⟨by rw [← H.out]; rfl, rfl⟩

/-- the nine bytes that lay answers -/
def laid (n : Int) : Array Value := #[.int .u8 0, .int .u8 (n / 256 / 256 / 256 / 256 / 256 / 256 / 256), .int .u8 (n / 256 / 256 / 256 / 256 / 256 / 256 % 256), .int .u8 (n / 256 / 256 / 256 / 256 / 256 % 256), .int .u8 (n / 256 / 256 / 256 / 256 % 256), .int .u8 (n / 256 / 256 / 256 % 256), .int .u8 (n / 256 / 256 % 256), .int .u8 (n / 256 % 256), .int .u8 (n % 256)]
set_option maxRecDepth 100000 in
set_option maxHeartbeats 1000000 in
theorem lay_any (n : Int) (h0 : 0 ≤ n) (h1 : n < 18446744073709551616) (w : World) :
    Calls Try.prog 80 #[.int .u64 n] w fun e w' => e = .returned (.agg (laid n)) ∧ w.alloc (.cells (laid n) 154) = w' := by
  go_enter Try.func80, Try.ntmps80
  go_wp2
  go_rounds 9
  go_returns
  exact ⟨rfl, rfl⟩
theorem lay_cells (cs : Array Value) (n : Int) (h0 : 0 ≤ n) (h1 : n < 18446744073709551616) (hc : laid n = cs) (w : World) :
    Calls Try.prog 80 #[.int .u64 n] w fun e w' => e = .returned (.agg cs) ∧ Below w.heap.size w w' :=
  (lay_any n h0 h1 w).mono fun e w' ⟨he, hw⟩ => ⟨by rw [he, hc], by subst hw; exact (Below.refl _ _).alloc (Nat.le_refl _) _⟩

/-- a new block's bytes as a string, from one of them on -/
theorem conv_new (W : World) (cs : List Value) (xs : List Int) (off : Nat) (h : cs.drop off = xs.map (Value.int .u8)) (len : Nat) (hl : xs.length = len) (t cap : Nat) :
    (convert 153 9 (.slice (some ⟨W.heap.size, off, none⟩) len cap)).run Try.prog (W.alloc (.cells cs.toArray t)) = .ok (.string (strOfNums xs)) (W.alloc (.cells cs.toArray t)) := by
  refine run_convert_bytes_arg (P := Try.prog) _ 153 5 Try.underlying153 Try.underlying5 W.heap.size off len cap xs hl ?_ 9 Try.underlying9
  intro i hi
  rw [World.cell?_alloc_new]
  have e := congrArg (fun l => l[i]?) h
  simp only [List.getElem?_drop, List.getElem?_map] at e
  rw [List.getElem?_toArray, e, List.getElem?_eq_getElem (by omega)]
  simp [List.getD, List.getElem?_eq_getElem (show i < xs.length by omega)]


set_option maxRecDepth 100000 in
set_option maxHeartbeats 1000000 in
theorem num_1 (n c8 : Int) (h0 : 247 < n) (h1 : n < 18446744073709551616) (hc : laid n = #[.int .u8 0, .int .u8 0, .int .u8 0, .int .u8 0, .int .u8 0, .int .u8 0, .int .u8 0, .int .u8 0, .int .u8 c8]) (hz : (c8 == 0) = false) (w : World) :
    Calls Try.prog 57 #[.int .u64 n] w fun e w' => e = .returned (.string (strOfNums [248, c8])) ∧ Below w.heap.size w w' := by
  have Hc := Lib.hid hc
  clear hc
  have hn : ¬ n ≤ 247 := by omega
  have hconv := fun W : World => conv_new W [.int .u8 0, .int .u8 0, .int .u8 0, .int .u8 0, .int .u8 0, .int .u8 0, .int .u8 0, .int .u8 248, .int .u8 c8] [248, c8] 7 rfl 2 rfl 154 2
  go_enter Try.func57, Try.ntmps57
  go_wp2_with (go_at_call 80; refine (lay_cells _ _ (by omega) (by omega) Hc.out _).mono ?_; rintro e w1 ⟨rfl, hb⟩)
  go_rounds 9
  go_ret
  exact ⟨rfl, hb.alloc hb.size _⟩


set_option maxRecDepth 100000 in
set_option maxHeartbeats 1000000 in
theorem num_2 (n c7 c8 : Int) (h0 : 247 < n) (h1 : n < 18446744073709551616) (hc : laid n = #[.int .u8 0, .int .u8 0, .int .u8 0, .int .u8 0, .int .u8 0, .int .u8 0, .int .u8 0, .int .u8 c7, .int .u8 c8]) (hz : (c7 == 0) = false) (w : World) :
    Calls Try.prog 57 #[.int .u64 n] w fun e w' => e = .returned (.string (strOfNums [249, c7, c8])) ∧ Below w.heap.size w w' := by
  have Hc := Lib.hid hc
  clear hc
  have hn : ¬ n ≤ 247 := by omega
  have hconv := fun W : World => conv_new W [.int .u8 0, .int .u8 0, .int .u8 0, .int .u8 0, .int .u8 0, .int .u8 0, .int .u8 249, .int .u8 c7, .int .u8 c8] [249, c7, c8] 6 rfl 3 rfl 154 3
  go_enter Try.func57, Try.ntmps57
  go_wp2_with (go_at_call 80; refine (lay_cells _ _ (by omega) (by omega) Hc.out _).mono ?_; rintro e w1 ⟨rfl, hb⟩)
  go_rounds 9
  go_ret
  exact ⟨rfl, hb.alloc hb.size _⟩


set_option maxRecDepth 100000 in
set_option maxHeartbeats 1000000 in
theorem num_3 (n c6 c7 c8 : Int) (h0 : 247 < n) (h1 : n < 18446744073709551616) (hc : laid n = #[.int .u8 0, .int .u8 0, .int .u8 0, .int .u8 0, .int .u8 0, .int .u8 0, .int .u8 c6, .int .u8 c7, .int .u8 c8]) (hz : (c6 == 0) = false) (w : World) :
    Calls Try.prog 57 #[.int .u64 n] w fun e w' => e = .returned (.string (strOfNums [250, c6, c7, c8])) ∧ Below w.heap.size w w' := by
  have Hc := Lib.hid hc
  clear hc
  have hn : ¬ n ≤ 247 := by omega
  have hconv := fun W : World => conv_new W [.int .u8 0, .int .u8 0, .int .u8 0, .int .u8 0, .int .u8 0, .int .u8 250, .int .u8 c6, .int .u8 c7, .int .u8 c8] [250, c6, c7, c8] 5 rfl 4 rfl 154 4
  go_enter Try.func57, Try.ntmps57
  go_wp2_with (go_at_call 80; refine (lay_cells _ _ (by omega) (by omega) Hc.out _).mono ?_; rintro e w1 ⟨rfl, hb⟩)
  go_rounds 9
  go_ret
  exact ⟨rfl, hb.alloc hb.size _⟩


set_option maxRecDepth 100000 in
set_option maxHeartbeats 1000000 in
theorem num_4 (n c5 c6 c7 c8 : Int) (h0 : 247 < n) (h1 : n < 18446744073709551616) (hc : laid n = #[.int .u8 0, .int .u8 0, .int .u8 0, .int .u8 0, .int .u8 0, .int .u8 c5, .int .u8 c6, .int .u8 c7, .int .u8 c8]) (hz : (c5 == 0) = false) (w : World) :
    Calls Try.prog 57 #[.int .u64 n] w fun e w' => e = .returned (.string (strOfNums [251, c5, c6, c7, c8])) ∧ Below w.heap.size w w' := by
  have Hc := Lib.hid hc
  clear hc
  have hn : ¬ n ≤ 247 := by omega
  have hconv := fun W : World => conv_new W [.int .u8 0, .int .u8 0, .int .u8 0, .int .u8 0, .int .u8 251, .int .u8 c5, .int .u8 c6, .int .u8 c7, .int .u8 c8] [251, c5, c6, c7, c8] 4 rfl 5 rfl 154 5
  go_enter Try.func57, Try.ntmps57
  go_wp2_with (go_at_call 80; refine (lay_cells _ _ (by omega) (by omega) Hc.out _).mono ?_; rintro e w1 ⟨rfl, hb⟩)
  go_rounds 9
  go_ret
  exact ⟨rfl, hb.alloc hb.size _⟩


set_option maxRecDepth 100000 in
set_option maxHeartbeats 1000000 in
theorem num_5 (n c4 c5 c6 c7 c8 : Int) (h0 : 247 < n) (h1 : n < 18446744073709551616) (hc : laid n = #[.int .u8 0, .int .u8 0, .int .u8 0, .int .u8 0, .int .u8 c4, .int .u8 c5, .int .u8 c6, .int .u8 c7, .int .u8 c8]) (hz : (c4 == 0) = false) (w : World) :
    Calls Try.prog 57 #[.int .u64 n] w fun e w' => e = .returned (.string (strOfNums [252, c4, c5, c6, c7, c8])) ∧ Below w.heap.size w w' := by
  have Hc := Lib.hid hc
  clear hc
  have hn : ¬ n ≤ 247 := by omega
  have hconv := fun W : World => conv_new W [.int .u8 0, .int .u8 0, .int .u8 0, .int .u8 252, .int .u8 c4, .int .u8 c5, .int .u8 c6, .int .u8 c7, .int .u8 c8] [252, c4, c5, c6, c7, c8] 3 rfl 6 rfl 154 6
  go_enter Try.func57, Try.ntmps57
  go_wp2_with (go_at_call 80; refine (lay_cells _ _ (by omega) (by omega) Hc.out _).mono ?_; rintro e w1 ⟨rfl, hb⟩)
  go_rounds 9
  go_ret
  exact ⟨rfl, hb.alloc hb.size _⟩


set_option maxRecDepth 100000 in
set_option maxHeartbeats 1000000 in
theorem num_6 (n c3 c4 c5 c6 c7 c8 : Int) (h0 : 247 < n) (h1 : n < 18446744073709551616) (hc : laid n = #[.int .u8 0, .int .u8 0, .int .u8 0, .int .u8 c3, .int .u8 c4, .int .u8 c5, .int .u8 c6, .int .u8 c7, .int .u8 c8]) (hz : (c3 == 0) = false) (w : World) :
    Calls Try.prog 57 #[.int .u64 n] w fun e w' => e = .returned (.string (strOfNums [253, c3, c4, c5, c6, c7, c8])) ∧ Below w.heap.size w w' := by
  have Hc := Lib.hid hc
  clear hc
  have hn : ¬ n ≤ 247 := by omega
  have hconv := fun W : World => conv_new W [.int .u8 0, .int .u8 0, .int .u8 253, .int .u8 c3, .int .u8 c4, .int .u8 c5, .int .u8 c6, .int .u8 c7, .int .u8 c8] [253, c3, c4, c5, c6, c7, c8] 2 rfl 7 rfl 154 7
  go_enter Try.func57, Try.ntmps57
  go_wp2_with (go_at_call 80; refine (lay_cells _ _ (by omega) (by omega) Hc.out _).mono ?_; rintro e w1 ⟨rfl, hb⟩)
  go_rounds 9
  go_ret
  exact ⟨rfl, hb.alloc hb.size _⟩


set_option maxRecDepth 100000 in
set_option maxHeartbeats 1000000 in
theorem num_7 (n c2 c3 c4 c5 c6 c7 c8 : Int) (h0 : 247 < n) (h1 : n < 18446744073709551616) (hc : laid n = #[.int .u8 0, .int .u8 0, .int .u8 c2, .int .u8 c3, .int .u8 c4, .int .u8 c5, .int .u8 c6, .int .u8 c7, .int .u8 c8]) (hz : (c2 == 0) = false) (w : World) :
    Calls Try.prog 57 #[.int .u64 n] w fun e w' => e = .returned (.string (strOfNums [254, c2, c3, c4, c5, c6, c7, c8])) ∧ Below w.heap.size w w' := by
  have Hc := Lib.hid hc
  clear hc
  have hn : ¬ n ≤ 247 := by omega
  have hconv := fun W : World => conv_new W [.int .u8 0, .int .u8 254, .int .u8 c2, .int .u8 c3, .int .u8 c4, .int .u8 c5, .int .u8 c6, .int .u8 c7, .int .u8 c8] [254, c2, c3, c4, c5, c6, c7, c8] 1 rfl 8 rfl 154 8
  go_enter Try.func57, Try.ntmps57
  go_wp2_with (go_at_call 80; refine (lay_cells _ _ (by omega) (by omega) Hc.out _).mono ?_; rintro e w1 ⟨rfl, hb⟩)
  go_rounds 9
  go_ret
  exact ⟨rfl, hb.alloc hb.size _⟩


set_option maxRecDepth 100000 in
set_option maxHeartbeats 1000000 in
theorem num_8 (n c1 c2 c3 c4 c5 c6 c7 c8 : Int) (h0 : 247 < n) (h1 : n < 18446744073709551616) (hc : laid n = #[.int .u8 0, .int .u8 c1, .int .u8 c2, .int .u8 c3, .int .u8 c4, .int .u8 c5, .int .u8 c6, .int .u8 c7, .int .u8 c8]) (hz : (c1 == 0) = false) (w : World) :
    Calls Try.prog 57 #[.int .u64 n] w fun e w' => e = .returned (.string (strOfNums [255, c1, c2, c3, c4, c5, c6, c7, c8])) ∧ Below w.heap.size w w' := by
  have Hc := Lib.hid hc
  clear hc
  have hn : ¬ n ≤ 247 := by omega
  have hconv := fun W : World => conv_new W [.int .u8 255, .int .u8 c1, .int .u8 c2, .int .u8 c3, .int .u8 c4, .int .u8 c5, .int .u8 c6, .int .u8 c7, .int .u8 c8] [255, c1, c2, c3, c4, c5, c6, c7, c8] 0 rfl 9 rfl 154 9
  go_enter Try.func57, Try.ntmps57
  go_wp2_with (go_at_call 80; refine (lay_cells _ _ (by omega) (by omega) Hc.out _).mono ?_; rintro e w1 ⟨rfl, hb⟩)
  go_rounds 9
  go_ret
  exact ⟨rfl, hb.alloc hb.size _⟩


theorem num_0 (n : Int) (h0 : 0 ≤ n) (h1 : n ≤ 247) (w : World) :
    Calls Try.prog 57 #[.int .u64 n] w fun e w' => e = .returned (.string (strOfNums [n])) ∧ Below w.heap.size w w' := by
  have hconv := fun W : World => conv_new W [.int .u8 n] [n] 0 rfl 1 rfl 5 1
  go_enter Try.func57, Try.ntmps57
  go_wp2
  go_ret
  exact ⟨rfl, (Below.refl _ _).alloc (Nat.le_refl _) _⟩


theorem num_any (n : Int) (h0 : 0 ≤ n) (h1 : n < 18446744073709551616) (w : World) :
    Calls Try.prog 57 #[.int .u64 n] w fun e w' => e = .returned (.string (numS n)) ∧ Below w.heap.size w w' := by
  unfold numS numI wid
  by_cases hn : n ≤ 247
  · rw [if_pos hn]; exact num_0 n h0 hn w
  rw [if_neg hn]
  by_cases g1 : n < 256
  · rw [if_pos g1]
    refine num_1 n (n % 256) (by omega) h1 ?_ (beq_eq_false_iff_ne.2 (by omega)) w
    unfold laid; congr 1; simp only [List.cons.injEq, Value.int.injEq, true_and, and_true]; omega
  by_cases g2 : n < 65536
  · rw [if_neg g1, if_pos g2]
    refine num_2 n (n / 256 % 256) (n % 256) (by omega) h1 ?_ (beq_eq_false_iff_ne.2 (by omega)) w
    unfold laid; congr 1; simp only [List.cons.injEq, Value.int.injEq, true_and, and_true]; omega
  by_cases g3 : n < 16777216
  · rw [if_neg g1, if_neg g2, if_pos g3]
    refine num_3 n (n / 256 / 256 % 256) (n / 256 % 256) (n % 256) (by omega) h1 ?_ (beq_eq_false_iff_ne.2 (by omega)) w
    unfold laid; congr 1; simp only [List.cons.injEq, Value.int.injEq, true_and, and_true]; omega
  by_cases g4 : n < 4294967296
  · rw [if_neg g1, if_neg g2, if_neg g3, if_pos g4]
    refine num_4 n (n / 256 / 256 / 256 % 256) (n / 256 / 256 % 256) (n / 256 % 256) (n % 256) (by omega) h1 ?_ (beq_eq_false_iff_ne.2 (by omega)) w
    unfold laid; congr 1; simp only [List.cons.injEq, Value.int.injEq, true_and, and_true]; omega
  by_cases g5 : n < 1099511627776
  · rw [if_neg g1, if_neg g2, if_neg g3, if_neg g4, if_pos g5]
    refine num_5 n (n / 256 / 256 / 256 / 256 % 256) (n / 256 / 256 / 256 % 256) (n / 256 / 256 % 256) (n / 256 % 256) (n % 256) (by omega) h1 ?_ (beq_eq_false_iff_ne.2 (by omega)) w
    unfold laid; congr 1; simp only [List.cons.injEq, Value.int.injEq, true_and, and_true]; omega
  by_cases g6 : n < 281474976710656
  · rw [if_neg g1, if_neg g2, if_neg g3, if_neg g4, if_neg g5, if_pos g6]
    refine num_6 n (n / 256 / 256 / 256 / 256 / 256 % 256) (n / 256 / 256 / 256 / 256 % 256) (n / 256 / 256 / 256 % 256) (n / 256 / 256 % 256) (n / 256 % 256) (n % 256) (by omega) h1 ?_ (beq_eq_false_iff_ne.2 (by omega)) w
    unfold laid; congr 1; simp only [List.cons.injEq, Value.int.injEq, true_and, and_true]; omega
  by_cases g7 : n < 72057594037927936
  · rw [if_neg g1, if_neg g2, if_neg g3, if_neg g4, if_neg g5, if_neg g6, if_pos g7]
    refine num_7 n (n / 256 / 256 / 256 / 256 / 256 / 256 % 256) (n / 256 / 256 / 256 / 256 / 256 % 256) (n / 256 / 256 / 256 / 256 % 256) (n / 256 / 256 / 256 % 256) (n / 256 / 256 % 256) (n / 256 % 256) (n % 256) (by omega) h1 ?_ (beq_eq_false_iff_ne.2 (by omega)) w
    unfold laid; congr 1; simp only [List.cons.injEq, Value.int.injEq, true_and, and_true]; omega
  rw [if_neg g1, if_neg g2, if_neg g3, if_neg g4, if_neg g5, if_neg g6, if_neg g7]
  refine num_8 n (n / 256 / 256 / 256 / 256 / 256 / 256 / 256 % 256) (n / 256 / 256 / 256 / 256 / 256 / 256 % 256) (n / 256 / 256 / 256 / 256 / 256 % 256) (n / 256 / 256 / 256 / 256 % 256) (n / 256 / 256 / 256 % 256) (n / 256 / 256 % 256) (n / 256 % 256) (n % 256) (by omega) h1 ?_ (beq_eq_false_iff_ne.2 (by omega)) w
  unfold laid; congr 1; simp only [List.cons.injEq, Value.int.injEq, true_and, and_true]; omega

end Go.Proofs.Ytggjpallbapcmaa.Bt
/-
  THE PAGE's EXAMPLE: an event without fields, checked and written; awake.
-/
namespace Go.Proofs.Ytggjpallbapcmaa
open Go.RowKit
@[go_sem] theorem run_store_float {P : Program} {w : World} {a : Addr} {m : Mode} (k : FloatKind) (b : Nat) : (store a (.float k b) m).run P w = stored P w a (.float k b) m := run_store P w a _ m rfl
theorem fields_nil (w : World) : Calls Try.prog 71 #[.slice none 0 0] w fun e w' => e = .returned (.bool true) ∧ w = w' := by
  go_enter Try.func71, Try.ntmps71
  go_wp2_with fail
  go_rounds 1
  go_ret
  exact ⟨rfl, rfl⟩
def evA : Value := .agg #[.int .i64 0, .int .i64 0, .int .i64 0, .string ⟨#[97]⟩, .slice none 0 0]
theorem check_a (w : World) : Calls Try.prog 41 #[evA] w fun e w' => e = .returned (.int .i64 0) ∧ Below w.heap.size w w' := by
  have N := number_any 0
  rw [show numB 0 = true by decide] at N
  have W := word_any ⟨#[97]⟩ (by decide)
  rw [show wordB ⟨#[97]⟩ = true by decide +kernel] at W
  have FIN := Lib.hid ((Below.refl _ w).alloc (Nat.le_refl _) (.cells #[.int .i64 0, .int .i64 0, .int .i64 0, .string ⟨#[97]⟩, .slice none 0 0] 31))
  unfold evA
  go_enter Try.func41, Try.ntmps41
  go_wp2_with fail
  refine (N _).mono ?_
  rintro e w1 ⟨rfl, rfl⟩
  go_wp2_with fail
  refine (N _).mono ?_
  rintro e w1 ⟨rfl, rfl⟩
  go_wp2_with fail
  refine (N _).mono ?_
  rintro e w1 ⟨rfl, rfl⟩
  go_wp2_with fail
  refine (W _).mono ?_
  rintro e w1 ⟨rfl, rfl⟩
  go_wp2_with fail
  refine (fields_nil _).mono ?_
  rintro e w1 ⟨rfl, rfl⟩
  go_wp2_with fail
  go_ret
  exact ⟨rfl, FIN.out⟩
theorem num_0 (w : World) : Calls Try.prog 57 #[.int .u64 0] w fun e w' => e = .returned (.string ⟨#[0]⟩) ∧ Below w.heap.size w w' := Bt.num_any 0 (by decide) (by decide) w
theorem text_a (w : World) : Calls Try.prog 87 #[.string ⟨#[97]⟩] w fun e w' => e = .returned (.string ⟨#[1, 97]⟩) ∧ Below w.heap.size w w' := by
  have N : Hid (∀ w, Calls Try.prog 57 #[.int .u64 1] w fun e w' => e = .returned (.string ⟨#[1]⟩) ∧ Below w.heap.size w w') := Lib.hid (fun w => Bt.num_any 1 (by decide) (by decide) w)
  go_enter Try.func87, Try.ntmps87
  go_wp2_with fail
  refine (N.out _).mono ?_
  rintro e w1 ⟨rfl, b1⟩
  have B1 := Lib.hid b1
  clear b1
  go_wp2_with fail
  go_ret
  exact ⟨rfl, B1.out⟩
set_option maxHeartbeats 1000000 in
theorem encode_a (w : World) : Calls Try.prog 86 #[evA] w fun e w' => e = .returned (.tuple #[.string ⟨#[0, 0, 0, 1, 97, 0]⟩, .int .i64 0]) ∧ Below w.heap.size w w' := by
  obtain ⟨w1, hw1, B1, K1⟩ : ∃ w1, w1 = w.alloc (.cells #[.int .i64 0, .int .i64 0, .int .i64 0, .string ⟨#[97]⟩, .slice none 0 0] 31) ∧ Below w.heap.size w w1 ∧ w1.heap[w.heap.size]? = some (.cells #[.int .i64 0, .int .i64 0, .int .i64 0, .string ⟨#[97]⟩, .slice none 0 0] 31 (0, 0)) :=
    ⟨_, rfl, (Below.refl _ w).alloc (Nat.le_refl _) _, heap_alloc_new w _⟩
  have CH := Lib.hid check_a
  unfold evA at CH ⊢
  have W1 := Lib.hid hw1
  have B1h := Lib.hid B1
  have K1h := Lib.hid K1
  have c0 : w1.cell? ⟨w.heap.size, 0, none⟩ = some (.int .i64 0) := cell_of_row _ _ 0 _ _ _ K1
  have c1 : w1.cell? ⟨w.heap.size, 1, none⟩ = some (.int .i64 0) := cell_of_row _ _ 1 _ _ _ K1
  have c2 : w1.cell? ⟨w.heap.size, 2, none⟩ = some (.int .i64 0) := cell_of_row _ _ 2 _ _ _ K1
  have c3 : w1.cell? ⟨w.heap.size, 3, none⟩ = some (.string ⟨#[97]⟩) := cell_of_row _ _ 3 _ _ _ K1
  have c4 : w1.cell? ⟨w.heap.size, 4, none⟩ = some (.slice none 0 0) := cell_of_row _ _ 4 _ _ _ K1
  clear hw1 B1 K1
  generalize hy : w.heap.size = Y at *
  go_enter Try.func86, Try.ntmps86
  go_wp2_with fail
  rw [← W1.out]
  go_wp2_with fail
  refine (CH.out _).mono ?_
  rintro e w2 ⟨rfl, b2⟩
  have hyl : Y < w1.heap.size := World.block_lt_of_cell? _ _ c0
  have e : ∀ {o : Nat} {v : Value}, w1.cell? ⟨Y, o, none⟩ = some v → w2.cell? ⟨Y, o, none⟩ = some v := fun hc => by rw [b2.cell (p := ⟨_, _, none⟩) hyl]; exact hc
  have d0 := e c0
  have d1 := e c1
  have d2 := e c2
  have d3 := e c3
  have d4 := e c4
  have B2h := Lib.hid (B1h.out.trans (b2.mono (by have := B1h.out.size; omega)))
  clear e b2 c0 c1 c2 c3 c4 K1h
  go_wp2_with fail
  have x0 := fun d os => cell_regrown d0 d os
  have x1 := fun d os => cell_regrown d1 d os
  have x2 := fun d os => cell_regrown d2 d os
  have x3 := fun d os => cell_regrown d3 d os
  have C1 := Lib.hid (fun d os => Calls.regrown_of (d := d) (os := os) (num_0 (Go.Sort.grow (redrawn w2 d) os)))
  have C2 := Lib.hid (fun d os => Calls.regrown_of (d := d) (os := os) (text_a (Go.Sort.grow (redrawn w2 d) os)))
  refine wp_region_quiet_below mixed (by kernel_rfl) ?_
  repeat (quiet_step (first | (exact C1.out _ _) | (exact C2.out _ _)))
  refine wpQuiet_nil ?_
  intro _ hw'
  obtain ⟨⟨dq, osq⟩, hw''⟩ := hw'
  subst hw''
  have y4 := cell_regrown d4 dq osq
  have B3h := Lib.hid (B2h.out.trans ((below_regrown w2 dq osq).mono (by have := B2h.out.size; omega)))
  generalize Go.Sort.grow (redrawn w2 dq) osq = w3 at *
  clear x0 x1 x2 x3 d0 d1 d2 d3 d4 C1 C2
  go_wp2_with fail
  refine (num_0 _).mono ?_
  rintro e w4 ⟨rfl, b4⟩
  have z4 : w4.cell? ⟨Y, 4, none⟩ = some (.slice none 0 0) := by rw [b4.cell (p := ⟨_, _, none⟩) (World.block_lt_of_cell? _ _ y4)]; exact y4
  have B4h := Lib.hid (B3h.out.trans (b4.mono (by have := B3h.out.size; omega)))
  clear b4 y4
  go_wp2_with fail
  go_rounds 1
  go_ret2
  exact ⟨rfl, B4h.out⟩
def vI (n : Int) : Val := ⟨1, n, 0, ⟨#[]⟩⟩
def vF (f : Nat) : Val := ⟨2, 0, f, ⟨#[]⟩⟩
theorem wfI (n : Int) (h0 : -9223372036854775808 ≤ n) (h1 : n ≤ 9223372036854775807) : (vI n).Wf := ⟨by simp [vI], h0, h1, by simp [vI]⟩
theorem wfF (f : Nat) (h : f < 18446744073709551616) : (vF f).Wf := ⟨by simp [vF], by simp [vF], by simp [vF], h⟩
theorem ex1 : opS 5 (stV (vI 9007199254740993) (vF 4845873199050653696)) = true := by decide +kernel
theorem ex2 : opS 1 (stV (vI 1) (vF 4607182418800017408)) = true := by decide +kernel
end Go.Proofs.Ytggjpallbapcmaa
/-
  THE LAWS EventHolds, EventOrder AS WALKS.
-/
namespace Go.Proofs.Ytggjpallbapcmaa
open Go.RowKit
theorem opS3 (s : Int) (h : s = 0 ∨ s = 1 ∨ s = 2 ∨ s = 3 ∨ s = 4) : (opS 3 s = decide (s = 2)) ∧ (opS 1 s = decide (s = 3)) ∧ (opS 5 s = decide (s = 4)) := by
  rcases h with rfl | rfl | rfl | rfl | rfl <;> decide
end Go.Proofs.Ytggjpallbapcmaa
/-
  A STRING IS COPIED: strings.Clone.
-/
namespace Go.Proofs.Ytggjpallbapcmaa
open Go.RowKit
theorem info5 : (Try.prog.info? 5).map (fun i => (i.zero, i.size, i.bytes)) = some (some (.int .u8 0), 1, 1) := by kernel_rfl
set_option maxHeartbeats 4000000 in
set_option maxRecDepth 100000 in
theorem lite_clone (s : ByteArray) (w : World) (hlim : s.size ≤ 281474976710656) : Calls Try.prog 78 #[.string s] w fun e w' => e = .returned (.string s) ∧ Below w.heap.size w w' := by
  by_cases h0 : s.size = 0
  · have hs : s = ⟨#[]⟩ := ByteArray.ext (Array.eq_empty_of_size_eq_zero h0)
    subst hs
    go_enter Try.func78, Try.ntmps78
    go_wp2_with fail
    go_ret
    exact ⟨rfl, Below.refl _ _⟩
  · obtain ⟨i0, hi, hz0, hz1, hz2⟩ := info_parts info5
    have hinfo : (Try.prog.info? 5).map (·.size) = some 1 := by rw [hi]; simp [hz1]
    have hco : Try.prog.cellsOf 5 = 1 := by simp [Program.cellsOf, hi, hz1]
    obtain ⟨M, hM⟩ : ∃ M, M = madeCells (Value.int .u8 0).cells (((s.size : Nat) : Int).toNat * i0.size) := ⟨_, rfl⟩
    have hMs : M.size = s.size := by rw [hM, size_madeCells, hz1]; simp
    have hmk : ∀ W : World, (Instr.makeSlice 153 (.int .i64 (s.size : Int)) (.int .i64 (s.size : Int))).run Try.prog W = .ok (.slice (some ⟨W.heap.size, 0, none⟩) s.size s.size) (W.alloc (.cells M 5)) := fun W => by
      have h := run_make (P := Try.prog) W 153 5 i0 (.int .u8 0) Try.underlying153 hi hz0 .i64 .i64 (s.size : Int) (s.size : Int) (by omega) (by omega) (by rw [hz2]; omega) (by omega)
      rw [← hM] at h
      simpa using h
    clear hM
    have hcp := Lib.run_copy_row_string (P := Try.prog) (w.alloc (.cells M 5)) 153 9 3 5 w.heap.size 0 s.size s.size s M 5 Try.underlying153 hinfo (heap_alloc_new w _) (Nat.le_refl _) (by omega)
    obtain ⟨Y, hY⟩ : ∃ Y, Y = (M.toList.take 0 ++ Lib.byteCells s.data.toList ++ M.toList.drop (0 + s.size)).toArray := ⟨_, rfl⟩
    rw [← hY] at hcp
    have hYl : Y.toList = Lib.byteCells s.data.toList := by
      rw [hY, List.toList_toArray, List.take_zero, List.nil_append, List.drop_of_length_le (by rw [Array.length_toList]; omega), List.append_nil]
    have hYs : Y.size = s.size := by rw [← Array.length_toList, hYl, Lib.byteCells_length, ← Lib.size_eq]
    have hgY : ((w.alloc (.cells M 5)).setRow w.heap.size Y).heap[w.heap.size]? = some (.cells Y 5 (0, 0)) := setRow_heap _ _ M _ 5 (0, 0) (heap_alloc_new w _)
    have hne : s.data.toList ≠ [] := fun e => h0 (by rw [Lib.size_eq, e]; rfl)
    have hUS := Lib.run_unsafeString_row (P := Try.prog) ((w.alloc (.cells M 5)).setRow w.heap.size Y) 167 3 9 5 Try.underlying167 hco w.heap.size Y.size (by unfold World.shape?; rw [hgY]) s.data.toList hne (by rw [← Lib.size_eq]; omega) (by
      rw [← Lib.size_eq]; omega) (fun j x hx => Lib.cells_of_row hgY Y.size j _ (by rw [List.take_of_length_le (by rw [Array.length_toList]; exact Nat.le_refl _), hYl]; simp [Lib.byteCells, hx]))
    rw [← Lib.size_eq] at hUS
    clear hY
    go_enter Try.func78, Try.ntmps78
    go_wp2_with fail
    go_ret
    have hb1 : Below w.heap.size w (w.alloc (.cells M 5)) := (Below.refl _ w).alloc (Nat.le_refl _) _
    have hb2 : Below w.heap.size (w.alloc (.cells M 5)) ((w.alloc (.cells M 5)).setRow w.heap.size Y) := ⟨rfl, rfl, rfl, by simp, fun k hk => setRow_other _ _ _ _ (by omega)⟩
    exact ⟨rfl, Lib.below_freeze (hb1.trans hb2) (p := ⟨w.heap.size, 0, none⟩) (Nat.le_refl _) _⟩
theorem str_clone (s : ByteArray) (w : World) (hlim : s.size ≤ 281474976710656) : Calls Try.prog 53 #[.string s] w fun e w' => e = .returned (.string s) ∧ Below w.heap.size w w' := by
  go_enter Try.func53, Try.ntmps53
  go_wp2_with fail
  refine (lite_clone s w hlim).mono ?_
  rintro e w1 ⟨rfl, b1⟩
  go_wp2_with fail
  go_ret
  exact ⟨rfl, b1⟩
end Go.Proofs.Ytggjpallbapcmaa
