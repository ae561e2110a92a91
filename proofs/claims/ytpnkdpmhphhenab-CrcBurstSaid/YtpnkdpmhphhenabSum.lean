/-
  THE WALK OF crc.Sum: bit by bit it is the register of the plain text.
-/
import Derived.Test.YtpnkdpmhphhenabRows
import Derived.Test.YtpnkdpmhphhenabPlain
import Derived.WalkKit
import Derived.WalkSpells
import Derived.WalkLawsBesides
import Derived.Handy
import Derived.Lib.Hide
import Derived.Laws.BytesArg
import Derived.Lib.Zigzag
namespace Go.Proofs.Ytpnkdpmhphhenab
open Go.RowKit
theorem sum_step (r : Nat) (h : r < 4294967296) : bits .xor .u32 ((r : Int) / 2) (2197175160 * bits .and .u32 (r : Int) 1 % 4294967296) = ((CrcP.step r 0 : Nat) : Int) := by
  have h1 : bits .and .u32 (r : Int) 1 = ((r % 2 : Nat) : Int) := by
    have := u32_and_nat r 1 h (by decide)
    rw [nat_mask1] at this
    exact this
  have h2 : (2197175160 * ((r % 2 : Nat) : Int)) % 4294967296 = ((if (r + 0) % 2 = 1 then CrcP.P else 0 : Nat) : Int) := by
    rcases Nat.mod_two_eq_zero_or_one r with hr | hr
    · rw [if_neg (by omega), hr]; rfl
    · rw [if_pos (by omega), hr]; rfl
  have h3 : ((r : Int) / 2) = ((r / 2 : Nat) : Int) := by omega
  rw [h1, h2, h3, u32_xor_nat _ _ (by omega) (by split <;> decide)]
  rfl
theorem take_snoc (s : ByteArray) (k : Nat) (h : k < s.size) : s.data.toList.take (k + 1) = s.data.toList.take k ++ [s[k]] := by
  rw [List.take_succ_eq_append_getElem (by simpa using h)]; rfl
theorem xor_byte (r : Nat) (b : UInt8) (h : r < 4294967296) : bits .xor .u32 (r : Int) (b.toNat : Int) = ((r ^^^ b.toNat : Nat) : Int) :=
  u32_xor_nat _ _ h (by have := b.toNat_lt; omega)
theorem not_u32 (r : Nat) (h : r < 4294967296) : bits .xor .u32 IntKind.u32.max (r : Int) = ((4294967295 - r : Nat) : Int) := by
  have e2 : IntKind.u32.max = ((4294967295 : Nat) : Int) := by decide
  rw [e2, u32_xor_nat _ _ (by decide) h]
  congr 1
  apply Nat.eq_of_testBit_eq
  intro i
  rw [Nat.testBit_xor, show 4294967295 = 2 ^ 32 - 1 from rfl, Nat.testBit_two_pow_sub_one, show 2 ^ 32 - 1 - r = 2 ^ 32 - (r + 1) by omega, Nat.testBit_two_pow_sub_succ h]
  by_cases hi : i < 32
  · simp [hi]
  · have : r.testBit i = false := Nat.testBit_lt_two_pow (Nat.lt_of_lt_of_le (show r < 2 ^ 32 from h) (Nat.pow_le_pow_right (by decide) (by omega)))
    simp [hi, this]
theorem ret_u32 {a b : Int} (h : a = b) : Ending.returned (.int .u32 a) = .returned (.int .u32 b) := by rw [h]
set_option maxHeartbeats 400000 in
theorem sum_any (s : ByteArray) (hs : s.size ≤ 9223372036854775807) (w : World) :
    Calls Try.prog 11 #[.string s] w fun e w' => e = .returned (.int .u32 (CrcP.sumN s.data.toList)) ∧ w = w' := by
  go_enter Try.func11, Try.ntmps11
  go_wp2
  go_loop [3, 7] (fun n i => ∃ k : Nat, k ≤ s.size ∧ i = .int .i64 k ∧ n = .int .u32 (CrcP.reg (s.data.toList.take k) : Nat)) (fun _ i => s.size - (intOf i).toNat)
  case atStart => exact ⟨0, Nat.zero_le _, rfl, rfl⟩
  case round =>
    obtain ⟨k, hk, rfl, rfl⟩ := hrel
    have hr := CrcP.reg_lt (s.data.toList.take k)
    by_cases hlt : k < s.size
    · have hsn := CrcP.reg_snoc (s.data.toList.take k) s[k]
      rw [← take_snoc s k hlt] at hsn
      have hx := xor_byte _ s[k] hr
      have hq : CrcP.reg (s.data.toList.take k) ^^^ s[k].toNat < 4294967296 := Nat.xor_lt_two_pow (n := 32) hr (by have := s[k].toNat_lt; omega)
      generalize hR : CrcP.reg (s.data.toList.take k) = R at *
      generalize hR1 : CrcP.reg (s.data.toList.take (k + 1)) = R1 at *
      have HR1 := Lib.hid hR1
      clear hR1 hR
      have Hsn := Lib.hid hsn
      clear hsn
      have hb : (s[k].toNat : Int) ≤ 255 := by have := s[k].toNat_lt; omega
      generalize hQ : R ^^^ s[k].toNat = Q at *
      have HQ := Lib.hid hQ
      clear hQ hr
      go_wp2
      go_loop [3, 16] (fun n i => ∃ j : Nat, j ≤ 8 ∧ i = .int .i64 j ∧ n = .int .u32 (CrcP.feed Q (List.replicate j 0) : Nat)) (fun _ i => 8 - (intOf i).toNat)
      case atStart => exact ⟨0, by omega, rfl, rfl⟩
      case round =>
        obtain ⟨j, hj, rfl, rfl⟩ := hrel
        by_cases hlj : j < 8
        · have hF := CrcP.feed_lt (List.replicate j 0) hq
          have hst := sum_step _ hF
          have hnx : CrcP.feed Q (List.replicate (j + 1) 0) = CrcP.step (CrcP.feed Q (List.replicate j 0)) 0 := by rw [List.replicate_succ', CrcP.feed_snoc]
          have Hnx := Lib.hid hnx
          clear hnx
          go_wp2
          go_round
          case rel => exact ⟨j + 1, by omega, by go_num, by rw [Hnx.out]⟩
          case measure => simp [intOf]; omega
        · obtain rfl : j = 8 := by omega
          have Hend : Hid (CrcP.feed Q (List.replicate 8 0) = R1) := Hsn.out.symm
          go_wp2
          go_round
          case rel => exact ⟨k + 1, by omega, by go_num, by rw [HR1.out, ← Hend.out]⟩
          case measure => simp [intOf]; omega
    · have hn := not_u32 _ hr
      go_wp2
      go_ret
      exact ⟨ret_u32 (by unfold CrcP.sumN; rw [List.take_of_length_le (by simp; omega)]), rfl⟩
end Go.Proofs.Ytpnkdpmhphhenab
