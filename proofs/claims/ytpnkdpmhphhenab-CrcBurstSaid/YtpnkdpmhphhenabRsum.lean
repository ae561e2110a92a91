/-
  THE WALK OF THE DOCUMENT'S OWN SUM (auspiceref02): the bits of each byte go in one by one.
-/
import Derived.Test.YtpnkdpmhphhenabSum
namespace Go.Proofs.Ytpnkdpmhphhenab
open Go.RowKit
theorem low_bit (F b : Nat) (hF : F < 4294967296) (hb : b < 256) : bits .xor .u32 (bits .and .u32 (F : Int) 1) (bits .and .u32 (b : Int) 1) = (((F + b) % 2 : Nat) : Int) := by
  have h1 : bits .and .u32 (F : Int) 1 = ((F % 2 : Nat) : Int) := by
    have := u32_and_nat F 1 hF (by decide)
    rw [nat_mask1] at this
    exact this
  have h2 : bits .and .u32 (b : Int) 1 = ((b % 2 : Nat) : Int) := by
    have := u32_and_nat b 1 (by omega) (by decide)
    rw [nat_mask1] at this
    exact this
  rw [h1, h2, u32_xor_nat _ _ (by omega) (by omega)]
  congr 1
  have h := CrcP.xor_mod2 (F % 2) (b % 2)
  have h3 : F % 2 ^^^ b % 2 < 2 := Nat.xor_lt_two_pow (n := 1) (by omega) (by omega)
  omega
theorem low_yes {F b : Nat} (hF : F < 4294967296) (hb : b < 256) (h : (F + b) % 2 = 1) : (bits .xor .u32 (bits .and .u32 (F : Int) 1) (bits .and .u32 (b : Int) 1) == 1) = true := by
  rw [low_bit F b hF hb, h]; rfl
theorem low_no {F b : Nat} (hF : F < 4294967296) (hb : b < 256) (h : ¬ (F + b) % 2 = 1) : (bits .xor .u32 (bits .and .u32 (F : Int) 1) (bits .and .u32 (b : Int) 1) == 1) = false := by
  rw [low_bit F b hF hb, show (F + b) % 2 = 0 by omega]; rfl
theorem step_yes {F b : Nat} (hF : F < 4294967296) (h : (F + b) % 2 = 1) : bits .xor .u32 ((F : Int) / 2) 2197175160 = ((CrcP.step F (b % 2) : Nat) : Int) := by
  have h3 : ((F : Int) / 2) = ((F / 2 : Nat) : Int) := by omega
  have := u32_xor_nat (F / 2) 2197175160 (by omega) (by decide)
  rw [h3]
  unfold CrcP.step
  rw [if_pos (by omega)]
  exact this
theorem step_no {F b : Nat} (h : ¬ (F + b) % 2 = 1) : ((F : Int) / 2) = ((CrcP.step F (b % 2) : Nat) : Int) := by
  unfold CrcP.step
  rw [if_neg (by omega), Nat.xor_zero]
  omega
theorem xor_all (r : Nat) (h : r < 4294967296) : bits .xor .u32 (r : Int) 4294967295 = ((4294967295 - r : Nat) : Int) := by
  have h1 := not_u32 r h
  have e2 : IntKind.u32.max = ((4294967295 : Nat) : Int) := by decide
  rw [e2, u32_xor_nat _ _ (by decide) h, Nat.xor_comm] at h1
  rw [← h1]
  exact u32_xor_nat r 4294967295 h (by decide)
theorem put_u32 {a b : Int} (h : a = b) : Value.int .u32 a = Value.int .u32 b := by rw [h]
theorem reg_next (s : ByteArray) (k : Nat) (h : k < s.size) : CrcP.reg (s.data.toList.take (k + 1)) = CrcP.feed (CrcP.reg (s.data.toList.take k)) ((CrcP.bits8 s[k].toNat).take 8) := by
  rw [take_snoc s k h, CrcP.reg_snoc, CrcP.feed_byte _ s[k].toNat_lt]; rfl
set_option maxHeartbeats 2000000 in
theorem rsum_any (s : ByteArray) (hs : s.size ≤ 9223372036854775807) (w : World) :
    Calls Try.prog 12 #[.string s] w fun e w' => e = .returned (.int .u32 (CrcP.sumN s.data.toList)) ∧ w = w' := by
  go_enter Try.func12, Try.ntmps12
  go_wp2
  go_loop [3, 4] (fun n i => ∃ k : Nat, k ≤ s.size ∧ i = .int .i64 k ∧ n = .int .u32 (CrcP.reg (s.data.toList.take k) : Nat)) (fun _ i => s.size - (intOf i).toNat)
  case atStart => exact ⟨0, Nat.zero_le _, rfl, rfl⟩
  case round =>
    obtain ⟨k, hk, rfl, rfl⟩ := hrel
    have hr := CrcP.reg_lt (s.data.toList.take k)
    by_cases hlt : k < s.size
    · have hbn := s[k].toNat_lt
      have hb : (s[k].toNat : Int) ≤ 255 := by omega
      have Hnext := Lib.hid (reg_next s k hlt)
      generalize hR : CrcP.reg (s.data.toList.take k) = R at *
      clear hR
      go_wp2
      go_loop [3, 5] (fun n i => ∃ j : Nat, j ≤ 8 ∧ i = .int .i64 j ∧ n = .int .u32 (CrcP.feed R ((CrcP.bits8 s[k].toNat).take j) : Nat)) (fun _ i => 8 - (intOf i).toNat)
      case atStart => exact ⟨0, by omega, rfl, rfl⟩
      case round =>
        obtain ⟨j, hj, rfl, rfl⟩ := hrel
        have hF := CrcP.feed_lt ((CrcP.bits8 s[k].toNat).take j) (r := R) hr
        generalize hFe : CrcP.feed R ((CrcP.bits8 s[k].toNat).take j) = F at *
        have HFe := Lib.hid hFe
        clear hFe
        have hjc : j = 8 ∨ j = 0 ∨ j = 1 ∨ j = 2 ∨ j = 3 ∨ j = 4 ∨ j = 5 ∨ j = 6 ∨ j = 7 := by omega
        rcases hjc with rfl | rfl | rfl | rfl | rfl | rfl | rfl | rfl | rfl
        · go_wp2
          go_round
          case rel => exact ⟨k + 1, by omega, by go_num, by rw [Hnext.out, HFe.out]⟩
          case measure => simp [intOf]; omega
        · by_cases hc : (F + s[k].toNat) % 2 = 1
          · have ht : (bits .xor .u32 (bits .and .u32 (F : Int) 1) (bits .and .u32 (s[k].toNat : Int) 1) == 1) = true := low_yes (b := s[k].toNat) hF (by omega) hc
            go_wp2
            go_round
            case rel => exact ⟨1, by omega, rfl, put_u32 (by rw [step_yes hF hc, ← HFe.out, ← CrcP.feed_snoc]; rfl)⟩
            case measure => simp [intOf]
          · have ht : (bits .xor .u32 (bits .and .u32 (F : Int) 1) (bits .and .u32 (s[k].toNat : Int) 1) == 1) = false := low_no (b := s[k].toNat) hF (by omega) hc
            go_wp2
            go_round
            case rel => exact ⟨1, by omega, rfl, put_u32 (by rw [step_no hc, ← HFe.out, ← CrcP.feed_snoc]; rfl)⟩
            case measure => simp [intOf]
        · by_cases hc : (F + (s[k].toNat / 2)) % 2 = 1
          · have ht : (bits .xor .u32 (bits .and .u32 (F : Int) 1) (bits .and .u32 ((s[k].toNat : Int) / 2) 1) == 1) = true := low_yes (b := (s[k].toNat / 2)) hF (by omega) hc
            go_wp2
            go_round
            case rel => exact ⟨2, by omega, rfl, put_u32 (by rw [step_yes hF hc, ← HFe.out, ← CrcP.feed_snoc]; rfl)⟩
            case measure => simp [intOf]
          · have ht : (bits .xor .u32 (bits .and .u32 (F : Int) 1) (bits .and .u32 ((s[k].toNat : Int) / 2) 1) == 1) = false := low_no (b := (s[k].toNat / 2)) hF (by omega) hc
            go_wp2
            go_round
            case rel => exact ⟨2, by omega, rfl, put_u32 (by rw [step_no hc, ← HFe.out, ← CrcP.feed_snoc]; rfl)⟩
            case measure => simp [intOf]
        · by_cases hc : (F + (s[k].toNat / 4)) % 2 = 1
          · have ht : (bits .xor .u32 (bits .and .u32 (F : Int) 1) (bits .and .u32 ((s[k].toNat : Int) / 4) 1) == 1) = true := low_yes (b := (s[k].toNat / 4)) hF (by omega) hc
            go_wp2
            go_round
            case rel => exact ⟨3, by omega, rfl, put_u32 (by rw [step_yes hF hc, ← HFe.out, ← CrcP.feed_snoc]; rfl)⟩
            case measure => simp [intOf]
          · have ht : (bits .xor .u32 (bits .and .u32 (F : Int) 1) (bits .and .u32 ((s[k].toNat : Int) / 4) 1) == 1) = false := low_no (b := (s[k].toNat / 4)) hF (by omega) hc
            go_wp2
            go_round
            case rel => exact ⟨3, by omega, rfl, put_u32 (by rw [step_no hc, ← HFe.out, ← CrcP.feed_snoc]; rfl)⟩
            case measure => simp [intOf]
        · by_cases hc : (F + (s[k].toNat / 8)) % 2 = 1
          · have ht : (bits .xor .u32 (bits .and .u32 (F : Int) 1) (bits .and .u32 ((s[k].toNat : Int) / 8) 1) == 1) = true := low_yes (b := (s[k].toNat / 8)) hF (by omega) hc
            go_wp2
            go_round
            case rel => exact ⟨4, by omega, rfl, put_u32 (by rw [step_yes hF hc, ← HFe.out, ← CrcP.feed_snoc]; rfl)⟩
            case measure => simp [intOf]
          · have ht : (bits .xor .u32 (bits .and .u32 (F : Int) 1) (bits .and .u32 ((s[k].toNat : Int) / 8) 1) == 1) = false := low_no (b := (s[k].toNat / 8)) hF (by omega) hc
            go_wp2
            go_round
            case rel => exact ⟨4, by omega, rfl, put_u32 (by rw [step_no hc, ← HFe.out, ← CrcP.feed_snoc]; rfl)⟩
            case measure => simp [intOf]
        · by_cases hc : (F + (s[k].toNat / 16)) % 2 = 1
          · have ht : (bits .xor .u32 (bits .and .u32 (F : Int) 1) (bits .and .u32 ((s[k].toNat : Int) / 16) 1) == 1) = true := low_yes (b := (s[k].toNat / 16)) hF (by omega) hc
            go_wp2
            go_round
            case rel => exact ⟨5, by omega, rfl, put_u32 (by rw [step_yes hF hc, ← HFe.out, ← CrcP.feed_snoc]; rfl)⟩
            case measure => simp [intOf]
          · have ht : (bits .xor .u32 (bits .and .u32 (F : Int) 1) (bits .and .u32 ((s[k].toNat : Int) / 16) 1) == 1) = false := low_no (b := (s[k].toNat / 16)) hF (by omega) hc
            go_wp2
            go_round
            case rel => exact ⟨5, by omega, rfl, put_u32 (by rw [step_no hc, ← HFe.out, ← CrcP.feed_snoc]; rfl)⟩
            case measure => simp [intOf]
        · by_cases hc : (F + (s[k].toNat / 32)) % 2 = 1
          · have ht : (bits .xor .u32 (bits .and .u32 (F : Int) 1) (bits .and .u32 ((s[k].toNat : Int) / 32) 1) == 1) = true := low_yes (b := (s[k].toNat / 32)) hF (by omega) hc
            go_wp2
            go_round
            case rel => exact ⟨6, by omega, rfl, put_u32 (by rw [step_yes hF hc, ← HFe.out, ← CrcP.feed_snoc]; rfl)⟩
            case measure => simp [intOf]
          · have ht : (bits .xor .u32 (bits .and .u32 (F : Int) 1) (bits .and .u32 ((s[k].toNat : Int) / 32) 1) == 1) = false := low_no (b := (s[k].toNat / 32)) hF (by omega) hc
            go_wp2
            go_round
            case rel => exact ⟨6, by omega, rfl, put_u32 (by rw [step_no hc, ← HFe.out, ← CrcP.feed_snoc]; rfl)⟩
            case measure => simp [intOf]
        · by_cases hc : (F + (s[k].toNat / 64)) % 2 = 1
          · have ht : (bits .xor .u32 (bits .and .u32 (F : Int) 1) (bits .and .u32 ((s[k].toNat : Int) / 64) 1) == 1) = true := low_yes (b := (s[k].toNat / 64)) hF (by omega) hc
            go_wp2
            go_round
            case rel => exact ⟨7, by omega, rfl, put_u32 (by rw [step_yes hF hc, ← HFe.out, ← CrcP.feed_snoc]; rfl)⟩
            case measure => simp [intOf]
          · have ht : (bits .xor .u32 (bits .and .u32 (F : Int) 1) (bits .and .u32 ((s[k].toNat : Int) / 64) 1) == 1) = false := low_no (b := (s[k].toNat / 64)) hF (by omega) hc
            go_wp2
            go_round
            case rel => exact ⟨7, by omega, rfl, put_u32 (by rw [step_no hc, ← HFe.out, ← CrcP.feed_snoc]; rfl)⟩
            case measure => simp [intOf]
        · by_cases hc : (F + (s[k].toNat / 128)) % 2 = 1
          · have ht : (bits .xor .u32 (bits .and .u32 (F : Int) 1) (bits .and .u32 ((s[k].toNat : Int) / 128) 1) == 1) = true := low_yes (b := (s[k].toNat / 128)) hF (by omega) hc
            go_wp2
            go_round
            case rel => exact ⟨8, by omega, rfl, put_u32 (by rw [step_yes hF hc, ← HFe.out, ← CrcP.feed_snoc]; rfl)⟩
            case measure => simp [intOf]
          · have ht : (bits .xor .u32 (bits .and .u32 (F : Int) 1) (bits .and .u32 ((s[k].toNat : Int) / 128) 1) == 1) = false := low_no (b := (s[k].toNat / 128)) hF (by omega) hc
            go_wp2
            go_round
            case rel => exact ⟨8, by omega, rfl, put_u32 (by rw [step_no hc, ← HFe.out, ← CrcP.feed_snoc]; rfl)⟩
            case measure => simp [intOf]
    · have hn := xor_all _ hr
      go_wp2
      go_ret
      exact ⟨ret_u32 (by unfold CrcP.sumN; rw [List.take_of_length_le (by simp; omega)]), rfl⟩
end Go.Proofs.Ytpnkdpmhphhenab
