/-
  THE WALKS OF bits.join, least, unfold, number: what stands at the front of bytes.
-/
import Derived.Test.YtbghjcfepjbppaaBWrites
import Derived.Test.YtbghjcfepjbppaaCln
namespace Go.Proofs.Ytbghjcfepjbppaa.Bt
open Go.RowKit
/-- the number whose bytes a list has, the highest first -/
def joinN (l : List UInt8) : Nat := l.foldl (fun n b => n * 256 + b.toNat) 0
theorem joinN_snoc (l : List UInt8) (b : UInt8) : joinN (l ++ [b]) = joinN l * 256 + b.toNat := by
  unfold joinN; rw [List.foldl_append]; rfl
theorem joinN_aux (l : List UInt8) : ∀ a : Nat, l.foldl (fun n b => n * 256 + b.toNat) a < (a + 1) * 256 ^ l.length := by
  induction l with
  | nil => intro a; simp
  | cons b l ih =>
    intro a
    rw [List.foldl_cons, List.length_cons, Nat.pow_succ]
    have hb := b.toNat_lt
    refine Nat.lt_of_lt_of_le (ih _) ?_
    rw [Nat.mul_comm (256 ^ l.length), ← Nat.mul_assoc]
    exact Nat.mul_le_mul_right _ (by omega)
theorem joinN_lt (l : List UInt8) : joinN l < 256 ^ l.length := by
  have := joinN_aux l 0
  simpa [joinN] using this
theorem take_snoc (s : ByteArray) (k : Nat) (h : k < s.size) : s.data.toList.take (k + 1) = s.data.toList.take k ++ [s[k]] := by
  rw [List.take_succ_eq_append_getElem (by simpa using h)]; rfl
theorem or_join (n : Nat) (b : UInt8) (h : n < 72057594037927936) : bits .or .u64 ((n : Int) * 256) (b.toNat : Int) = ((n * 256 + b.toNat : Nat) : Int) := by
  have hb := b.toNat_lt
  have e : ((n : Int) * 256) = ((n * 256 : Nat) : Int) := by omega
  rw [e, u64_or_nat _ _ (by omega) (by omega), nat_join 8 (n * 256) b.toNat (by omega) (by omega)]
theorem u64_byte (b : UInt8) : IntKind.u64.wrap (b.toNat : Int) = (b.toNat : Int) := by
  have := b.toNat_lt
  exact IntWalk.u64_in _ ⟨by omega, by omega⟩
theorem ret_u64 {a b : Int} (h : a = b) : Ending.returned (.int .u64 a) = .returned (.int .u64 b) := by rw [h]
set_option maxHeartbeats 400000 in
theorem join_any (s : ByteArray) (hs : s.size ≤ 8) (w : World) :
    Calls Try.prog 95 #[.string s] w fun e w' => e = .returned (.int .u64 (joinN s.data.toList)) ∧ w = w' := by
  go_enter Try.func95, Try.ntmps95
  go_wp2
  go_loop [3, 7] (fun n i => ∃ k : Nat, k ≤ s.size ∧ i = .int .i64 k ∧ n = .int .u64 (joinN (s.data.toList.take k) : Nat)) (fun _ i => s.size - (intOf i).toNat)
  case atStart => exact ⟨0, Nat.zero_le _, rfl, rfl⟩
  case round =>
    obtain ⟨k, hk, rfl, rfl⟩ := hrel
    have hl : (s.data.toList.take k).length ≤ k := List.length_take_le _ _
    by_cases hlt : k < s.size
    · have hsn := joinN_snoc (s.data.toList.take k) s[k]
      have hts := take_snoc s k hlt
      have hb0 := joinN_lt (s.data.toList.take k)
      have hb : joinN (s.data.toList.take k) < 72057594037927936 := Nat.lt_of_lt_of_le hb0 (Nat.le_trans (Nat.pow_le_pow_right (by decide) (show (s.data.toList.take k).length ≤ 7 by omega)) (by decide))
      have H := Lib.hid (hts ▸ hsn)
      have ho := or_join (joinN (s.data.toList.take k)) s[k] hb
      clear hsn hts hb0
      have hbi : (joinN (s.data.toList.take k) : Int) < 72057594037927936 := by omega
      have hw := u64_byte s[k]
      go_wp2
      go_round
      case rel => exact ⟨k + 1, by omega, by go_num, by rw [H.out]; go_num⟩
      case measure => simp [intOf]; omega
    · go_wp2
      go_ret
      exact ⟨ret_u64 (by rw [List.take_of_length_le (by simp; omega)]), rfl⟩

/-- the least number that has k bytes behind the first one -/
def leastN (k : Nat) : Nat := if k ≤ 1 then 248 else 256 ^ (k - 1)
theorem least_any (k : Int) (h1 : 1 ≤ k) (h2 : k ≤ 8) (w : World) :
    Calls Try.prog 96 #[.int .i64 k] w fun e w' => e = .returned (.int .u64 (leastN k.toNat)) ∧ w = w' := by
  have hk : k = 1 ∨ k = 2 ∨ k = 3 ∨ k = 4 ∨ k = 5 ∨ k = 6 ∨ k = 7 ∨ k = 8 := by omega
  rcases hk with rfl | rfl | rfl | rfl | rfl | rfl | rfl | rfl
  all_goals
    go_enter Try.func96, Try.ntmps96
    go_wp2
    go_ret
    exact ⟨rfl, rfl⟩
def unz (n : Nat) : Int := if n % 2 = 0 then (n / 2 : Nat) else -((n / 2 : Nat) : Int) - 1
theorem i64_xor_m1 (x : Nat) (hx : x < 9223372036854775808) : bits .xor .i64 (x : Int) (-1) = -(x : Int) - 1 := by
  show IntKind.i64.wrap ((BitVec.ofInt 64 (x : Int) ^^^ BitVec.ofInt 64 (-1)).toNat : Int) = _
  rw [BitVec.xor_comm]
  exact Lib.i64_not x hx
theorem i64_xor_0 (x : Nat) (hx : x < 9223372036854775808) : bits .xor .i64 (x : Int) 0 = (x : Int) := by
  show IntKind.i64.wrap ((BitVec.ofInt 64 (x : Int) ^^^ BitVec.ofInt 64 0).toNat : Int) = _
  have h2 : (BitVec.ofInt 64 (x : Int)).toNat = x := by
    rw [BitVec.ofInt_natCast, BitVec.toNat_ofNat]; exact Nat.mod_eq_of_lt (by omega)
  rw [BitVec.toNat_xor, h2, show (BitVec.ofInt 64 0).toNat = 0 from by decide, Nat.xor_zero, IntKind.wrap_i64]
  omega
theorem ret_i64 {a b : Int} (h : a = b) : Ending.returned (.int .i64 a) = .returned (.int .i64 b) := by rw [h]
def rdNum : List UInt8 → Nat × Nat × Int
  | [] => (0, 0, 5)
  | b :: t => if b.toNat ≤ 247 then (b.toNat, 1, 0) else if t.length < b.toNat - 247 then (0, 0, 5) else
      if joinN (t.take (b.toNat - 247)) < leastN (b.toNat - 247) then (0, 0, 3) else (joinN (t.take (b.toNat - 247)), b.toNat - 247 + 1, 0)
theorem head_drop (s : ByteArray) (h : 0 < s.size) : s.data.toList = s[0] :: s.data.toList.drop 1 := by
  have hl : 0 < s.data.toList.length := by simpa using h
  exact List.drop_eq_getElem_cons (l := s.data.toList) (i := 0) hl
theorem ret_num {a b c d e : Int} (h : a = c) (h' : b = d) : Ending.returned (.tuple #[.int .u64 a, .int .i64 b, .int .i64 e]) = .returned (.tuple #[.int .u64 c, .int .i64 d, .int .i64 e]) := by rw [h, h']
set_option maxRecDepth 10000 in
set_option maxHeartbeats 400000 in
theorem number_any (s : ByteArray) (hs : s.size ≤ 9223372036854775807) (w : World) :
    Calls Try.prog 83 #[.string s] w fun e w' => e = .returned (.tuple #[.int .u64 (rdNum s.data.toList).1, .int .i64 (rdNum s.data.toList).2.1, .int .i64 (rdNum s.data.toList).2.2]) ∧ w = w' := by
  by_cases h0 : s.size = 0
  · have e0 : s = ⟨#[]⟩ := by
      apply ByteArray.ext
      exact Array.eq_empty_of_size_eq_zero h0
    subst e0
    go_enter Try.func83, Try.ntmps83
    go_wp2_with fail
    go_ret3
    exact ⟨rfl, rfl⟩
  have h1 : 0 < s.size := by omega
  have he := head_drop s h1
  have hne : s.toList.isEmpty = false := by
    rw [Lib.toList_data, he]; rfl
  have hb := s[0].toNat_lt
  have hbi : (s[0].toNat : Int) ≤ 255 := by omega
  have He := Lib.hid he
  clear he
  by_cases h2 : s[0].toNat ≤ 247
  · go_enter Try.func83, Try.ntmps83
    go_wp2_with fail
    go_ret3
    refine ⟨?_, rfl⟩
    rw [He.out]; simp only [rdNum, if_pos h2]; rfl
  by_cases h3 : s.size < s[0].toNat - 247 + 1
  · go_enter Try.func83, Try.ntmps83
    go_wp2_with fail
    go_ret3
    refine ⟨?_, rfl⟩
    rw [He.out]; simp only [rdNum, if_neg h2]; rw [if_pos (by simp; omega)]; rfl
  · go_enter Try.func83, Try.ntmps83
    go_wp2_with fail
    refine (join_any _ (by simp; omega) _).mono ?_
    rintro e w1 ⟨rfl, rfl⟩
    go_wp2_with fail
    refine (least_any _ (by omega) (by omega) _).mono ?_
    rintro e w1 ⟨rfl, rfl⟩
    generalize hJ : joinN (List.take (1 + s[0].toNat - 247 - 1) s.data.toList.tail) = J at *
    generalize hL : leastN (1 + (s[0].toNat : Int) - 247 - 1).toNat = L at *
    have HJ := Lib.hid hJ
    have HL := Lib.hid hL
    clear hJ hL
    have eJ : joinN ((s.data.toList.drop 1).take (s[0].toNat - 247)) = J := by
      rw [List.drop_one, ← HJ.out, show 1 + s[0].toNat - 247 - 1 = s[0].toNat - 247 from by omega]
    have eL : leastN (s[0].toNat - 247) = L := by
      rw [← HL.out, show (1 + (s[0].toNat : Int) - 247 - 1).toNat = s[0].toNat - 247 from by omega]
    have EJ := Lib.hid eJ
    have EL := Lib.hid eL
    clear eJ eL
    by_cases hlt : J < L
    · have hlt' : (J : Int) < (L : Int) := by omega
      go_wp2_with fail
      go_ret3
      refine ⟨?_, rfl⟩
      rw [He.out]; simp only [rdNum, if_neg h2]
      rw [if_neg (by simp; omega), EJ.out, EL.out, if_pos hlt]; rfl
    · have hlt' : ¬ (J : Int) < (L : Int) := by omega
      go_wp2_with fail
      go_ret3
      refine ⟨?_, rfl⟩
      rw [He.out]; simp only [rdNum, if_neg h2]
      rw [if_neg (by simp; omega), EJ.out, EL.out, if_neg hlt]
      refine ret_num rfl ?_
      show (1 + (s[0].toNat : Int) - 247) = ((s[0].toNat - 247 + 1 : Nat) : Int)
      omega
end Go.Proofs.Ytbghjcfepjbppaa.Bt
