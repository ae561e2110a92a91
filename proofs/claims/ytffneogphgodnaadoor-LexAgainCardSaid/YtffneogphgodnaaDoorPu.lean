/-
  SIXTEEN HEXADECIMAL DIGITS READ: strconv.ParseUint at base 16.
-/
import Derived.Test.YtffneogphgodnaaDoorFun2
import Derived.Lib.ConvBytes
namespace Go.Proofs.YtffneogphgodnaaDoor
open Go.RowKit
theorem hexD_lt {b : UInt8} (h : hexB (b.toNat : Int) = true) : hexD b < 16 := by
  unfold hexB digB at h
  unfold hexD
  simp only [Bool.or_eq_true, Bool.and_eq_true, decide_eq_true_eq] at h
  split <;> omega
theorem hexN_snoc (l : List UInt8) (b : UInt8) : hexN (l ++ [b]) = hexN l * 16 + hexD b := by unfold hexN; rw [List.foldl_append]; rfl
theorem hexN_aux {l : List UInt8} (h : ∀ b ∈ l, hexB (b.toNat : Int) = true) : ∀ a : Nat, l.foldl (fun a b => a * 16 + hexD b) a < (a + 1) * 16 ^ l.length := by
  induction l with
  | nil => intro a; simp
  | cons b l ih =>
    intro a
    have hb := hexD_lt (h b (by simp))
    have := ih (fun c hc => h c (by simp [hc])) (a * 16 + hexD b)
    rw [List.foldl_cons, List.length_cons, Nat.pow_succ]
    have h2 : (a * 16 + hexD b + 1) * 16 ^ l.length ≤ ((a + 1) * 16) * 16 ^ l.length := Nat.mul_le_mul_right _ (by omega)
    have h3 : ((a + 1) * 16) * 16 ^ l.length = (a + 1) * (16 ^ l.length * 16) := by rw [Nat.mul_assoc, Nat.mul_comm 16]
    omega
theorem hexN_lt {l : List UInt8} (h : ∀ b ∈ l, hexB (b.toNat : Int) = true) : hexN l < 16 ^ l.length := by
  have := hexN_aux h 0
  unfold hexN
  omega
theorem ret_pu {a b : Int} (h : a = b) : Ending.returned (.tuple #[.int .u64 a, .nilIface]) = .returned (.tuple #[.int .u64 b, .nilIface]) := by rw [h]
theorem or32 {c : Int} (h0 : 97 ≤ c) (h1 : c ≤ 102) : bits .or .u8 c 32 = c := by
  have : c = 97 ∨ c = 98 ∨ c = 99 ∨ c = 100 ∨ c = 101 ∨ c = 102 := by omega
  rcases this with rfl | rfl | rfl | rfl | rfl | rfl <;> decide +kernel
set_option maxHeartbeats 4000000 in
set_option maxRecDepth 100000 in
theorem pu16_any (t : ByteArray) (h16 : t.size = 16) (hx : ∀ b ∈ bl t, hexB (b.toNat : Int) = true) (w : World) :
    Calls Tryd.prog 42 #[.string t, .int .i64 16, .int .i64 64] w fun e w' => e = .returned (.tuple #[.int .u64 (hexN (bl t) : Nat), .nilIface]) ∧ Below w.heap.size w w' := by
  have hcv := Lib.run_convert_string_bytes (P := Tryd.prog) w 9 56 5 t (u := .string) Tryd.underlying9 Tryd.underlying56 Tryd.underlying5
  have hB : ∀ j, j < t.size → (Lib.bytesWorld w 5 t).cell? ⟨w.heap.size, j, none⟩ = some (.int .u8 (t.data.toList.getD j 0).toNat) := fun j hj => Lib.bytesWorld_cell w 5 t j hj
  have hBB := Lib.bytesWorld_below w 5 t
  obtain ⟨W1, hW1⟩ : ∃ W1, W1 = Lib.bytesWorld w 5 t := ⟨_, rfl⟩
  rw [← hW1] at hcv hB hBB
  have HB := Lib.hid hB
  have HBB := Lib.hid hBB
  have LW := Lib.hid (fun c W => (Tryd.internal_strconv_lower c W).mono (fun e w' h => (⟨h.1, h.2.symm⟩ : _ ∧ W = w')))
  have HX : Hid (∀ k (h : k < t.size), hexB (t[k].toNat : Int) = true) := Lib.hid (fun k h => by
    rw [← bl_at t k h]
    exact hx _ (List.getElem_mem _))
  have HL : Hid (∀ k, k ≤ 15 → hexN ((bl t).take k) < 1152921504606846976) := Lib.hid (fun k hk => by
    have h1 := hexN_lt (l := (bl t).take k) (fun b hb => hx b (List.mem_of_mem_take hb))
    have h2 : (16 : Nat) ^ ((bl t).take k).length ≤ 16 ^ 15 := Nat.pow_le_pow_right (by decide) (by rw [List.length_take]; omega)
    omega)
  have HS : Hid (∀ k (h : k < t.size), hexN ((bl t).take (k + 1)) = hexN ((bl t).take k) * 16 + hexD t[k]) := Lib.hid (fun k h => by
    rw [List.take_succ_eq_append_getElem (by rw [bl_len]; exact h), hexN_snoc, bl_at t k h])
  have HE : Hid (hexN ((bl t).take 16) = hexN (bl t)) := Lib.hid (by rw [List.take_of_length_le (by rw [bl_len]; omega)])
  have hne : t.toList.isEmpty = false := by
    have : t.toList = bl t := ByteArray.toList_eq ..
    rw [this]
    cases hb : bl t with
    | nil => have := bl_len t; rw [hb] at this; simp at this; omega
    | cons _ _ => rfl
  have hne2 : (!t.toList.isEmpty) = true := by rw [hne]; rfl
  clear hW1 hB hBB hx
  generalize hexN (bl t) = R at *
  have em : IntKind.u64.wrap (IntKind.u64.wrap 18446744073709551616 - 1) = 18446744073709551615 := by decide
  go_enter Tryd.func42, Tryd.ntmps42
  go_wp2_with fail
  clear em hcv hne hne2
  generalize hy : w.heap.size = Y at *
  go_loop [101, 13, 12] (fun i n u => ∃ (k : Nat) (x : Int), i = .int .i64 k ∧ k ≤ 16 ∧ n = .int .u64 x ∧ Hid (x = (hexN ((bl t).take k) : Nat)) ∧ u = .bool false) (fun i _ _ => 16 - (intOf i).toNat)
  case atStart => exact ⟨0, 0, rfl, by decide, rfl, Lib.hid rfl, rfl⟩
  case round =>
    obtain ⟨k, x, rfl, hk, rfl, hN, rfl⟩ := hrel
    by_cases hk16 : k < 16
    · have hkt : k < t.size := by omega
      have hc : W1.cell? ⟨Y, k, none⟩ = some (.int .u8 (t[k].toNat : Int)) := by
        rw [HB.out k hkt, ← bl_at t k hkt]
        rw [List.getD_eq_getElem?_getD]
        show some (Value.int .u8 (((bl t)[k]?.getD 0).toNat : Int)) = _
        rw [List.getElem?_eq_getElem (by rw [bl_len]; exact hkt), Option.getD_some]
      have hd := HX.out k hkt
      have hx0 : 0 ≤ x := by rw [hN.out]; omega
      have hx1 : x < 1152921504606846976 := by have := HL.out k (by omega); rw [hN.out]; omega
      have hS : (hexN ((bl t).take (k + 1)) : Int) = x * 16 + (hexD t[k] : Nat) := by rw [HS.out k hkt, hN.out]; omega
      have hD : (hexD t[k] : Int) = if (t[k].toNat : Int) ≤ 57 then (t[k].toNat : Int) - 48 else (t[k].toNat : Int) - 87 := by
        unfold hexB digB at hd
        simp only [Bool.or_eq_true, Bool.and_eq_true, decide_eq_true_eq] at hd
        unfold hexD
        split <;> rename_i h <;> split <;> omega
      rw [hD] at hS
      unfold hexB digB at hd
      simp only [Bool.or_eq_true, Bool.and_eq_true, decide_eq_true_eq] at hd
      generalize (t[k].toNat : Int) = c at *
      have d95 : (c == 95) = false := by rw [beq_eq_false_iff_ne]; omega
      clear hN hD
      by_cases h9 : c ≤ 57
      · rw [if_pos h9] at hS
        have hSh := Lib.hid hS
        have p1 : (48 : Int) ≤ c := by omega
        have p3 : ¬ (16 : Int) ≤ c - 48 := by omega
        have p4 : IntKind.u8.wrap (c - 48) = c - 48 := IntWalk.u8_in _ (by omega)
        have p5 : 0 ≤ c - 48 := by omega
        have p6 : c - 48 < 16 := by omega
        clear hS hd
        go_wp2_with fail
        go_round
        case rel => exact ⟨k + 1, _, by go_num, by omega, rfl, Lib.hid hSh.out.symm, rfl⟩
        case measure => simp [intOf]; omega
      · rw [if_neg h9] at hS
        have hSh := Lib.hid hS
        have r1 : 97 ≤ c := by omega
        have r2 : c ≤ 102 := by omega
        have LC : Hid (∀ W, Calls Tryd.prog 50 #[.int .u8 c] W fun e w' => e = .returned (.int .u8 c) ∧ W = w') := Lib.hid (fun W => by
          have := LW.out c W
          rw [or32 r1 r2] at this
          exact this)
        have p1 : (48 : Int) ≤ c := by omega
        have p2 : ¬ c ≤ 57 := by omega
        have p7 : c ≤ 122 := by omega
        have p3 : ¬ (16 : Int) ≤ c - 97 + 10 := by omega
        have p4 : IntKind.u8.wrap (c - 97) = c - 97 := IntWalk.u8_in _ (by omega)
        have p8 : IntKind.u8.wrap (c - 97 + 10) = c - 97 + 10 := IntWalk.u8_in _ (by omega)
        have p5 : 0 ≤ c - 97 + 10 := by omega
        have p6 : c - 97 + 10 < 16 := by omega
        clear hS hd h9
        go_wp2_with fail
        refine (LC.out _).mono ?_
        rintro e w2 ⟨rfl, rfl⟩
        go_wp2_with fail
        refine (LC.out _).mono ?_
        rintro e w2 ⟨rfl, rfl⟩
        go_wp2_with fail
        refine (LC.out _).mono ?_
        rintro e w2 ⟨rfl, rfl⟩
        go_wp2_with fail
        go_round
        case rel => exact ⟨k + 1, _, by go_num, by omega, rfl, Lib.hid (by rw [hSh.out]; omega), rfl⟩
        case measure => simp [intOf]; omega
    · have HK := Lib.hid (show k = 16 by omega)
      have hk' : (16 : Int) ≤ (k : Int) := by omega
      have hk3 : decide ((k : Int) < 16) = false := by rw [decide_eq_false_iff_not]; omega
      go_wp2_with fail
      go_ret2
      exact ⟨ret_pu (by rw [hN.out, HK.out, HE.out]), HBB.out⟩
theorem parse16_any (t : ByteArray) (h16 : t.size = 16) (hx : ∀ b ∈ bl t, hexB (b.toNat : Int) = true) (w : World) :
    Calls Tryd.prog 30 #[.string t, .int .i64 16, .int .i64 64] w fun e w' => e = .returned (.tuple #[.int .u64 (hexN (bl t) : Nat), .nilIface]) ∧ Below w.heap.size w w' := by
  have P := Lib.hid (pu16_any t h16 hx)
  generalize (hexN (bl t) : Int) = R at *
  clear hx
  go_enter Tryd.func30, Tryd.ntmps30
  go_wp2_with fail
  refine (P.out _).mono ?_
  rintro e w2 ⟨rfl, b2⟩
  go_wp2_with fail
  go_ret2
  exact ⟨rfl, b2⟩
end Go.Proofs.YtffneogphgodnaaDoor
