/-
  THE DOCUMENT's single AND text.
-/
import Derived.Test.YtffneogphgodnaaDoorSca
namespace Go.Proofs.YtffneogphgodnaaDoor
open Go.RowKit
/-- what the document's functions say of the token at a place -/
def Ond (w : World) (s : ByteArray) (a : Nat) (x : T1) (e : Ending) (w' : World) : Prop := ∃ (k p : Int) (t : ByteArray) (n : Int) (z : ByteArray), e = .returned (.tuple #[tokV k p t n z, .bool (decide (x.m ≠ 0))]) ∧
  (x.m ≠ 0 → k = x.k ∧ p = a ∧ t = (rst s a).extract 0 x.m ∧ n = x.n ∧ z = x.s) ∧ Below w.heap.size w w'
theorem bl_rst (s : ByteArray) (a : Nat) : bl (rst s a) = (bl s).drop a := by
  unfold rst
  rw [bl_extract, List.take_of_length_le (by rw [List.length_drop, bl_len]; exact Nat.le_refl _)]
theorem inner_rst (s : ByteArray) (a : Nat) : inner (rst s a) = rst s (a + 1) := by
  apply ba_ext
  show bl _ = bl _
  rw [bl_inner, bl_rst, bl_rst, List.drop_drop]
/-- a span from a place on: where it stops -/
theorem span_at_stop {p : Int → Bool} {s : ByteArray} {a k : Nat} (h : a + k < s.size) (hall : ∀ j, j < k → ∀ h : a + j < s.size, p (s[a + j].toNat : Int) = true) (hk : p (s[a + k].toNat : Int) = false) : spanN p (bl (rst s a)) = k := by
  rw [bl_rst]
  have hl : k < ((bl s).drop a).length := by rw [List.length_drop, bl_len]; omega
  refine span_stop hl (fun j hj => ?_) ?_
  · rw [List.getElem_drop, bl_at s (a + j) (by omega)]; exact hall j hj (by omega)
  · rw [List.getElem_drop, bl_at s (a + k) h]; exact hk
theorem span_at_all {p : Int → Bool} {s : ByteArray} {a k : Nat} (h : a + k = s.size) (hall : ∀ j, j < k → ∀ h : a + j < s.size, p (s[a + j].toNat : Int) = true) : spanN p (bl (rst s a)) = k := by
  rw [bl_rst]
  have hl : ((bl s).drop a).length = k := by rw [List.length_drop, bl_len]; omega
  rw [← hl]
  refine span_all (fun j hj => ?_)
  rw [List.getElem_drop, bl_at s (a + j) (by omega)]
  exact hall j (by omega) (by omega)
theorem all_next {p : Int → Bool} {s : ByteArray} {a k : Nat} (h : a + k < s.size) (hall : ∀ j, j < k → ∀ h : a + j < s.size, p (s[a + j].toNat : Int) = true) (hk : p (s[a + k].toNat : Int) = true) : ∀ j, j < k + 1 → ∀ h : a + j < s.size, p (s[a + j].toNat : Int) = true := fun j hj hj' => by
  by_cases e : j = k
  · subst e; exact hk
  · exact hall j (by omega) hj'
def sgns : ByteArray := ⟨#[40, 41, 91, 93, 123, 125, 44, 59, 124, 42, 43, 63, 33, 61, 60, 62, 47]⟩
theorem sgn_mem (c : Int) : (∃ k, ∃ h : k < 17, (sgns[k]'(by exact h)).toNat = c) ↔ ∃ b ∈ signs, (b.toNat : Int) = c := by
  constructor
  · rintro ⟨k, h, e⟩
    exact ⟨sgns[k]'(by exact h), by
      have : sgns[k]'(by exact h) = signs[k]'(by exact h) := rfl
      rw [this]; exact List.getElem_mem _, e⟩
  · rintro ⟨b, hb, e⟩
    obtain ⟨k, hk, rfl⟩ := List.getElem_of_mem hb
    exact ⟨k, hk, e⟩
def sgnB (c : Int) : Bool := signs.any fun b => decide ((b.toNat : Int) = c)
theorem sgnB_pre (c : Int) (k : Nat) (hk : k < 17) (h : ((sgns[k]'(by exact hk)).toNat : Int) = c) : sgnB c = true := by
  unfold sgnB
  exact List.any_eq_true.2 ⟨signs[k]'(by exact hk), List.getElem_mem _, decide_eq_true h⟩
theorem sgnB_none (c : Int) (h : ∀ k (hk : k < 17), ((sgns[k]'(by exact hk)).toNat : Int) ≠ c) : sgnB c = false := by
  unfold sgnB
  rw [List.any_eq_false]
  intro b hb
  obtain ⟨k, hk, rfl⟩ := List.getElem_of_mem hb
  have := h k hk
  simp only [decide_eq_true_eq]
  exact this
set_option maxHeartbeats 1000000 in
theorem single_any (c : Int) (w : World) : Calls Tryd.prog 37 #[.int .u8 c] w fun e w' => e = .returned (.bool (sgnB c)) ∧ w = w' := by
  go_enter Tryd.func37, Tryd.ntmps37
  go_wp2_with fail
  go_loop [4] (fun i => ∃ k : Nat, i = .int .i64 k ∧ k ≤ 17 ∧ Hid (∀ j (hj : j < k) (h : j < 17), ((sgns[j]'(by exact h)).toNat : Int) ≠ c)) (fun i => 17 - (intOf i).toNat)
  case atStart => exact ⟨0, rfl, Nat.zero_le _, Lib.hid (fun j hj => absurd hj (Nat.not_lt_zero j))⟩
  case round =>
    obtain ⟨k, rfl, hk, hall⟩ := hrel
    by_cases hks : k < 17
    · by_cases he : ((sgns[k]'(by exact hks)).toNat : Int) = c
      · have E := Lib.hid (sgnB_pre c k hks he)
        have he' : (((sgns[k]'(by exact hks)).toNat : Int) == c) = true := by simpa using he
        unfold sgns at he'
        clear he
        go_wp2_with fail
        go_ret
        exact ⟨ret_bool E.out.symm, rfl⟩
      · have E : Hid (∀ j (hj : j < k + 1) (h : j < 17), ((sgns[j]'(by exact h)).toNat : Int) ≠ c) := Lib.hid (fun j hj h => by
          by_cases e : j = k
          · subst e; exact he
          · exact hall.out j (by omega) h)
        have he' : (((sgns[k]'(by exact hks)).toNat : Int) == c) = false := by simpa using he
        unfold sgns at he'
        clear he
        go_wp2_with fail
        go_round
        case rel => exact ⟨k + 1, by go_num, by omega, E⟩
        case measure => simp [intOf]; omega
    · obtain rfl : k = 17 := by omega
      have E := Lib.hid (sgnB_none c (fun j hj => hall.out j hj hj))
      go_wp2_with fail
      go_ret
      exact ⟨ret_bool E.out.symm, rfl⟩
theorem bl_get (s : ByteArray) (k : Nat) (h : k < s.size) : (bl s).getD k 0 = s[k] := by
  rw [List.getD_eq_getElem?_getD, List.getElem?_eq_getElem (by rw [bl_len]; exact h), Option.getD_some, bl_at s k h]
theorem rst_get (s : ByteArray) (a k : Nat) (h : a + k < s.size) : (bl (rst s a)).getD k 0 = s[a + k] := by
  rw [bl_rst, List.getD_eq_getElem?_getD, List.getElem?_drop, ← List.getD_eq_getElem?_getD, bl_get s (a + k) h]
theorem tx_ok {s : ByteArray} {a k : Nat} (hk : a + 1 + k < s.size) (h39 : (s[a + 1 + k].toNat : Int) = 39) (hsp : spanN textB (bl (rst s (a + 1))) = k) (h64 : k ≤ 64) : textT (rst s a) = ⟨3, k + 2, 0, (rst s (a + 1)).extract 0 k⟩ := by
  unfold textT textOk
  rw [inner_rst, hsp, rst_size, rst_get s (a + 1) k hk]
  have e : s[a + 1 + k] = 39 := UInt8.toNat_inj.1 (by have : s[a + 1 + k].toNat = 39 := by omega
                                                      exact this)
  rw [e, decide_eq_true h64, decide_eq_true (show k < s.size - (a + 1) by omega)]
  rfl
theorem tx_no {s : ByteArray} {a k : Nat} (hsp : spanN textB (bl (rst s (a + 1))) = k) (h : 64 < k ∨ s.size ≤ a + 1 + k ∨ ∃ h : a + 1 + k < s.size, (s[a + 1 + k].toNat : Int) ≠ 39) : textT (rst s a) = t0 := by
  unfold textT textOk
  rw [inner_rst, hsp, rst_size]
  rw [if_neg]
  intro hh
  simp only [Bool.and_eq_true, decide_eq_true_eq] at hh
  obtain ⟨h1, h2, h3⟩ := hh
  rcases h with h | h | ⟨h, h'⟩
  · omega
  · omega
  · rw [rst_get s (a + 1) k h] at h3
    rw [h3] at h'
    exact h' rfl
theorem ond_no {w w' : World} {s : ByteArray} {a : Nat} {x : T1} (hx : x = t0) (b : Below w.heap.size w w') : Ond w s a x (.returned (.tuple #[tokV 0 0 ⟨#[]⟩ 0 ⟨#[]⟩, .bool false])) w' := by
  subst hx
  exact ⟨0, 0, ⟨#[]⟩, 0, ⟨#[]⟩, rfl, fun h => absurd rfl h, b⟩
theorem ond_ok {w w' : World} {s : ByteArray} {a : Nat} {x : T1} {k p n : Int} {t z : ByteArray} (hm : x.m ≠ 0) (h : k = x.k ∧ p = a ∧ t = (rst s a).extract 0 x.m ∧ n = x.n ∧ z = x.s) (b : Below w.heap.size w w') : Ond w s a x (.returned (.tuple #[.agg #[.int .i64 k, .int .i64 p, .string t, .int .i64 n, .string z], .bool true])) w' :=
  ⟨k, p, t, n, z, by rw [decide_eq_true hm]; rfl, fun _ => h, b⟩
end Go.Proofs.YtffneogphgodnaaDoor
