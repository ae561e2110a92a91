/-
  THE WALK OF few: the texts handed on, if they are few enough.
-/
import Derived.Test.YtpnkdpmhphhenabLaws1
namespace Go.Proofs.Ytpnkdpmhphhenab
open Go.RowKit Go.Sort
/-- how many bytes some texts have -/
def total : List ByteArray → Nat
  | [] => 0
  | x :: l => x.size + total l
theorem total_snoc (l : List ByteArray) (x : ByteArray) : total (l ++ [x]) = total l + x.size := by
  induction l with
  | nil => simp [total]
  | cons y l ih => simp [total, ih]; omega
theorem take_next (l : List ByteArray) (k : Nat) (h : k < l.length) : l.take (k + 1) = l.take k ++ [l[k]] := by
  rw [List.take_succ_eq_append_getElem h]
def FewPost (a : Option Addr) (c : Nat) (xs : List ByteArray) (w : World) (e : Ending) (w' : World) : Prop :=
  w = w' ∧ ((∃ v, e = .returned (.tuple #[v, .bool false])) ∨ (e = .returned (.tuple #[.slice a xs.length c, .bool true]) ∧ total xs ≤ 40000 ∧ xs.length ≤ 200))
theorem few_zero (a : Option Addr) (c : Nat) (w : World) : Calls Try.prog 18 #[.slice a 0 c] w fun e w' => e = .returned (.tuple #[.slice a 0 c, .bool true]) ∧ w = w' := by
  go_enter Try.func18, Try.ntmps18
  go_wp2_with fail
  go_rounds 1
  go_ret2
  exact ⟨rfl, rfl⟩
set_option maxHeartbeats 400000 in
theorem few_any (xs : List ByteArray) (a : Option Addr) (c : Nat) (w : World) (hl : xs.length ≤ 140737488355328) (hz : ∀ x ∈ xs, x.size ≤ 9223372036854775807) (h : Strs w a xs) :
    Calls Try.prog 18 #[.slice a xs.length c] w (FewPost a c xs w) := by
  by_cases h0 : xs.length = 0
  · obtain rfl := List.eq_nil_of_length_eq_zero h0
    exact (few_zero a c w).mono fun e w' ⟨he, hw⟩ => ⟨hw, Or.inr ⟨he, Nat.zero_le _, Nat.zero_le _⟩⟩
  obtain ⟨b, o, rfl, hbl, hx0⟩ := h 0 (by omega)
  clear hx0
  have H := Lib.hid h
  have HZ := Lib.hid hz
  clear h hz
  have HP : Hid (∀ w' e, FewPost (some ⟨b, o, none⟩) c xs w e w' ↔ (w = w' ∧ ((∃ v, e = .returned (.tuple #[v, .bool false])) ∨ (e = .returned (.tuple #[.slice (some ⟨b, o, none⟩) xs.length c, .bool true]) ∧ total xs ≤ 40000 ∧ xs.length ≤ 200)))) := fun _ _ => Iff.rfl
  generalize hN : xs.length = N at *
  have HN := Lib.hid hN
  clear hN
  go_enter Try.func18, Try.ntmps18
  go_wp2_with fail
  go_loop [4, 5] (fun n i => ∃ k : Nat, k ≤ N ∧ i = .int .i64 k ∧ n = .int .i64 (total (xs.take k) : Nat) ∧ total (xs.take k) ≤ 40000) (fun _ i => N - (intOf i).toNat)
  case atStart => exact ⟨0, Nat.zero_le _, rfl, rfl, Nat.zero_le _⟩
  case round =>
    obtain ⟨k, hk, rfl, rfl, ht⟩ := hrel
    by_cases hlt : k < N
    · have hlx : k < xs.length := by rw [HN.out]; exact hlt
      obtain ⟨b1, o1, e1, l1, c1⟩ := H.out k hlx
      simp only [Option.some.injEq, Addr.mk.injEq, and_true] at e1
      obtain ⟨rfl, rfl⟩ := e1
      have hzx := HZ.out xs[k] (List.getElem_mem hlx)
      have htn := total_snoc (xs.take k) xs[k]
      rw [← take_next xs k hlx] at htn
      have Htn := Lib.hid htn
      clear htn
      generalize xs[k] = x at *
      generalize hT : total (xs.take k) = T at *
      clear hT
      have hki : (k : Int) < (N : Int) := by omega
      by_cases g1 : 20000 < x.size
      · go_wp2_with fail
        go_ret2
        exact (HP.out _ _).2 ⟨rfl, Or.inl ⟨_, rfl⟩⟩
      by_cases g2 : 20000 < T
      · go_wp2_with fail
        go_ret2
        exact (HP.out _ _).2 ⟨rfl, Or.inl ⟨_, rfl⟩⟩
      · go_wp2_with fail
        go_round
        case rel => exact ⟨k + 1, by omega, by go_num, by rw [Htn.out]; go_num, by rw [Htn.out]; omega⟩
        case measure => simp [intOf]; omega
    · obtain rfl : k = N := by omega
      have ht2 : Hid (total xs ≤ 40000) := by
        rw [List.take_of_length_le (by rw [HN.out]; exact Nat.le_refl _)] at ht
        exact ht
      generalize total (xs.take k) = T at *
      by_cases g3 : k ≤ 200
      · have hd : decide ((k : Int) ≤ 200) = true := decide_eq_true (by omega)
        go_wp2_with fail
        go_ret2
        exact (HP.out _ _).2 ⟨rfl, Or.inr ⟨rfl, ht2.out, g3⟩⟩
      · have hd : decide ((k : Int) ≤ 200) = false := decide_eq_false (by omega)
        go_wp2_with fail
        go_ret2
        exact (HP.out _ _).2 ⟨rfl, Or.inl ⟨_, rfl⟩⟩
end Go.Proofs.Ytpnkdpmhphhenab
