/-
  THE WALK OF THE DOCUMENT OWN Same, of like texts.
-/
import Derived.Test.YtpnkdpmhphhenabUnp
namespace Go.Proofs.Ytpnkdpmhphhenab
open Go.RowKit Go.Sort
/-- the texts of a slice that is read -/
def Strs (w : World) (a : Option Addr) (xs : List ByteArray) : Prop := ∀ i (h : i < xs.length), ∃ b o, a = some ⟨b, o, none⟩ ∧ b < w.heap.size ∧ w.cell? ⟨b, o + i, none⟩ = some (.string xs[i])
theorem Strs.below {w w' : World} {a : Option Addr} {xs : List ByteArray} (h : Strs w a xs) (hb : Below w.heap.size w w') : Strs w' a xs := fun i hi => by
  obtain ⟨b, o, e, hl, hc⟩ := h i hi
  exact ⟨b, o, e, Nat.lt_of_lt_of_le hl hb.size, by rw [hb.cell (p := ⟨b, o + i, none⟩) hl]; exact hc⟩
theorem same_nil (a a' : Option Addr) (c c' : Nat) (w : World) : Calls Try.prog 17 #[.slice a 0 c, .slice a' 0 c'] w fun e w' => e = .returned (.bool true) ∧ w = w' := by
  go_enter Try.func17, Try.ntmps17
  go_wp2_with fail
  go_rounds 1
  go_ret
  exact ⟨rfl, rfl⟩
theorem str_bne (s : ByteArray) : (!(s.toList == s.toList)) = false := by simp
set_option maxHeartbeats 400000 in
theorem same_any (xs : List ByteArray) (a a' : Option Addr) (c c' : Nat) (w : World) (hl : xs.length ≤ 140737488355328) (h : Strs w a xs) (h' : Strs w a' xs) :
    Calls Try.prog 17 #[.slice a xs.length c, .slice a' xs.length c'] w fun e w' => e = .returned (.bool true) ∧ Below w.heap.size w w' := by
  by_cases h0 : xs.length = 0
  · rw [h0]
    exact (same_nil a a' c c' w).mono fun e w' ⟨he, hw⟩ => ⟨he, hw ▸ Below.refl _ _⟩
  obtain ⟨b, o, rfl, hbl, hx0⟩ := h 0 (by omega)
  clear hx0
  obtain ⟨b', o', rfl, hbl', hx0⟩ := h' 0 (by omega)
  clear hx0
  have H := Lib.hid h
  have H' := Lib.hid h'
  clear h h'
  generalize hN : xs.length = N at *
  have HN := Lib.hid hN
  clear hN
  go_enter Try.func17, Try.ntmps17
  go_wp2_with fail
  go_loopw [5] (fun i wr => Below w.heap.size w wr ∧ ∃ k : Nat, k ≤ N ∧ i = .int .i64 k) (fun i _ => N - (intOf i).toNat)
  case atStart => exact ⟨Below.refl _ _, 0, Nat.zero_le _, rfl⟩
  case round =>
    obtain ⟨hb, k, hk, rfl⟩ := hrel
    by_cases hlt : k < N
    · have hlx : k < xs.length := by rw [HN.out]; exact hlt
      obtain ⟨b1, o1, e1, l1, c1⟩ := H.out k hlx
      obtain ⟨b2, o2, e2, l2, c2⟩ := H'.out k hlx
      simp only [Option.some.injEq, Addr.mk.injEq, and_true] at e1 e2
      obtain ⟨rfl, rfl⟩ := e1
      obtain ⟨rfl, rfl⟩ := e2
      rw [← hb.cell (p := ⟨b, o + k, none⟩) l1] at c1
      rw [← hb.cell (p := ⟨b', o' + k, none⟩) l2] at c2
      have hki : (k : Int) < (N : Int) := by omega
      have hne := str_bne xs[k]
      generalize xs[k] = x at *
      go_wp2_with fail
      go_quiet (fail)
      go_wp2_with fail
      go_roundw
      case rel => exact ⟨below_drewN hb _, k + 1, by omega, by go_num⟩
      case measure => simp [intOf]; omega
    · go_wp2_with fail
      go_ret
      exact ⟨rfl, hb⟩
end Go.Proofs.Ytpnkdpmhphhenab
