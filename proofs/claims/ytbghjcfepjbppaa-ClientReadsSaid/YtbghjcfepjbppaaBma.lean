/-
  The book: numbers in memory; may (26).
-/
import Derived.Test.YtbghjcfepjbppaaCln
import Derived.Test.YtbghjcfepjbppaaFrame
namespace Go.Proofs.Ytbghjcfepjbppaa.Bk
open Go.RowKit
/-- numbers that can be read -/
def Nums (w : World) (a : Option Addr) (xs : List Int) : Prop := ∀ i (h : i < xs.length), ∃ g o, a = some ⟨g, o, none⟩ ∧ g < w.heap.size ∧ w.cell? ⟨g, o + i, none⟩ = some (.int .i64 xs[i])
theorem Nums.next {w w' : World} {a : Option Addr} {xs : List Int} (h : Nums w a xs) (hb : Below w.heap.size w w') : Nums w' a xs := fun i hi => by
  obtain ⟨g, o, e, hg, c⟩ := h i hi
  exact ⟨g, o, e, Nat.lt_of_lt_of_le hg hb.size, by rw [hb.cell (p := ⟨g, _, none⟩) hg]; exact c⟩
/-- they rise, from behind one on, and none is too great -/
def upB : Int → List Int → Bool
  | _, [] => true
  | z, p :: r => !(decide (p ≤ z) || decide (549755813888 < p)) && upB p r
/-- a match may be -/
def mayB (xs : List Int) : Bool := !(decide (xs.length < 1) || decide (16 < xs.length)) && upB (-1) xs
set_option maxHeartbeats 4000000 in
set_option maxRecDepth 100000 in
theorem may_any {w : World} {a : Option Addr} {xs : List Int} (c : Nat) (h : Nums w a xs) (hl : xs.length ≤ 9223372036854775807) : Calls Try.prog 63 #[.agg #[.slice a xs.length c]] w fun e w' => e = .returned (.bool (mayB xs)) ∧ Below w.heap.size w w' := by
  obtain ⟨W, hW⟩ : ∃ W, W = w.alloc (.cells #[.slice a xs.length c] 70) := ⟨_, rfl⟩
  have bW : Below w.heap.size w W := by rw [hW]; exact (Below.refl _ w).alloc (Nat.le_refl _) _
  have cW : W.cell? ⟨w.heap.size, 0, none⟩ = some (.slice a xs.length c) := by rw [hW, World.cell?_alloc_new]; rfl
  have NW := Lib.hid (h.next bW)
  have BW := Lib.hid bW
  have HW := Lib.hid hW
  have hlI : (xs.length : Int) ≤ 9223372036854775807 := by omega
  clear h hW bW
  obtain ⟨m, hm⟩ : ∃ m, m = mayB xs := ⟨_, rfl⟩
  have HM := Lib.hid hm
  rw [← hm]
  clear hm
  by_cases h1 : xs.length < 1
  · have h1I : (xs.length : Int) < 1 := by omega
    have h1B := decide_eq_true h1I
    have RH : m = false := by rw [HM.out]; unfold mayB; rw [decide_eq_true h1]; rfl
    subst RH
    go_enter Try.func63, Try.ntmps63
    go_wp2_with (rw [← HW.out])
    go_ret
    exact ⟨rfl, BW.out⟩
  have h1I : ¬ (xs.length : Int) < 1 := by omega
  have h1B := decide_eq_false h1I
  by_cases h2 : 16 < xs.length
  · have h2I : 16 < (xs.length : Int) := by omega
    have h2B := decide_eq_true h2I
    have RH : m = false := by rw [HM.out]; unfold mayB; rw [decide_eq_true h2, Bool.or_true]; rfl
    subst RH
    go_enter Try.func63, Try.ntmps63
    go_wp2_with (rw [← HW.out])
    go_ret
    exact ⟨rfl, BW.out⟩
  have h2I : ¬ 16 < (xs.length : Int) := by omega
  have h2B := decide_eq_false h2I
  have MU : Hid (m = upB (-1) xs) := Lib.hid (by rw [HM.out]; unfold mayB; rw [decide_eq_false h1, decide_eq_false h2]; rfl)
  clear HM
  go_enter Try.func63, Try.ntmps63
  go_wp2_with (rw [← HW.out])
  go_loopw [19, 3] (fun i z wq => ∃ (k : Nat) (y : Int), i = .int .i64 k ∧ z = .int .i64 y ∧ k ≤ xs.length ∧ wq = W ∧ Hid (m = upB y (xs.drop k))) (fun i _ _ => xs.length - (intOf i).toNat)
  case atStart => exact ⟨0, -1, rfl, rfl, Nat.zero_le _, rfl, MU⟩
  case round =>
    obtain ⟨k, y, rfl, rfl, hk, rfl, M⟩ := hrel
    by_cases hlt : k < xs.length
    rotate_left
    · have hkI : ¬ (k : Int) < (xs.length : Int) := by omega
      have hkB := decide_eq_false hkI
      have RH : m = true := by rw [M.out, List.drop_eq_nil_of_le (by omega)]; rfl
      subst RH
      go_wp2_with fail
      go_ret
      exact ⟨rfl, BW.out⟩
    have hkI : (k : Int) < (xs.length : Int) := by omega
    have hkB := decide_eq_true hkI
    obtain ⟨g, o, rfl, hg, ck⟩ := NW.out k hlt
    have M2 : m = (!(decide (xs[k] ≤ y) || decide (549755813888 < xs[k])) && upB xs[k] (xs.drop (k + 1))) := by rw [M.out, List.drop_eq_getElem_cons hlt]; rfl
    have HK := Lib.hid (show k + 1 ≤ xs.length by omega)
    clear M
    generalize xs[k] = p at *
    by_cases g1 : p ≤ y
    · have g1B := decide_eq_true g1
      have RH : m = false := by rw [M2, g1B]; rfl
      clear M2
      subst RH
      go_wp2_with fail
      go_ret
      exact ⟨rfl, BW.out⟩
    have g1B := decide_eq_false g1
    by_cases g2 : 549755813888 < p
    · have g2B := decide_eq_true g2
      have RH : m = false := by rw [M2, g2B, Bool.or_true]; rfl
      clear M2
      subst RH
      go_wp2_with fail
      go_ret
      exact ⟨rfl, BW.out⟩
    have g2B := decide_eq_false g2
    have M3 := Lib.hid (show m = upB p (xs.drop (k + 1)) by rw [M2, g1B, g2B]; rfl)
    clear M2
    go_wp2_with fail
    go_roundw
    case rel => exact ⟨k + 1, p, by go_num, rfl, HK.out, by trivial, M3⟩
    case measure => simp [intOf]; omega
end Go.Proofs.Ytbghjcfepjbppaa.Bk
