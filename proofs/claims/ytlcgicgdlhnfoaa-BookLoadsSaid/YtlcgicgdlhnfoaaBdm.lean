/-
  The book: the document's May (25).
-/
import Derived.Test.YtlcgicgdlhnfoaaBcl
import Derived.BigQuiet
namespace Go.Proofs.Ytlcgicgdlhnfoaa
open Go.RowKit
theorem below_drewN {B : Nat} {w w' : World} (h : Below B w w') (n : Nat) : Below B w (w'.drewN n) := ⟨h.os, h.tape, h.output, h.size, h.block⟩
set_option maxHeartbeats 4000000 in
set_option maxRecDepth 100000 in
theorem rmay_any {w : World} {a : Option Addr} {xs : List Int} (c : Nat) (h : Nums w a xs) (hl : xs.length ≤ 9223372036854775807) : Calls Try.prog 25 #[.slice a xs.length c] w fun e w' => e = .returned (.bool (mayB xs)) ∧ Below w.heap.size w w' := by
  have NW := Lib.hid h
  have BW := Lib.hid (Below.refl w.heap.size w)
  have hlI : (xs.length : Int) ≤ 9223372036854775807 := by omega
  clear h
  obtain ⟨m, hm⟩ : ∃ m, m = mayB xs := ⟨_, rfl⟩
  have HM := Lib.hid hm
  rw [← hm]
  clear hm
  by_cases h1 : xs.length < 1
  · have h1I : (xs.length : Int) < 1 := by omega
    have h1B := decide_eq_true h1I
    have RH : m = false := by rw [HM.out]; unfold mayB; rw [decide_eq_true h1]; rfl
    clear HM
    subst RH
    go_enter Try.func25, Try.ntmps25
    go_wp2_with fail
    go_ret
    exact ⟨rfl, BW.out⟩
  have h1I : ¬ (xs.length : Int) < 1 := by omega
  have h1B := decide_eq_false h1I
  by_cases h2 : 16 < xs.length
  · have h2I : 16 < (xs.length : Int) := by omega
    have h2B := decide_eq_true h2I
    have RH : m = false := by rw [HM.out]; unfold mayB; rw [decide_eq_true h2, Bool.or_true]; rfl
    clear HM
    subst RH
    go_enter Try.func25, Try.ntmps25
    go_wp2_with fail
    go_ret
    exact ⟨rfl, BW.out⟩
  have h2I : ¬ 16 < (xs.length : Int) := by omega
  have h2B := decide_eq_false h2I
  have MU : Hid (m = upB (-1) xs) := Lib.hid (by rw [HM.out]; unfold mayB; rw [decide_eq_false h1, decide_eq_false h2]; rfl)
  clear HM
  go_enter Try.func25, Try.ntmps25
  go_wp2_with fail
  go_loopw [3] (fun i wq => ∃ (k : Nat) (y : Int), i = .int .i64 k ∧ k ≤ xs.length ∧ Hid (Below w.heap.size w wq) ∧ Hid (m = upB y (xs.drop k)) ∧ Hid (-1 ≤ y) ∧ Hid (k = 0 → y = -1) ∧ Hid (∀ j (hj : j < xs.length), j + 1 = k → xs[j] = y)) (fun i _ => xs.length - (intOf i).toNat)
  case atStart => exact ⟨0, -1, rfl, Nat.zero_le _, BW, MU, Lib.hid (by omega), Lib.hid (fun _ => rfl), Lib.hid (fun j hj e => by omega)⟩
  case round =>
    obtain ⟨k, y, rfl, hk, B, M, Y, Z, L⟩ := hrel
    by_cases hlt : k < xs.length
    rotate_left
    · have hkI : ¬ (k : Int) < (xs.length : Int) := by omega
      have hkB := decide_eq_false hkI
      have RH : m = true := by rw [M.out, List.drop_eq_nil_of_le (by omega)]; rfl
      clear M MU
      subst RH
      go_wp2_with fail
      go_ret
      exact ⟨rfl, B.out⟩
    have hkI : (k : Int) < (xs.length : Int) := by omega
    have hkB := decide_eq_true hkI
    obtain ⟨g, o, rfl, hg, ck⟩ := NW.out k hlt
    have M2 : m = (!(decide (xs[k] ≤ y) || decide (549755813888 < xs[k])) && upB xs[k] (xs.drop (k + 1))) := by rw [M.out, List.drop_eq_getElem_cons hlt]; rfl
    have HK := Lib.hid (show k + 1 ≤ xs.length by omega)
    rw [← B.out.cell (p := ⟨g, _, none⟩) hg] at ck
    have NX : Hid (∀ j (hj : j < xs.length), j + 1 = k + 1 → xs[j] = xs[k]) := Lib.hid (by
      intro j hj e
      have ej : j = k := Nat.succ.inj e
      subst ej
      rfl)
    have PV : Hid (0 < k → wr.cell? ⟨g, o + (k - 1), none⟩ = some (.int .i64 y)) := Lib.hid (fun h0 => by
      obtain ⟨g2, o2, e2, hg2, c2⟩ := NW.out (k - 1) (by omega)
      cases e2
      rw [L.out (k - 1) (by omega) (by omega)] at c2
      rw [B.out.cell (p := ⟨g, _, none⟩) hg]; exact c2)
    clear M MU L
    generalize xs[k] = p at *
    by_cases g0 : p < 0
    · have g0B := decide_eq_true g0
      have RH : m = false := by rw [M2, decide_eq_true (show p ≤ y by have := Y.out; omega)]; rfl
      clear M2
      subst RH
      go_wp2_with fail
      go_quiet (fail)
      go_wp2_with fail
      go_ret
      exact ⟨rfl, below_drewN B.out _⟩
    have g0B := decide_eq_false g0
    by_cases g2 : 549755813888 < p
    · have g2B := decide_eq_true g2
      have RH : m = false := by rw [M2, g2B, Bool.or_true]; rfl
      clear M2
      subst RH
      go_wp2_with fail
      go_quiet (fail)
      go_wp2_with fail
      go_ret
      exact ⟨rfl, below_drewN B.out _⟩
    have g2B := decide_eq_false g2
    rcases Nat.eq_zero_or_pos k with h0 | h0
    · have h0I : ¬ 0 < (k : Int) := by omega
      have h0B := decide_eq_false h0I
      have h0C : decide (0 < k) = false := decide_eq_false (by omega)
      have h0D : k ≤ 0 := by omega
      have M3 := Lib.hid (show m = upB p (xs.drop (k + 1)) by rw [M2, decide_eq_false (show ¬ p ≤ y by rw [Z.out h0]; omega), g2B]; rfl)
      clear M2 h0
      go_wp2_with fail
      go_quiet (fail)
      go_wp2_with fail
      go_roundw
      case rel => exact ⟨k + 1, p, by go_num, HK.out, Lib.hid (below_drewN B.out _), M3, Lib.hid (by omega), Lib.hid (fun e => by omega), NX⟩
      case measure => simp [intOf]; omega
    have h0I : 0 < (k : Int) := by omega
    have h0B := decide_eq_true h0I
    have cp := PV.out h0
    have hk1 : ((k : Int) - 1) = ((k - 1 : Nat) : Int) := by omega
    by_cases g1 : p ≤ y
    · have g1B := decide_eq_true g1
      have RH : m = false := by rw [M2, g1B]; rfl
      clear M2
      subst RH
      go_wp2_with fail
      go_quiet (fail)
      go_wp2_with fail
      go_ret
      exact ⟨rfl, below_drewN B.out _⟩
    have g1B := decide_eq_false g1
    have M3 := Lib.hid (show m = upB p (xs.drop (k + 1)) by rw [M2, g1B, g2B]; rfl)
    clear M2
    go_wp2_with fail
    go_quiet (fail)
    go_wp2_with fail
    go_roundw
    case rel => exact ⟨k + 1, p, by go_num, HK.out, Lib.hid (below_drewN B.out _), M3, Lib.hid (by omega), Lib.hid (fun e => by omega), NX⟩
    case measure => simp [intOf]; omega
end Go.Proofs.Ytlcgicgdlhnfoaa
