/-
  The book: the document's Same 14, of two lists that are the same.
-/
import Derived.Test.YtlcgicgdlhnfoaaBrw
namespace Go.Proofs.Ytlcgicgdlhnfoaa
open Go.RowKit
set_option maxHeartbeats 8000000 in
set_option maxRecDepth 100000 in
theorem same14_yes {w : World} {a b : Option Addr} {LL : List (List Int)} (ca cb : Nat) (h : Rws w a LL) (h2 : Rws w b LL) (hl : LL.length ≤ 1000) (hx : ∀ xs ∈ LL, xs.length ≤ 1000) :
    Calls Try.prog 14 #[.slice a LL.length ca, .slice b LL.length cb] w fun e w' => e = .returned (.bool true) ∧ Below w.heap.size w w' := by
  have RA := Lib.hid h
  have RB := Lib.hid h2
  have HX := Lib.hid hx
  have B0 := Lib.hid (Below.refl w.heap.size w)
  have hlI : (LL.length : Int) ≤ 1000 := by omega
  clear h h2 hx
  go_enter Try.func14, Try.ntmps14
  go_wp2_with fail
  go_loopw [5] (fun i wr => ∃ (j : Nat), i = .int .i64 j ∧ j ≤ LL.length ∧ Hid (Below w.heap.size w wr)) (fun i _ => LL.length - (intOf i).toNat)
  case atStart => exact ⟨0, rfl, Nat.zero_le _, B0⟩
  case round =>
    obtain ⟨j, rfl, hj, hB⟩ := hrel
    clear B0
    by_cases hjn : j < LL.length
    · have jI : (j : Int) < (LL.length : Int) := by omega
      have jB := decide_eq_true jI
      obtain ⟨g, o, q, c, rfl, hg, ck, nn⟩ := RA.out j hjn
      obtain ⟨g2, o2, q2, c2, rfl, hg2, ck2, nn2⟩ := RB.out j hjn
      have hm := HX.out LL[j] (List.getElem_mem hjn)
      have NA := Lib.hid nn
      have NB := Lib.hid nn2
      have CA : Hid (∀ wr, Below w.heap.size w wr → wr.cell? ⟨g, o + j, none⟩ = some (.slice q LL[j].length c)) := Lib.hid fun wr b => (b.cell (p := ⟨g, _, none⟩) hg).trans ck
      have CB : Hid (∀ wr, Below w.heap.size w wr → wr.cell? ⟨g2, o2 + j, none⟩ = some (.slice q2 LL[j].length c2)) := Lib.hid fun wr b => (b.cell (p := ⟨g2, _, none⟩) hg2).trans ck2
      clear ck ck2 nn nn2 hg hg2 RA RB HX
      generalize LL[j] = xs at *
      have k1 := CA.out wr hB.out
      have k2 := CB.out wr hB.out
      go_wp2_with fail
      go_quiet (fail)
      clear k1 k2
      have B1 := Lib.hid (fun n => below_drewN hB.out n)
      clear hB
      go_wp2_with fail
      go_loopw [6] (fun i wr => ∃ (k : Nat), i = .int .i64 k ∧ k ≤ xs.length ∧ Hid (Below w.heap.size w wr)) (fun i _ => xs.length - (intOf i).toNat)
      case atStart => exact ⟨0, rfl, Nat.zero_le _, Lib.hid (B1.out _)⟩
      case round =>
        obtain ⟨k, rfl, hk, hB⟩ := hrel
        clear B1
        have k1 := CA.out wr hB.out
        have k2 := CB.out wr hB.out
        by_cases hkn : k < xs.length
        · have kI : (k : Int) < (xs.length : Int) := by omega
          have kB := decide_eq_true kI
          obtain ⟨g3, o3, rfl, hg3, ck3⟩ := NA.out k hkn
          obtain ⟨g4, o4, rfl, hg4, ck4⟩ := NB.out k hkn
          have d3 := (hB.out.cell (p := ⟨g3, _, none⟩) hg3).trans ck3
          have d4 := (hB.out.cell (p := ⟨g4, _, none⟩) hg4).trans ck4
          clear ck3 ck4 hg3 hg4
          generalize xs[k] = y at *
          go_wp2_with fail
          go_quiet (fail)
          go_wp2_with fail
          go_roundw
          case rel => exact ⟨k + 1, by go_num, by omega, Lib.hid (below_drewN hB.out _)⟩
          case measure => simp [intOf]; omega
        · obtain rfl : k = xs.length := by omega
          have kI : ¬ (xs.length : Int) < (xs.length : Int) := by omega
          go_wp2_with fail
          go_roundw
          case rel => exact ⟨j + 1, by go_num, by omega, hB⟩
          case measure => simp [intOf]; omega
    · obtain rfl : j = LL.length := by omega
      have jI : ¬ (LL.length : Int) < (LL.length : Int) := by omega
      go_wp2_with fail
      go_ret
      exact ⟨rfl, hB.out⟩
end Go.Proofs.Ytlcgicgdlhnfoaa
